/-
  The bits of a whole number by a power of two, what Fixed makes of them, of what lies less than a half beside them, and of their negative; and the walk of VecWhole.
-/
import Derived.Test.YtcaleaecjoafhaaLives3
import Derived.Laws.BitsAllLaws
namespace Go.Proofs.Ytcaleaecjoafhaa
open Go.RowKit
open Ieee (double)

theorem ret_int' {k : IntKind} {a b : Int} (h : a = b) : Ending.returned (.int k a) = .returned (.int k b) := by rw [h]
theorem tmod_lo' (n m : Int) (h : 1 ≤ m) : -m < n.tmod m ∧ n.tmod m < m := by
  have h1 := Int.tmod_lt_of_pos n (show 0 < m by omega)
  have h2 := Int.tmod_lt_of_pos (-n) (show 0 < m by omega)
  rw [Int.neg_tmod] at h2
  omega
theorem tmod_neg' {n m : Int} (h : 1 ≤ m) (h2 : n.tmod m < 0) : n.tmod m + m = n % m := by
  rw [Int.tmod_eq_emod] at h2 ⊢
  have := Int.emod_nonneg n (show m ≠ 0 by omega)
  split at h2
  · omega
  · rename_i hc
    rw [if_neg hc]
    omega
theorem tmod_pos' {n m : Int} (h : 1 ≤ m) (h2 : 0 ≤ n.tmod m) : n.tmod m = n % m := by
  rw [Int.tmod_eq_emod] at h2 ⊢
  have := Int.emod_lt_of_pos n (show 0 < m by omega)
  split at h2
  · rename_i hc
    rw [if_pos hc]
    omega
  · omega
theorem pickn_any (n m : Int) (w : World) (h3 : 1 ≤ m) (h4 : m ≤ 1000000) :
    Calls Try.prog 35 #[.int .i64 n, .int .i64 m] w fun e w' => e = .returned (.int .i64 (n % m)) ∧ w = w' := by
  obtain ⟨hb1, hb2⟩ := tmod_lo' n m h3
  by_cases hneg : n.tmod m < 0
  · go_enter Try.func35, Try.ntmps35
    go_wp2
    go_ret
    exact ⟨ret_int' (tmod_neg' h3 hneg), rfl⟩
  · have hpos : 0 ≤ n.tmod m := by omega
    go_enter Try.func35, Try.ntmps35
    go_wp2
    go_ret
    exact ⟨ret_int' (tmod_pos' h3 hpos), rfl⟩

theorem read_bits {D e M : Nat} {s : Bool} (h1 : 1 ≤ e) (h2 : e ≤ 2046) (hM : M < 4503599627370496) (hD : D = (if s then 9223372036854775808 else 0) + e * 4503599627370496 + M) :
    double.read D = .number s (4503599627370496 + M) ((e : Int) - 1075) := by
  have hl : D < 18446744073709551616 := by cases s <;> simp at hD <;> omega
  have hs : decide (9223372036854775808 ≤ D) = s := by cases s <;> simp at hD ⊢ <;> omega
  have hE : D / 4503599627370496 % 2048 = e := by cases s <;> simp at hD <;> omega
  have hm : D % 4503599627370496 = M := by cases s <;> simp at hD <;> omega
  have h := (parts D hl).2.2.1
  rw [hE, hm, hs] at h
  exact h (by omega) (by omega)
theorem read_low {D M : Nat} {s : Bool} (hM : M < 4503599627370496) (hD : D = (if s then 9223372036854775808 else 0) + M) :
    double.read D = .number s M (-1074) := by
  have hl : D < 18446744073709551616 := by cases s <;> simp at hD <;> omega
  have hs : decide (9223372036854775808 ≤ D) = s := by cases s <;> simp at hD ⊢ <;> omega
  have hE : D / 4503599627370496 % 2048 = 0 := by cases s <;> simp at hD <;> omega
  have hm : D % 4503599627370496 = M := by cases s <;> simp at hD <;> omega
  have h := (parts D hl).2.2.2
  rw [hE, hm, hs] at h
  exact h rfl
theorem rte_near {N low J : Nat} (h : 2 * low < 2 ^ J) : rte (N * 2 ^ J + low) J = N := by
  have hp : 0 < 2 ^ J := Nat.two_pow_pos J
  have h1 : (N * 2 ^ J + low) / 2 ^ J = N := by
    rw [Nat.add_comm, Nat.mul_comm, Nat.add_mul_div_left _ _ hp, Nat.div_eq_of_lt (by omega), Nat.zero_add]
  have h2 : (N * 2 ^ J + low) % 2 ^ J = low := by
    rw [Nat.add_comm, Nat.mul_comm, Nat.add_mul_mod_self_left, Nat.mod_eq_of_lt (by omega)]
  unfold rte
  rw [h1, h2, if_neg (by omega), Nat.add_zero]
/-- How far a number of 16 bits is shifted to have 53 bits. -/
def sh (N : Nat) : Nat := 52 - N.log2
theorem sh_facts {N : Nat} (h1 : 1 ≤ N) (h2 : N ≤ 32768) : 37 ≤ sh N ∧ sh N ≤ 52 ∧ 4503599627370496 ≤ N * 2 ^ sh N ∧ N * 2 ^ sh N ≤ 9007061815787520 := by
  have hL : N.log2 < 16 := (Nat.log2_lt (by omega)).2 (by omega)
  have hlo : 2 ^ N.log2 ≤ N := Nat.log2_self_le (by omega)
  have hhi : N + 1 ≤ 2 ^ (N.log2 + 1) := Nat.lt_log2_self
  have e1 : (2 : Nat) ^ N.log2 * 2 ^ (52 - N.log2) = 4503599627370496 := by
    rw [← Nat.pow_add, show N.log2 + (52 - N.log2) = 52 by omega]
  have e2 : (2 : Nat) ^ (N.log2 + 1) * 2 ^ (52 - N.log2) = 9007199254740992 := by
    rw [← Nat.pow_add, show N.log2 + 1 + (52 - N.log2) = 53 by omega]
  have g1 := Nat.mul_le_mul_right (2 ^ (52 - N.log2)) hlo
  have g2 := Nat.mul_le_mul_right (2 ^ (52 - N.log2)) hhi
  have g3 : (137438953472 : Nat) ≤ 2 ^ (52 - N.log2) := by
    calc 137438953472 = 2 ^ 37 := by decide
      _ ≤ _ := Nat.pow_le_pow_right (by decide) (by omega)
  rw [Nat.add_mul, Nat.one_mul] at g2
  unfold sh
  omega
/-- What Fixed makes of a number's bits with some low bits more. -/
theorem fx_whole {D N low f : Nat} {s : Bool} {x er : Int} (h1 : 1 ≤ N) (h2 : N ≤ 32768) (hf : f ≤ 15) (hlow : low < 4294967296)
    (hD : D = (if s then 9223372036854775808 else 0) + (1075 - f - sh N) * 4503599627370496 + (N * 2 ^ sh N - 4503599627370496 + low)) (h : Told16 (sg s N) x er) : Fx D f x er := by
  obtain ⟨j1, j2, j3, j4⟩ := sh_facts h1 h2
  have hr := read_bits (e := 1075 - f - sh N) (M := N * 2 ^ sh N - 4503599627370496 + low) (by omega) (by omega) (by omega) hD
  refine fx_mk (by omega) (by omega) hr ?_
  have hp : (4294967296 : Nat) * 2 ≤ 2 ^ sh N := by
    calc 4294967296 * 2 = 2 ^ 33 := by decide
      _ ≤ _ := Nat.pow_le_pow_right (by decide) (by omega)
  have hrv : rv (4503599627370496 + (N * 2 ^ sh N - 4503599627370496 + low)) (((1075 - f - sh N : Nat) : Int) - 1075 + (f : Int)) = N := by
    unfold rv
    rw [show (((1075 - f - sh N : Nat) : Int) - 1075 + (f : Int)).toNat = 0 by omega, show (-(((1075 - f - sh N : Nat) : Int) - 1075 + (f : Int))).toNat = sh N by omega, Nat.pow_zero, Nat.mul_one,
      show 4503599627370496 + (N * 2 ^ sh N - 4503599627370496 + low) = N * 2 ^ sh N + low by omega]
    exact rte_near (by omega)
  rw [hrv]
  exact h
/-- What Fixed makes of the least doubles. -/
theorem fx_least {D low f : Nat} {s : Bool} (hf : f ≤ 15) (hlow : low < 4294967296) (hD : D = (if s then 9223372036854775808 else 0) + low) : Fx D f 0 0 := by
  refine fx_mk (by omega) (by omega) (read_low (by omega) hD) ?_
  have hrv : rv low (-1074 + (f : Int)) = 0 := by
    unfold rv
    refine rte_small ?_
    rw [show (-1074 + (f : Int)).toNat = 0 by omega, Nat.pow_zero, Nat.mul_one]
    calc 2 * low < 2 ^ 33 := by omega
      _ ≤ 2 ^ (-(-1074 + (f : Int))).toNat := Nat.pow_le_pow_right (by decide) (by omega)
  rw [hrv, sg_none]
  exact .inl ⟨by decide, by decide, rfl, rfl⟩
theorem xor_top {y : Nat} (h : y < 9223372036854775808) : y ^^^ 9223372036854775808 = 9223372036854775808 + y := by
  have e : (9223372036854775808 : Nat) = 2 ^ 63 := by decide
  have h' : y < 2 ^ 63 := by rw [← e]; exact h
  have h3 := Nat.two_pow_add_eq_or_of_lt h' 1
  rw [Nat.mul_one] at h3
  rw [e, h3]
  refine Nat.eq_of_testBit_eq fun i => ?_
  rw [Nat.testBit_xor, Nat.testBit_or, Nat.testBit_two_pow]
  by_cases hi : 63 = i
  · subst hi
    rw [Nat.testBit_lt_two_pow h']
    simp
  · simp [hi]
theorem xor_top' {y : Nat} (h : y < 9223372036854775808) : (9223372036854775808 + y) ^^^ 9223372036854775808 = y := by
  rw [← xor_top h, Nat.xor_assoc, Nat.xor_self, Nat.xor_zero]

theorem sh_below {N j : Nat} (h1 : 1 ≤ N) (h2 : N ≤ 32768) (hj : j < sh N) : N * 2 ^ j < 4503599627370496 := by
  obtain ⟨_, _, _, h4⟩ := sh_facts h1 h2
  have e : N * 2 ^ sh N = N * 2 ^ j * 2 ^ (sh N - j) := by
    rw [Nat.mul_assoc, ← Nat.pow_add]
    congr 2
    omega
  have h2' : 2 ≤ 2 ^ (sh N - j) := by
    calc 2 = 2 ^ 1 := rfl
      _ ≤ _ := Nat.pow_le_pow_right (by decide) (by omega)
  have := Nat.mul_le_mul_left (N * 2 ^ j) h2'
  omega
/-- The bits that the law's own function makes of a number that is not nought. -/
def bitsOf (s : Bool) (N f : Nat) : Nat := (if s then 9223372036854775808 else 0) + (1075 - f - sh N) * 4503599627370496 + (N * 2 ^ sh N - 4503599627370496)
theorem join_bits (S : Nat) (hS : S = 0 ∨ S = 9223372036854775808) {e M : Nat} (h2 : e ≤ 2046) (hM : M < 4503599627370496) :
    bits BinOp.or IntKind.u64 (bits BinOp.or IntKind.u64 (S : Int) ((e : Int) * 4503599627370496)) (M : Int) = ((S + e * 4503599627370496 + M : Nat) : Int) := by
  have e1 : ((e : Int) * 4503599627370496) = ((e * 4503599627370496 : Nat) : Int) := by omega
  have j1 : S ||| e * 4503599627370496 = S + e * 4503599627370496 := nat_join 63 S (e * 4503599627370496) (by rcases hS with rfl | rfl <;> decide) (by omega)
  have j2 : (S + e * 4503599627370496) ||| M = S + e * 4503599627370496 + M := nat_join 52 _ M (by omega) (by omega)
  rw [e1, u64_or_nat _ _ (by omega) (by omega), j1, u64_or_nat _ _ (by omega) (by omega), j2]

set_option maxRecDepth 100000 in
set_option maxHeartbeats 1600000 in
theorem double_at (n : Int) (N f : Nat) (s : Bool) (w : World) (hn : n = sg s N) (h1 : 1 ≤ N) (h2 : N ≤ 32768) (h3 : n ≤ 32767) (hf : f ≤ 15) :
    Calls Try.prog 36 #[.int .i16 n, .int .i64 (-(f : Int))] w fun e w' => e = .returned (.int .u64 (bitsOf s N f : Nat)) ∧ w = w' := by
  obtain ⟨j1, j2, j3, j4⟩ := sh_facts h1 h2
  have J3 := hid j3
  have J4 := hid j4
  clear j3 j4
  have HB : Hid (∀ j, j < sh N → N * 2 ^ j < 4503599627370496) := hid fun j hj => sh_below h1 h2 hj
  cases s with
  | false =>
    have hn' : n = (N : Int) := hn
    subst hn'
    have q0 : ((N : Int) == 0) = false := by simp; omega
    clear hn
    go_enter Try.func36, Try.ntmps36
    go_wp2
    go_loop [5, 7] (fun m e => ∃ j : Nat, j ≤ sh N ∧ m = .int .u64 ((N * 2 ^ j : Nat) : Int) ∧ e = .int .i64 (1075 - (f : Int) - j)) (fun _ e => (intOf e).toNat)
    case atStart => exact ⟨0, Nat.zero_le _, by simp, by go_num⟩
    case round =>
      obtain ⟨j, hj, rfl, rfl⟩ := hrel
      by_cases hlt : j < sh N
      · have hb : ((N * 2 ^ j : Nat) : Int) < 4503599627370496 := by have := HB.out j hlt; omega
        have hpos : 0 < ((N * 2 ^ j : Nat) : Int) := by have : 0 < N * 2 ^ j := Nat.mul_pos (by omega) (Nat.two_pow_pos _); omega
        have HN : Hid (((N * 2 ^ (j + 1) : Nat) : Int) = ((N * 2 ^ j : Nat) : Int) * 2) := hid (by rw [Nat.pow_succ, ← Nat.mul_assoc]; omega)
        generalize ((N * 2 ^ j : Nat) : Int) = m at *
        go_wp2
        go_round
        case rel => exact ⟨j + 1, by omega, by rw [HN.out], by go_num⟩
        case measure => simp [intOf]; omega
      · obtain rfl : j = sh N := by omega
        have HJ : Hid (bits BinOp.or IntKind.u64 (bits BinOp.or IntKind.u64 0 ((1075 - (f : Int) - sh N) * 4503599627370496)) (((N * 2 ^ sh N : Nat) : Int) - 4503599627370496) = (bitsOf false N f : Nat)) := hid (by
          have h := join_bits 0 (.inl rfl) (e := 1075 - f - sh N) (M := N * 2 ^ sh N - 4503599627370496) (by omega) (by have := J4.out; omega)
          rw [show ((1075 - f - sh N : Nat) : Int) = 1075 - (f : Int) - sh N by omega, show ((N * 2 ^ sh N - 4503599627370496 : Nat) : Int) = ((N * 2 ^ sh N : Nat) : Int) - 4503599627370496 by have := J3.out; omega] at h
          exact h)
        have hb : (4503599627370496 : Int) ≤ ((N * 2 ^ sh N : Nat) : Int) := by have := J3.out; omega
        have hb2 : ((N * 2 ^ sh N : Nat) : Int) ≤ 9007061815787520 := by have := J4.out; omega
        generalize ((N * 2 ^ sh N : Nat) : Int) = m at *
        go_wp2
        go_ret
        exact ⟨ret_int' HJ.out, rfl⟩
  | true =>
    have hn' : n = -(N : Int) := hn
    subst hn'
    have q0 : (-(N : Int) == 0) = false := by simp; omega
    clear hn
    go_enter Try.func36, Try.ntmps36
    go_wp2
    go_loop [5, 7] (fun m e => ∃ j : Nat, j ≤ sh N ∧ m = .int .u64 ((N * 2 ^ j : Nat) : Int) ∧ e = .int .i64 (1075 - (f : Int) - j)) (fun _ e => (intOf e).toNat)
    case atStart => exact ⟨0, Nat.zero_le _, by simp, by go_num⟩
    case round =>
      obtain ⟨j, hj, rfl, rfl⟩ := hrel
      by_cases hlt : j < sh N
      · have hb : ((N * 2 ^ j : Nat) : Int) < 4503599627370496 := by have := HB.out j hlt; omega
        have hpos : 0 < ((N * 2 ^ j : Nat) : Int) := by have : 0 < N * 2 ^ j := Nat.mul_pos (by omega) (Nat.two_pow_pos _); omega
        have HN : Hid (((N * 2 ^ (j + 1) : Nat) : Int) = ((N * 2 ^ j : Nat) : Int) * 2) := hid (by rw [Nat.pow_succ, ← Nat.mul_assoc]; omega)
        generalize ((N * 2 ^ j : Nat) : Int) = m at *
        go_wp2
        go_round
        case rel => exact ⟨j + 1, by omega, by rw [HN.out], by go_num⟩
        case measure => simp [intOf]; omega
      · obtain rfl : j = sh N := by omega
        have HJ : Hid (bits BinOp.or IntKind.u64 (bits BinOp.or IntKind.u64 9223372036854775808 ((1075 - (f : Int) - sh N) * 4503599627370496)) (((N * 2 ^ sh N : Nat) : Int) - 4503599627370496) = (bitsOf true N f : Nat)) := hid (by
          have h := join_bits 9223372036854775808 (.inr rfl) (e := 1075 - f - sh N) (M := N * 2 ^ sh N - 4503599627370496) (by omega) (by have := J4.out; omega)
          rw [show ((1075 - f - sh N : Nat) : Int) = 1075 - (f : Int) - sh N by omega, show ((N * 2 ^ sh N - 4503599627370496 : Nat) : Int) = ((N * 2 ^ sh N : Nat) : Int) - 4503599627370496 by have := J3.out; omega] at h
          exact h)
        have hb : (4503599627370496 : Int) ≤ ((N * 2 ^ sh N : Nat) : Int) := by have := J3.out; omega
        have hb2 : ((N * 2 ^ sh N : Nat) : Int) ≤ 9007061815787520 := by have := J4.out; omega
        generalize ((N * 2 ^ sh N : Nat) : Int) = m at *
        go_wp2
        go_ret
        exact ⟨ret_int' HJ.out, rfl⟩

theorem double_zero (f : Int) (w : World) : Calls Try.prog 36 #[.int .i16 0, .int .i64 f] w fun e w' => e = .returned (.int .u64 0) ∧ w = w' := by
  go_enter Try.func36, Try.ntmps36
  go_wp2
  go_ret
  exact ⟨rfl, rfl⟩
theorem bitsOf_lt {N f : Nat} (s : Bool) (h1 : 1 ≤ N) (h2 : N ≤ 32768) : bitsOf s N f < 18446744069414584320 := by
  obtain ⟨j1, j2, j3, j4⟩ := sh_facts h1 h2
  unfold bitsOf
  cases s <;> simp <;> omega
theorem bitsOf_xor {N f : Nat} (s : Bool) (h1 : 1 ≤ N) (h2 : N ≤ 32768) : bits BinOp.xor IntKind.u64 (bitsOf s N f : Nat) 9223372036854775808 = ((bitsOf (!s) N f : Nat) : Int) := by
  obtain ⟨j1, j2, j3, j4⟩ := sh_facts h1 h2
  have hl := bitsOf_lt (f := f) s h1 h2
  have h := u64_xor_nat (bitsOf s N f) 9223372036854775808 (by omega) (by omega)
  have hy : (1075 - f - sh N) * 4503599627370496 + (N * 2 ^ sh N - 4503599627370496) < 9223372036854775808 := by omega
  have hx : bitsOf s N f ^^^ 9223372036854775808 = bitsOf (!s) N f := by
   unfold bitsOf
   cases s
   · simp only [Bool.not_false, if_true, Bool.false_eq_true, if_false, Nat.zero_add, Nat.add_assoc]
     exact xor_top hy
   · simp only [Bool.not_true, if_true, Bool.false_eq_true, if_false, Nat.zero_add, Nat.add_assoc]
     exact xor_top' hy
  rw [hx] at h
  exact h

theorem fx_bits {N low f : Nat} {s : Bool} {x er : Int} (h1 : 1 ≤ N) (h2 : N ≤ 32768) (hf : f ≤ 15) (hlow : low < 4294967296) (h : Told16 (sg s N) x er) : Fx (bitsOf s N f + low) f x er :=
  fx_whole (s := s) (low := low) h1 h2 hf hlow (by unfold bitsOf; rw [Nat.add_assoc]) h
theorem fx_bits0 {N f : Nat} {s : Bool} {x er : Int} (h1 : 1 ≤ N) (h2 : N ≤ 32768) (hf : f ≤ 15) (h : Told16 (sg s N) x er) : Fx (bitsOf s N f) f x er := by
  have := fx_bits (low := 0) h1 h2 hf (by omega) h
  rwa [Nat.add_zero] at this
theorem or_low {low : Nat} (h : low < 4294967296) : bits BinOp.or IntKind.u64 (low : Int) 9223372036854775808 = ((9223372036854775808 + low : Nat) : Int) := by
  have h1 := u64_or_nat low 9223372036854775808 (by omega) (by omega)
  have hx : low ||| 9223372036854775808 = 9223372036854775808 + low := by
    rw [Nat.or_comm]
    exact nat_join 63 9223372036854775808 low (by decide) (by omega)
  rw [hx] at h1
  exact h1
set_option maxRecDepth 100000 in
set_option maxHeartbeats 1600000 in
theorem vecWhole_walk (n frac : Int) (low : Nat) (w : World) (h1 : -32768 ≤ n) (h2 : n ≤ 32767) (hl : low < 4294967296) :
    Calls Try.prog 6 #[.int .i16 n, .int .i64 frac, .int .u32 low] w fun e w' => e = .returned (.bool true) ∧ Below w.heap.size w w' := by
  obtain ⟨f, hf⟩ : ∃ f : Nat, frac % 16 = f := ⟨(frac % 16).toNat, by omega⟩
  have hf15 : f ≤ 15 := by omega
  have HL := hid hl
  have hl' : (low : Int) < 4294967296 := by omega
  clear hl
  by_cases h0 : n = 0
  · subst h0
    have HA : Hid (Fx 0 f 0 0) := hid (fx_least (s := false) (low := 0) hf15 (by omega) rfl)
    have HB : Hid (Fx low f 0 0) := hid (fx_least (s := false) hf15 HL.out (by simp))
    have HC : Hid (Fx (9223372036854775808 + low) f 0 0) := hid (fx_least (s := true) hf15 HL.out (by simp))
    have HO := hid (or_low HL.out)
    go_enter Try.func6, Try.ntmps6
    go_wp2_with fail
    refine (lives_any w).mono ?_
    rintro e w1 ⟨rfl, hb⟩
    go_wp2_with fail
    refine (pickn_any frac 16 w1 (by omega) (by omega)).mono ?_
    rintro e w2 ⟨rfl, rfl⟩
    rw [hf]
    go_wp2_with fail
    refine (double_zero _ w1).mono ?_
    rintro e w2 ⟨rfl, rfl⟩
    go_wp2_with fail
    refine (fixed_lit HA.out _ rfl _).mono ?_
    rintro e w2 ⟨rfl, rfl⟩
    go_wp2_with fail
    refine (fixed_lit HB.out _ rfl _).mono ?_
    rintro e w2 ⟨rfl, rfl⟩
    go_wp2_with fail
    refine (fixed_lit HC.out _ HO.out _).mono ?_
    rintro e w2 ⟨rfl, rfl⟩
    go_wp2
    go_ret
    exact ⟨rfl, hb⟩
  · obtain ⟨s, N, hn, n1, n2⟩ : ∃ s N, n = sg s N ∧ 1 ≤ N ∧ N ≤ 32768 := by
      by_cases hneg : n < 0
      · exact ⟨true, (-n).toNat, by simp [sg]; omega, by omega, by omega⟩
      · exact ⟨false, n.toNat, by simp [sg]; omega, by omega, by omega⟩
    have hD := bitsOf_lt (f := f) s n1 n2
    have HA : Hid (Fx (bitsOf s N f) f n 0) := hid (fx_bits0 n1 n2 hf15 (by rw [← hn]; exact .inl ⟨h1, h2, rfl, rfl⟩))
    have HB : Hid (Fx (bitsOf s N f + low) f n 0) := hid (fx_bits n1 n2 hf15 HL.out (by rw [← hn]; exact .inl ⟨h1, h2, rfl, rfl⟩))
    have HO := hid (bitsOf_xor (f := f) s n1 n2)
    have HDB := hid (fun W => double_at n N f s W hn n1 n2 h2 hf15)
    have hns : sg (!s) N = -n := by rw [hn]; cases s <;> simp [sg]
    have q0 : (n == 0) = false := by simpa using h0
    have q1 : (n != n) = false := by simp
    have q2 : (n == n) = true := by simp
    by_cases hm : n = -32768
    · have HC : Hid (Fx (bitsOf (!s) N f) f 0 11) := hid (fx_bits0 n1 n2 hf15 (by rw [hns]; exact .inr ⟨by omega, rfl, rfl⟩))
      have q3 : (n == -32768) = true := by simpa using hm
      have hD' : ((bitsOf s N f : Nat) : Int) < 18446744069414584320 := by omega
      have HU : Hid (((bitsOf s N f : Nat) : Int) + (low : Int) = ((bitsOf s N f + low : Nat) : Int)) := hid (by omega)
      clear hns hn n1 n2 hD h0 hm
      generalize bitsOf (!s) N f = D2 at *
      generalize bitsOf s N f = D at *
      go_enter Try.func6, Try.ntmps6
      go_wp2_with fail
      refine (lives_any w).mono ?_
      rintro e w1 ⟨rfl, hb⟩
      go_wp2_with fail
      refine (pickn_any frac 16 w1 (by omega) (by omega)).mono ?_
      rintro e w2 ⟨rfl, rfl⟩
      rw [hf]
      go_wp2_with fail
      refine (HDB.out w1).mono ?_
      rintro e w2 ⟨rfl, rfl⟩
      go_wp2_with fail
      refine (fixed_lit HA.out _ rfl _).mono ?_
      rintro e w2 ⟨rfl, rfl⟩
      go_wp2_with fail
      refine (fixed_lit HB.out _ HU.out _).mono ?_
      rintro e w2 ⟨rfl, rfl⟩
      go_wp2_with fail
      refine (fixed_lit HC.out _ HO.out _).mono ?_
      rintro e w2 ⟨rfl, rfl⟩
      go_wp2
      go_ret
      exact ⟨rfl, hb⟩
    · have HC : Hid (Fx (bitsOf (!s) N f) f (-n) 0) := hid (fx_bits0 n1 n2 hf15 (by rw [hns]; exact .inl ⟨by omega, by omega, rfl, rfl⟩))
      have q3 : (n == -32768) = false := by simpa using hm
      have q4 : (-n == -n) = true := by simp
      have hD' : ((bitsOf s N f : Nat) : Int) < 18446744069414584320 := by omega
      have HU : Hid (((bitsOf s N f : Nat) : Int) + (low : Int) = ((bitsOf s N f + low : Nat) : Int)) := hid (by omega)
      clear hns hn n1 n2 hD h0
      generalize bitsOf (!s) N f = D2 at *
      generalize bitsOf s N f = D at *
      go_enter Try.func6, Try.ntmps6
      go_wp2_with fail
      refine (lives_any w).mono ?_
      rintro e w1 ⟨rfl, hb⟩
      go_wp2_with fail
      refine (pickn_any frac 16 w1 (by omega) (by omega)).mono ?_
      rintro e w2 ⟨rfl, rfl⟩
      rw [hf]
      go_wp2_with fail
      refine (HDB.out w1).mono ?_
      rintro e w2 ⟨rfl, rfl⟩
      go_wp2_with fail
      refine (fixed_lit HA.out _ rfl _).mono ?_
      rintro e w2 ⟨rfl, rfl⟩
      go_wp2_with fail
      refine (fixed_lit HB.out _ HU.out _).mono ?_
      rintro e w2 ⟨rfl, rfl⟩
      go_wp2_with fail
      refine (fixed_lit HC.out _ HO.out _).mono ?_
      rintro e w2 ⟨rfl, rfl⟩
      go_wp2
      go_ret
      exact ⟨rfl, hb⟩
end Go.Proofs.Ytcaleaecjoafhaa
