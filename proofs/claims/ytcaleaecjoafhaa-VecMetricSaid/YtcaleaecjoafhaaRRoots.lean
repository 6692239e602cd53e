/-
  Contracts of the reference's Floor and Ceil of layer 2, at all words: with r the greatest number whose square is not above n. No memory is touched.
-/
import Derived.Test.YtcaleaecjoafhaaProg
import Derived.Test.YtcaleaecjoafhaaWords
namespace Go.Proofs.Ytcaleaecjoafhaa
open Go.RowKit

theorem ret_int {k : IntKind} {a b : Int} (h : a = b) : Ending.returned (.int k a) = .returned (.int k b) := by rw [h]

/-- r is the root below n. -/
def Rt (n r : Int) : Prop := 0 ≤ r ∧ r * r ≤ n ∧ n < (r + 1) * (r + 1)
/-- c is the root above n, whose root below is r. -/
def Cl (n r c : Int) : Prop := (r * r = n ∧ c = r) ∨ (r * r < n ∧ c = r + 1)

theorem sq_le {a b : Int} (ha : 0 ≤ a) (h : a ≤ b) : a * a ≤ b * b := Int.mul_le_mul h h ha (by omega)
theorem sq_lt {a b : Int} (ha : 0 ≤ a) (h : a < b) : a * a < b * b := Int.mul_lt_mul' (Int.le_of_lt h) h ha (by omega)
theorem lt_sq {a b : Int} (hb : 0 ≤ b) (h : a * a < b * b) : a < b := by
  by_cases hh : a < b
  · exact hh
  · have := sq_le hb (show b ≤ a by omega)
    omega

theorem rt_nat (n : Nat) : ∃ r : Nat, r * r ≤ n ∧ n < (r + 1) * (r + 1) := by
  induction n with
  | zero => exact ⟨0, by omega, by omega⟩
  | succ n ih =>
    obtain ⟨r, h1, h2⟩ := ih
    by_cases h : n + 1 < (r + 1) * (r + 1)
    · exact ⟨r, by omega, h⟩
    · refine ⟨r + 1, by omega, ?_⟩
      have : (r + 1) * (r + 1) < (r + 1 + 1) * (r + 1 + 1) := Nat.mul_lt_mul_of_lt_of_le (by omega) (by omega) (by omega)
      omega
theorem rt_ex {n : Int} (h : 0 ≤ n) : ∃ r, Rt n r := by
  obtain ⟨N, rfl⟩ := Int.eq_ofNat_of_zero_le h
  obtain ⟨r, h1, h2⟩ := rt_nat N
  refine ⟨r, by omega, ?_, ?_⟩
  · exact_mod_cast h1
  · exact_mod_cast h2
theorem cl_ex {n r : Int} (h : Rt n r) : ∃ c, Cl n r c := by
  by_cases e : r * r = n
  · exact ⟨r, .inl ⟨e, rfl⟩⟩
  · exact ⟨r + 1, .inr ⟨by have := h.2.1; omega, rfl⟩⟩
theorem rt_lt {n r : Int} (h : Rt n r) (hn : n < 18446744073709551616) : r < 4294967296 :=
  lt_sq (by omega) (by have := h.2.1; omega)
/-- A number's square is above n just if the number is above the root. -/
theorem rt_above {n r m : Int} (h : Rt n r) (hm : r < m) : n < m * m := by
  have := sq_le (a := r + 1) (b := m) (by have := h.1; omega) (by omega)
  have := h.2.2
  omega
theorem rt_below {n r m : Int} (h : Rt n r) (h0 : 0 ≤ m) (hm : m ≤ r) : m * m ≤ n := by
  have := sq_le h0 hm
  have := h.2.1
  omega
theorem sq_wrap {m : Int} (h0 : 0 ≤ m) (h : m < 4294967296) : IntKind.u64.wrap (m * m) = m * m := by
  have h1 := sq_lt h0 h
  have h2 : 0 ≤ m * m := Int.mul_nonneg h0 h0
  rw [IntKind.wrap_u64]
  omega

set_option maxHeartbeats 800000 in
theorem rfloor_at (n r : Int) (w : World) (hn : n < 18446744073709551616) (h : Rt n r) :
    Calls Try.prog 37 #[.int .u64 n] w fun e w' => e = .returned (.int .u64 r) ∧ w = w' := by
  have h0 := h.1
  have hr := rt_lt h hn
  have H := hid h
  clear h hn
  go_enter Try.func37, Try.ntmps37
  go_wp2
  go_loop [3, 4] (fun x y => ∃ (a : Int) (k : Nat), k ≤ 32 ∧ 0 ≤ a ∧ a ≤ r ∧ r < a + 2 ^ k ∧ a + 2 ^ k ≤ 4294967296 ∧ x = .int .u64 a ∧ y = .int .i64 (k - 1)) (fun _ y => (intOf y + 1).toNat)
  case atStart => exact ⟨0, 32, by omega, by omega, by omega, by omega, by omega, rfl, rfl⟩
  case round =>
    obtain ⟨a, k, hk, ha, har, hrb, hb, rfl, rfl⟩ := hrel
    rcases k with _ | k
    · go_wp2
      go_ret
      exact ⟨ret_int (by omega), rfl⟩
    · have e1 : (((k + 1 : Nat) : Int) - 1) = (k : Int) := by omega
      have hp : 0 < (2 : Int) ^ k := Int.pow_pos (by decide)
      have hp2 : (2 : Int) ^ (k + 1) = 2 ^ k + 2 ^ k := by rw [Int.pow_succ]; omega
      rw [hp2] at hrb hb
      rw [e1]
      clear hp2 e1
      have hs := sq_wrap (m := a + 2 ^ k) (by omega) (by omega)
      by_cases hm : r < a + 2 ^ k
      · have hgt := rt_above H.out hm
        go_wp2
        go_round
        case rel => exact ⟨a, k, by omega, by omega, by omega, by omega, by omega, rfl, by go_num⟩
        case measure => simp [intOf]
      · have hle := rt_below H.out (m := a + 2 ^ k) (by omega) (by omega)
        go_wp2
        go_round
        case rel => exact ⟨a + 2 ^ k, k, by omega, by omega, by omega, by omega, by omega, by go_num, by go_num⟩
        case measure => simp [intOf]

theorem rceil_at (n r c : Int) (w : World) (hn : n < 18446744073709551616) (h : Rt n r) (hc : Cl n r c) :
    Calls Try.prog 38 #[.int .u64 n] w fun e w' => e = .returned (.int .u64 c) ∧ w = w' := by
  have h0 := h.1
  have hr := rt_lt h hn
  have H := hid h
  have HN := hid hn
  have hs := sq_wrap h0 hr
  clear h hn
  rcases hc with ⟨e, rfl⟩ | ⟨e, rfl⟩
  · subst e
    go_enter Try.func38, Try.ntmps38
    go_wp2_with fail
    refine (rfloor_at _ c _ HN.out H.out).mono ?_
    rintro e w1 ⟨rfl, rfl⟩
    go_wp2
    go_ret
    exact ⟨rfl, rfl⟩
  · go_enter Try.func38, Try.ntmps38
    go_wp2_with fail
    refine (rfloor_at n r _ HN.out H.out).mono ?_
    rintro e w1 ⟨rfl, rfl⟩
    go_wp2
    go_ret
    exact ⟨rfl, rfl⟩
end Go.Proofs.Ytcaleaecjoafhaa
