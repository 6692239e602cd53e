/-
  Plain arithmetic for layer 1's proofs: numbers of bytes, the low one first; signed numbers; what Go's shifts, ors and wraps come to there. No program, no condition but those that each theorem writes out.
-/
import Derived.WalkKit
import Derived.Laws.BitsAllLaws
namespace Go.Proofs.YtpckloafdlkefaaGreat
set_option maxRecDepth 40000
open Go.RowKit

/-- The number of some bytes, the low one first. -/
def num : List UInt8 → Nat
  | [] => 0
  | c :: r => c.toNat + 256 * num r

theorem num_lt (l : List UInt8) : num l < 256 ^ l.length := by
  induction l with
  | nil => simp [num]
  | cons c r ih => simp only [num, List.length_cons, Nat.pow_succ]; have := c.toNat_lt; omega
theorem num_append (l m : List UInt8) : num (l ++ m) = num l + 256 ^ l.length * num m := by
  induction l with
  | nil => simp [num]
  | cons d r ih => simp only [List.cons_append, num, ih, List.length_cons, Nat.pow_succ]; rw [Nat.mul_add, Nat.add_assoc, ← Nat.mul_assoc, Nat.mul_comm (256 ^ r.length) 256]
theorem num_snoc (l : List UInt8) (c : UInt8) : num (l ++ [c]) = num l + c.toNat * 256 ^ l.length := by
  rw [num_append]; simp [num, Nat.mul_comm]
theorem num_take_succ (l : List UInt8) (k : Nat) (h : k < l.length) : num (l.take (k + 1)) = num (l.take k) + l[k].toNat * 256 ^ k := by
  rw [List.take_succ_eq_append_getElem h, num_snoc, List.length_take, Nat.min_eq_left (by omega)]
theorem num_take_lt (l : List UInt8) (k : Nat) : num (l.take k) < 256 ^ k :=
  Nat.lt_of_lt_of_le (num_lt _) (Nat.pow_le_pow_right (by decide) (by simp; omega))
theorem num_take8 (l : List UInt8) : (num (l.take 8) : Int) ≤ 18446744073709551615 := by
  have := num_take_lt l 8
  have e : (256 : Nat) ^ 8 = 18446744073709551616 := by decide
  omega
theorem pow256 (k : Nat) : (2 : Nat) ^ (8 * k) = 256 ^ k := by rw [Nat.pow_mul]
theorem pow256i (k : Nat) : (2 : Int) ^ (8 * k) = ((256 ^ k : Nat) : Int) := by rw [← pow256]; simp
theorem byte_top (c : UInt8) (k : Nat) (hk : k < 8) : c.toNat * 256 ^ k < 18446744073709551616 := by
  have h1 := c.toNat_lt
  have h2 : 256 ^ k ≤ 256 ^ 7 := Nat.pow_le_pow_right (by decide) (by omega)
  have h3 : c.toNat * 256 ^ k ≤ 255 * 256 ^ 7 := Nat.mul_le_mul (by omega) h2
  have e : (255 : Nat) * 256 ^ 7 < 18446744073709551616 := by decide
  omega
theorem shl_byte (c : UInt8) (k : Nat) (hk : k < 8) : IntKind.u64.wrap (IntKind.u64.wrap (c.toNat : Int) * 2 ^ (8 * k)) = ((c.toNat * 256 ^ k : Nat) : Int) := by
  have h1 := c.toNat_lt
  have h2 := byte_top c k hk
  rw [IntWalk.u64_in (c.toNat : Int) (by omega), pow256i, ← Int.natCast_mul, IntWalk.u64_in _ (by omega)]
theorem sum_lt (l : List UInt8) (k : Nat) (h : k < l.length) (hk : k < 8) : num (l.take k) + l[k].toNat * 256 ^ k < 18446744073709551616 := by
  have h1 := num_take_lt l (k + 1)
  rw [num_take_succ l k h] at h1
  have h2 : (256 : Nat) ^ (k + 1) ≤ 256 ^ 8 := Nat.pow_le_pow_right (by decide) (by omega)
  have e : (256 : Nat) ^ 8 = 18446744073709551616 := by decide
  omega
theorem or_byte (l : List UInt8) (k : Nat) (h : k < l.length) (hk : k < 8) :
    bits BinOp.or IntKind.u64 (num (l.take k) : Int) (IntKind.u64.wrap (IntKind.u64.wrap (l[k].toNat : Int) * 2 ^ (8 * k))) = (num (l.take (k + 1)) : Int) := by
  have h3 := sum_lt l k h hk
  rw [shl_byte _ k hk, u64_or_nat _ _ (by omega) (by omega), num_take_succ l k h]
  have h4 := num_take_lt l k
  rw [← pow256] at h4
  have := Nat.two_pow_add_eq_or_of_lt h4 l[k].toNat
  rw [Nat.or_comm, ← pow256, Nat.mul_comm l[k].toNat, ← this, Nat.add_comm]
theorem add_byte (l : List UInt8) (k : Nat) (h : k < l.length) (hk : k < 8) :
    IntKind.u64.wrap ((num (l.take k) : Int) + IntKind.u64.wrap (IntKind.u64.wrap (l[k].toNat : Int) * 2 ^ (8 * k))) = (num (l.take (k + 1)) : Int) := by
  have h3 := sum_lt l k h hk
  rw [shl_byte _ k hk, num_take_succ l k h, ← Int.natCast_add, IntWalk.u64_in _ (by omega)]

/-- Of x's n low bytes the signed number. -/
def sgn (x n : Int) : Int :=
  if n < 1 then 0 else if 8 ≤ n then (x + 9223372036854775808) % 18446744073709551616 - 9223372036854775808
  else if x % 256 ^ n.toNat < 256 ^ n.toNat / 2 then x % 256 ^ n.toNat else x % 256 ^ n.toNat - 256 ^ n.toNat

theorem seven {n : Int} (h : 1 ≤ n) (h8 : n < 8) : n = 1 ∨ n = 2 ∨ n = 3 ∨ n = 4 ∨ n = 5 ∨ n = 6 ∨ n = 7 := by omega
theorem sgn_mid (x n : Int) (h : 1 ≤ n) (h8 : n < 8) :
    wrap64 (IntKind.u64.wrap (x * 2 ^ (8 * (8 - n)).toNat)) / 2 ^ (8 * (8 - n)).toNat = sgn x n := by
  unfold wrap64 sgn
  rw [IntKind.wrap_u64, if_neg (by omega), if_neg (by omega)]
  rcases seven h h8 with rfl | rfl | rfl | rfl | rfl | rfl | rfl <;> simp <;> split <;> omega
theorem sgn_zero (n : Int) : sgn 0 n = 0 := by
  unfold sgn
  split
  · rfl
  · split
    · decide
    · split
      · simp
      · rename_i h1 h2 h3
        exfalso
        apply h3
        have hn : (2 : Int) ≤ 256 ^ n.toNat := by
          rcases seven (show 1 ≤ n by omega) (show n < 8 by omega) with rfl | rfl | rfl | rfl | rfl | rfl | rfl <;> decide
        simp only [Int.zero_emod]
        omega
theorem sgn_lo (x n : Int) (h : n < 1) : sgn x n = 0 := by unfold sgn; rw [if_pos h]
theorem sgn_hi (x n : Int) (h0 : 0 ≤ x) (h1 : x ≤ 18446744073709551615) (h : 8 ≤ n) : wrap64 (IntKind.u64.wrap x) = sgn x n := by
  unfold sgn
  rw [IntWalk.u64_in _ (by omega), if_neg (by omega), if_pos h]
  unfold wrap64
  rfl
theorem sgn_hi' (x n : Int) (h : 8 ≤ n) : wrap64 x = sgn x n := by
  unfold sgn
  rw [if_neg (by omega), if_pos h]
  unfold wrap64
  rfl
theorem rsgn_ne (n : Int) (h : 1 ≤ n) (h8 : n < 8) : ¬ IntKind.u64.wrap (2 ^ (8 * n).toNat) = 0 := by
  rw [IntKind.wrap_u64]
  rcases seven h h8 with rfl | rfl | rfl | rfl | rfl | rfl | rfl <;> simp
theorem rsgn_neg {x n : Int} (h : 1 ≤ n) (h8 : n < 8) (ht : IntKind.u64.wrap (2 ^ ((8 * n).toNat - 1)) ≤ x % IntKind.u64.wrap (2 ^ (8 * n).toNat)) :
    wrap64 (wrap64 (x % IntKind.u64.wrap (2 ^ (8 * n).toNat)) - wrap64 (IntKind.u64.wrap (2 ^ (8 * n).toNat))) = sgn x n := by
  unfold sgn
  rw [if_neg (by omega), if_neg (by omega)]
  unfold wrap64
  rw [IntKind.wrap_u64, IntKind.wrap_u64] at *
  rcases seven h h8 with rfl | rfl | rfl | rfl | rfl | rfl | rfl <;> simp at ht ⊢ <;> split <;> omega
theorem rsgn_pos {x n : Int} (h : 1 ≤ n) (h8 : n < 8) (ht : x % IntKind.u64.wrap (2 ^ (8 * n).toNat) < IntKind.u64.wrap (2 ^ ((8 * n).toNat - 1))) :
    wrap64 (x % IntKind.u64.wrap (2 ^ (8 * n).toNat)) = sgn x n := by
  unfold sgn
  rw [if_neg (by omega), if_neg (by omega)]
  unfold wrap64
  rw [IntKind.wrap_u64] at *
  rcases seven h h8 with rfl | rfl | rfl | rfl | rfl | rfl | rfl <;> simp [IntKind.wrap_u64] at ht ⊢ <;> split <;> omega

/-- Byte i of a number. -/
def byteAt (x : Int) (i : Nat) : UInt8 := UInt8.ofNat (x.toNat / 256 ^ i)
/-- The k low bytes of a number. -/
def putB (x : Int) (k : Nat) : List UInt8 := (List.range k).map (byteAt x)
theorem putB_succ (x : Int) (k : Nat) : putB x (k + 1) = putB x k ++ [byteAt x k] := by simp [putB, List.range_succ]
theorem putB_len (x : Int) (k : Nat) : (putB x k).length = k := by simp [putB]
theorem byteAt_nat (x : Int) (i : Nat) : (byteAt x i).toNat = x.toNat / 256 ^ i % 256 := by simp [byteAt]
theorem num_putB (x : Int) (k : Nat) : num (putB x k) = x.toNat % 256 ^ k := by
  induction k with
  | zero => simp [putB, num, Nat.mod_one]
  | succ k ih => rw [putB_succ, num_snoc, ih, putB_len, byteAt_nat, Nat.mod_pow_succ, Nat.mul_comm]
theorem shr_byte (x : Int) (k : Nat) (h0 : 0 ≤ x) : IntKind.u8.wrap (x / 2 ^ (8 * k)) = ((byteAt x k).toNat : Int) := by
  obtain ⟨y, rfl⟩ := Int.eq_ofNat_of_zero_le h0
  rw [byteAt_nat, IntKind.wrap_u8, pow256i, Int.toNat_natCast, Int.natCast_emod, Int.natCast_ediv]
  rfl
/-- How many bytes Put puts. -/
def clampN (n : Int) : Nat := min n.toNat 8

theorem split_num (l : List UInt8) (N M : Nat) (h : N + M ≤ l.length) : num (l.take (N + M)) = num (l.take N) + 256 ^ N * num ((l.drop N).take M) := by
  rw [List.take_add, num_append, List.length_take, Nat.min_eq_left (by omega)]
theorem split_wrap {X Y Z N : Nat} (h : X = Y + 256 ^ N * Z) (hX : X < 18446744073709551616) : ((X : Int) == IntKind.u64.wrap ((Y : Int) + IntKind.u64.wrap ((Z : Int) * 2 ^ (8 * N)))) = true := by
  have e : (Z : Int) * 2 ^ (8 * N) = ((256 ^ N * Z : Nat) : Int) := by rw [pow256i, ← Int.natCast_mul, Nat.mul_comm]
  have h2 : 256 ^ N * Z ≤ X := by omega
  rw [e, IntWalk.u64_in ((256 ^ N * Z : Nat) : Int) (by omega), IntWalk.u64_in _ (by omega), beq_iff_eq]
  omega
theorem num_take_lt8 (l : List UInt8) (k : Nat) (h : k ≤ 8) : num (l.take k) < 18446744073709551616 := by
  have h1 := num_take_lt l k
  have h2 : (256 : Nat) ^ k ≤ 256 ^ 8 := Nat.pow_le_pow_right (by decide) h
  have e : (256 : Nat) ^ 8 = 18446744073709551616 := by decide
  omega
theorem clampN_nat (n : Nat) (h : n ≤ 8) : clampN (n : Int) = n := by unfold clampN; omega
theorem put_put (X Y Z N M : Nat) (hX : X = Y + 256 ^ N * Z) (hY : Y < 256 ^ N) (hZ : Z < 256 ^ M) (h : N + M ≤ 8) : num ((([] ++ putB (Y : Int) (clampN N)) ++ putB (Z : Int) (clampN M)).take 8) = X := by
  rw [clampN_nat N (by omega), clampN_nat M (by omega), List.nil_append, List.take_of_length_le (by rw [List.length_append, putB_len, putB_len]; exact h), num_append, putB_len, num_putB, num_putB,
    Int.toNat_natCast, Int.toNat_natCast, Nat.mod_eq_of_lt hY, Nat.mod_eq_of_lt hZ, hX]

theorem seven_nat {N : Nat} (h : 1 ≤ N) (h8 : N < 8) : N = 1 ∨ N = 2 ∨ N = 3 ∨ N = 4 ∨ N = 5 ∨ N = 6 ∨ N = 7 := by omega
theorem back_size {N : Nat} (h : 1 ≤ N) (h8 : N < 8) : IntKind.u64.wrap (2 ^ (8 * N)) = (256 : Int) ^ N ∧ (256 : Int) ≤ 256 ^ N ∧ (256 : Int) ^ N ≤ 72057594037927936 := by
  rw [IntKind.wrap_u64]
  rcases seven_nat h h8 with rfl | rfl | rfl | rfl | rfl | rfl | rfl <;> decide
theorem back_mid {N : Nat} (h : 1 ≤ N) (h8 : N < 8) {u X Y : Int} (hX : X = u % 256 ^ N) (hY : Y = sgn X N) :
    0 ≤ X ∧ X < 256 ^ N ∧ IntKind.u64.wrap Y % 256 ^ N = X ∧ Y < 256 ^ N / 2 ∧ -(256 ^ N / 2) ≤ Y := by
  rw [IntKind.wrap_u64]
  unfold sgn at hY
  rw [if_neg (by omega), if_neg (by omega)] at hY
  rcases seven_nat h h8 with rfl | rfl | rfl | rfl | rfl | rfl | rfl <;> simp at hX hY ⊢ <;> split at hY <;> omega
theorem back_top {x u X Y : Int} (hx1 : -9223372036854775808 ≤ x) (hx2 : x ≤ 9223372036854775807) (hu : u = IntKind.u64.wrap x) (hX : X = u % 256 ^ 8) (hY : Y = sgn X 8) : X = u ∧ Y = x := by
  rw [IntKind.wrap_u64] at hu
  unfold sgn at hY
  rw [if_neg (by omega), if_pos (by omega)] at hY
  have e : (256 : Int) ^ 8 = 18446744073709551616 := by decide
  rw [e] at hX
  omega
end Go.Proofs.YtpckloafdlkefaaGreat
