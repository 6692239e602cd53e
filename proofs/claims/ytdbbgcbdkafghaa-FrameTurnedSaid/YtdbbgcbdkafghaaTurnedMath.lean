/-
  Plain words of FrameTurned: a frame whose sum's bits are turned, or whose payload's are.
-/
import Derived.Test.YtdbbgcbdkafghaaFrameMath
import Derived.Test.YtdbbgcbdkafghaaSumBursts
namespace Go.Proofs.Ytdbbgcbdkafghaa
open Regs

/-- Eight bytes of a payload's length and of whatever sum. -/
def hed (p : List UInt8) (s : Nat) : List UInt8 := hdr p ++ putB (s : Int) 4
theorem hed_len (p : List UInt8) (s : Nat) : (hed p s).length = 8 := by unfold hed; rw [List.length_append, hdr_len, putB_len]
theorem frm_hed (p : List UInt8) : frm p = hed p (csum (hdr p ++ p)).toNat ++ p := rfl
theorem one_hed {p q : List UInt8} {s : Nat} (h : p.length ≤ 33554432) (hq : q.length = p.length) (hs : s < 4294967296) :
    one (hed p s ++ q) = if s ≠ (csum (hdr p ++ q)).toNat then (4, [], 0) else (0, q, 8 + p.length) := by
  have hl : (hed p s ++ q).length = 8 + p.length := by rw [List.length_append, hed_len, hq]
  have t4 : (hed p s ++ q).take 4 = hdr p := by
    unfold hed
    rw [List.append_assoc, List.take_append_of_le_length (by rw [hdr_len]; exact Nat.le_refl _), List.take_of_length_le (by rw [hdr_len]; exact Nat.le_refl _)]
  have d4 : ((hed p s ++ q).drop 4).take 4 = putB (s : Int) 4 := by
    unfold hed
    rw [List.append_assoc, List.drop_append_of_le_length (by rw [hdr_len]; exact Nat.le_refl _), List.drop_of_length_le (by rw [hdr_len]; exact Nat.le_refl _), List.nil_append, List.take_append_of_le_length (by rw [putB_len]; exact Nat.le_refl _), List.take_of_length_le (by rw [putB_len]; exact Nat.le_refl _)]
  have d8 : (hed p s ++ q).drop 8 = q := by
    rw [List.drop_append_of_le_length (by rw [hed_len]; exact Nat.le_refl _), List.drop_of_length_le (by rw [hed_len]; exact Nat.le_refl _), List.nil_append]
  unfold one
  rw [t4, d4, d8, num_hdr h, hl, if_neg (by omega), if_neg (by omega), if_neg (by omega), List.take_of_length_le (by omega), num_put4 _ hs]

/-- The sum's bytes, turned one by one. -/
def turnb (x : BitVec 32) (l : List UInt8) : Nat → List UInt8
  | 0 => l
  | k + 1 => (turnb x l k).set (4 + k) ((turnb x l k).getD (4 + k) 0 ^^^ byteAt (x.toNat : Int) k)
theorem turnb_len (x : BitVec 32) (l : List UInt8) (k : Nat) : (turnb x l k).length = l.length := by
  induction k with
  | zero => rfl
  | succ k ih => simp only [turnb, List.length_set, ih]
theorem byteAt_xor (a b : BitVec 32) (k : Nat) : byteAt ((a ^^^ b).toNat : Int) k = byteAt (a.toNat : Int) k ^^^ byteAt (b.toNat : Int) k := by
  apply UInt8.toNat_inj.1
  rw [UInt8.toNat_xor, byteAt_nat, byteAt_nat, byteAt_nat]
  simp only [Int.toNat_natCast, BitVec.toNat_xor]
  rw [← pow256, ← Nat.shiftRight_eq_div_pow, ← Nat.shiftRight_eq_div_pow, ← Nat.shiftRight_eq_div_pow, show (256 : Nat) = 2 ^ 8 from rfl]
  rw [Nat.shiftRight_xor_distrib]
  apply Nat.eq_of_testBit_eq
  intro i
  simp only [Nat.testBit_mod_two_pow, Nat.testBit_xor]
  by_cases h : i < 8 <;> simp [h]
theorem four (l : List UInt8) (h : l.length = 4) : ∃ a b c d, l = [a, b, c, d] := by
  match l, h with
  | [a, b, c, d], _ => exact ⟨a, b, c, d, rfl⟩
theorem turned (x : BitVec 32) (p : List UInt8) (s : BitVec 32) (q : List UInt8) : turnb x (hed p s.toNat ++ q) 4 = hed p (s ^^^ x).toNat ++ q := by
  obtain ⟨a, b, c, d, e⟩ := four (hdr p) (hdr_len p)
  have e2 : ∀ y : Int, putB y 4 = [byteAt y 0, byteAt y 1, byteAt y 2, byteAt y 3] := fun y => rfl
  unfold hed
  rw [e, e2, e2, byteAt_xor, byteAt_xor, byteAt_xor, byteAt_xor]
  simp [turnb]
theorem xor_self_iff (s x : BitVec 32) : (s ^^^ x).toNat = s.toNat ↔ x = 0#32 := by
  constructor
  · intro h
    have h1 : s ^^^ x = s := BitVec.eq_of_toNat_eq h
    have h2 : s ^^^ (s ^^^ x) = s ^^^ s := by rw [h1]
    rw [← BitVec.xor_assoc, BitVec.xor_self, BitVec.zero_xor] at h2
    exact h2
  · intro h
    rw [h, BitVec.xor_zero]
/-- A frame of whose sum any bits are turned. -/
theorem one_turned {p : List UInt8} (h : p.length ≤ 33554432) (x : BitVec 32) : (one (turnb x (frm p) 4)).1 = if x = 0#32 then 0 else 4 := by
  rw [frm_hed, turned, one_hed h rfl (BitVec.isLt _)]
  by_cases hx : x = 0#32
  · rw [if_pos hx, if_neg (by rw [ne_eq, Decidable.not_not, xor_self_iff]; exact hx)]
  · rw [if_neg hx, if_pos (by rw [ne_eq, xor_self_iff]; exact hx)]
theorem csum_flip (h p : List UInt8) (at_ : Nat) (bs : BitVec 32) (k : Nat) (hk : k ≤ 32) (hb : at_ + k ≤ 8 * p.length) : (csum (h ++ p)).toNat = (csum (h ++ flipb at_ bs p k)).toNat ↔ flipb at_ bs p k = p := by
  have ea : ∀ q, Ws (h ++ q) = Ws h ++ Ws q := fun q => by simp [Ws]
  have hs := flips_same (reg (~~~ 0#32) (Ws h)) at_ bs (Ws p) k hk (by rw [ws_len]; exact hb)
  rw [← flipb_ws] at hs
  unfold csum
  constructor
  · intro e
    have e1 := BitVec.eq_of_toNat_eq e
    rw [crc_inj, ea, ea, reg_append, reg_append] at e1
    exact ws_inj (hs.1 e1.symm)
  · intro e
    rw [e]
/-- A frame of whose payload bits within 32 side by side are turned. -/
theorem one_flipped {p : List UInt8} (h : p.length ≤ 33554432) (at_ : Nat) (bs : BitVec 32) (k : Nat) (hk : k ≤ 32) (hb : at_ + k ≤ 8 * p.length) :
    ((one (hed p (csum (hdr p ++ p)).toNat ++ flipb at_ bs p k)).1 = 0) ↔ frm p = hed p (csum (hdr p ++ p)).toNat ++ flipb at_ bs p k := by
  rw [one_hed h (flipb_len _ _ _ _) (BitVec.isLt _), frm_hed]
  have hc := csum_flip (hdr p) p at_ bs k hk hb
  by_cases e : flipb at_ bs p k = p
  · rw [if_neg (by rw [ne_eq, Decidable.not_not]; exact hc.2 e), e]
    simp
  · rw [if_pos (by rw [ne_eq, hc]; exact e)]
    constructor
    · intro h0
      cases h0
    · intro h0
      exact absurd (List.append_cancel_left h0).symm e
end Go.Proofs.Ytdbbgcbdkafghaa
