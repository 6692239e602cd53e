/-
  The model's words of 32 bits as such of XSumMath: exclusive or, turned, moved, the bit that goes out.
-/
import Derived.Test.YtpckloafdlkefaaGreatSumMath
import Derived.Laws.BitsAll
namespace Go.Proofs.YtpckloafdlkefaaGreat.Regs
set_option maxRecDepth 40000
open Go

theorem toNat_lt (r : BitVec 32) : (r.toNat : Int) < 4294967296 := by have := r.isLt; omega
theorem ofInt_toNat (r : BitVec 32) : BitVec.ofInt 32 (r.toNat : Int) = r := by
  apply BitVec.eq_of_toNat_eq; rw [BitVec.toNat_ofInt]; have := r.isLt; omega
/-- A whole number below 2^32 is a word. -/
theorem word_of (x : Int) (h0 : 0 ≤ x) (h1 : x < 4294967296) : ((BitVec.ofInt 32 x).toNat : Int) = x := by
  rw [BitVec.toNat_ofInt]; omega
theorem wrap_word (r : BitVec 32) : IntKind.u32.wrap (r.toNat : Int) = (r.toNat : Int) := by
  have := r.isLt
  simp [IntKind.wrap, IntKind.bits, IntKind.signed]; omega
theorem xor_word (a b : BitVec 32) : bits .xor .u32 (a.toNat : Int) (b.toNat : Int) = ((a ^^^ b).toNat : Int) := by
  show IntKind.u32.wrap ((BitVec.ofInt 32 (a.toNat : Int) ^^^ BitVec.ofInt 32 (b.toNat : Int)).toNat : Int) = _
  rw [ofInt_toNat, ofInt_toNat, wrap_word]
theorem xor_lit (a : BitVec 32) (x : Int) : bits .xor .u32 (a.toNat : Int) x = ((a ^^^ BitVec.ofInt 32 x).toNat : Int) := by
  show IntKind.u32.wrap ((BitVec.ofInt 32 (a.toNat : Int) ^^^ BitVec.ofInt 32 x).toNat : Int) = _
  rw [ofInt_toNat, wrap_word]
theorem not_word (a : BitVec 32) : bits .xor .u32 IntKind.u32.max (a.toNat : Int) = ((~~~ a).toNat : Int) := by
  show IntKind.u32.wrap ((BitVec.ofInt 32 IntKind.u32.max ^^^ BitVec.ofInt 32 (a.toNat : Int)).toNat : Int) = _
  rw [ofInt_toNat, wrap_word, show BitVec.ofInt 32 IntKind.u32.max = BitVec.allOnes 32 by decide, BitVec.allOnes_xor]
theorem shr_word (a : BitVec 32) (k : Nat) : (a.toNat : Int) / (2 : Int) ^ k = (((a >>> k).toNat : Nat) : Int) := by
  rw [BitVec.toNat_ushiftRight, Nat.shiftRight_eq_div_pow]; norm_cast
theorem half_word (a : BitVec 32) : (a.toNat : Int) / (2 : Int) = (((a >>> 1).toNat : Nat) : Int) := by
  have := shr_word a 1; rwa [Int.pow_one] at this
theorem shl_one (k : Nat) (hk : k < 32) : IntKind.u32.wrap (1 * 2 ^ k) = ((1#32 <<< k).toNat : Int) := by
  have : ∀ k : Fin 32, IntKind.u32.wrap (1 * 2 ^ k.val) = ((1#32 <<< k.val).toNat : Int) := by decide
  exact this ⟨k, hk⟩
/-- The bit at place k, as it is asked for. -/
theorem bit_word (a : BitVec 32) (k : Nat) : ((a >>> k).toNat : Int) % 2 = if a.getLsbD k then 1 else 0 := by
  have h : a.getLsbD k = (a >>> k).getLsbD 0 := by rw [BitVec.getLsbD_ushiftRight]; simp
  have h2 : (a >>> k).getLsbD 0 = decide ((a >>> k).toNat % 2 = 1) := by
    rw [BitVec.getLsbD, Nat.testBit_zero]
  rw [h, h2]
  by_cases h3 : (a >>> k).toNat % 2 = 1
  · rw [if_pos (decide_eq_true h3)]; omega
  · rw [if_neg (fun e => h3 (of_decide_eq_true e))]; omega
theorem low_word (a : BitVec 32) : (a.toNat : Int) % 2 = if a.getLsbD 0 then 1 else 0 := by
  have := bit_word a 0; simpa using this
/-- A step, as the program walks it. -/
theorem st_one (a : BitVec 32) (h : (a.toNat : Int) % 2 = 1) : bits .xor .u32 ((a.toNat : Int) / 2) 2197175160 = ((st a).toNat : Int) := by
  rw [half_word, xor_lit, st]
  have : a.getLsbD 0 = true := by rw [low_word] at h; split at h <;> simp_all
  rw [this]; rfl
theorem st_nought (a : BitVec 32) (h : ¬ (a.toNat : Int) % 2 = 1) : (a.toNat : Int) / 2 = ((st a).toNat : Int) := by
  rw [half_word, st]
  have : a.getLsbD 0 = false := by rw [low_word] at h; split at h <;> simp_all
  rw [this]; simp
end Go.Proofs.YtpckloafdlkefaaGreat.Regs
