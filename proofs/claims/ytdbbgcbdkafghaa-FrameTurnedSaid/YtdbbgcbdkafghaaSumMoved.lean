/-
  Contracts of sum's aByte, moved, Join and Noughts, whatever words and numbers come in.
-/
import Derived.Test.YtdbbgcbdkafghaaSumMat
namespace Go.Proofs.Ytdbbgcbdkafghaa
open Go.RowKit Regs

theorem shl_two (k : Nat) (hk : k < 32) : (2 : Int) ^ k % 4294967296 = ((1#32 <<< k).toNat : Int) := by
  have : ∀ k : Fin 32, (2 : Int) ^ k.val % 4294967296 = ((1#32 <<< k.val).toNat : Int) := by decide
  exact this ⟨k, hk⟩
theorem mat_one : fillw (fun i => st (1#32 <<< i)) 32 = mat 1 := by rw [fillw_all]; rfl

theorem and_one64 (m : Int) (h0 : 0 ≤ m) (h1 : m ≤ 9223372036854775807) : bits .and .i64 m 1 = m % 2 := by
  show IntKind.i64.wrap ((BitVec.ofInt 64 m &&& BitVec.ofInt 64 1).toNat : Int) = _
  rw [BitVec.toNat_and, show (BitVec.ofInt 64 1).toNat = 1 by decide, Nat.and_one_is_mod, BitVec.toNat_ofInt]
  simp [IntKind.wrap, IntKind.bits, IntKind.signed]
  omega

theorem halved_odd (q : Nat) (m : Int) (y : BitVec 32) (h : 0 < m) (ho : m % 2 = 1) : stn (2 * q * (m / 2).toNat) (stn q y) = stn (q * m.toNat) y := by
  rw [halves_odd q m.toNat y (by omega), show (m / 2).toNat = m.toNat / 2 by omega]
theorem halved_even (q : Nat) (m : Int) (y : BitVec 32) (h : 0 < m) (ho : ¬ m % 2 = 1) : stn (2 * q * (m / 2).toNat) y = stn (q * m.toNat) y := by
  rw [halves_even q m.toNat y (by omega), show (m / 2).toNat = m.toNat / 2 by omega]

end Go.Proofs.Ytdbbgcbdkafghaa
