/-
  Contracts of the reference's step, More and Of, whatever words and bytes come in.
-/
import Derived.Test.YtpckloafdlkefaaGreatProg
import Derived.Test.YtpckloafdlkefaaGreatWords
import Derived.Test.YtpckloafdlkefaaGreatSumWords
import Derived.Deep.QuietTactic
import Derived.BigQuiet
namespace Go.Proofs.YtpckloafdlkefaaGreat
set_option maxRecDepth 40000
open Go.RowKit Regs

/-- A word as a value; bytes as words. -/
abbrev V (r : BitVec 32) : Value := .int .u32 (r.toNat : Int)
def B8 (c : UInt8) : BitVec 32 := BitVec.ofNat 32 c.toNat
def Ws (l : List UInt8) : List (BitVec 32) := l.map B8
theorem b8_nat (c : UInt8) : ((B8 c).toNat : Int) = (c.toNat : Int) := by
  have := c.toNat_lt
  simp [B8]
theorem ws_len (l : List UInt8) : (Ws l).length = l.length := by simp [Ws]
theorem ws_take (l : List UInt8) (k : Nat) : Ws (l.take k) = (Ws l).take k := by simp [Ws, List.map_take]
theorem ws_append (l m : List UInt8) : Ws (l ++ m) = Ws l ++ Ws m := by simp [Ws]
theorem reg_take (r : BitVec 32) (l : List UInt8) (k : Nat) (h : k < l.length) : reg r (Ws (l.take (k + 1))) = byt (reg r (Ws (l.take k))) (B8 l[k]) := by
  rw [List.take_succ_eq_append_getElem h, ws_append, reg_append]
  rfl
theorem xor_byte (r : BitVec 32) (c : UInt8) : bits .xor .u32 (r.toNat : Int) (c.toNat : Int) = ((r ^^^ B8 c).toNat : Int) := by
  rw [← b8_nat, xor_word]

theorem word_in {a : Int} (h : (Lit.int .u32 a).wf = true) : ∃ r : BitVec 32, a = (r.toNat : Int) := by
  have hb : 0 ≤ a ∧ a ≤ 4294967295 := by simpa [Lit.wf, IntKind.min, IntKind.max, IntKind.signed, IntKind.bits] using h
  exact ⟨BitVec.ofInt 32 a, (word_of a hb.1 (by omega)).symm⟩
theorem stn_more (k : Nat) (r : BitVec 32) : st (stn k r) = stn (k + 1) r := by rw [stn_add]; rfl

end Go.Proofs.YtpckloafdlkefaaGreat
