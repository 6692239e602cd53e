/-
  The walk of SumLinear.
-/
import Derived.Test.YtdbbgcbdkafghaaSumBrackets
import Derived.Test.YtdbbgcbdkafghaaMadeBytes
import Derived.Deep.RegionHeld3
namespace Go.Proofs.Ytdbbgcbdkafghaa
open Go.RowKit Regs

theorem ofInt8 (x : UInt8) : BitVec.ofInt 8 (x.toNat : Int) = x.toBitVec := by
  apply BitVec.eq_of_toNat_eq
  rw [BitVec.toNat_ofInt]
  have := x.toNat_lt
  show ((x.toNat : Int) % ((2 ^ 8 : Nat) : Int)).toNat = x.toNat
  omega
theorem wrap8 (x : UInt8) : IntKind.u8.wrap (x.toNat : Int) = (x.toNat : Int) := by
  have := x.toNat_lt
  simp [IntKind.wrap, IntKind.bits, IntKind.signed]
  omega
theorem xor8 (x y : UInt8) : bits .xor .u8 (x.toNat : Int) (y.toNat : Int) = ((x ^^^ y).toNat : Int) := by
  show IntKind.u8.wrap ((BitVec.ofInt 8 (x.toNat : Int) ^^^ BitVec.ofInt 8 (y.toNat : Int)).toNat : Int) = _
  rw [ofInt8, ofInt8]
  exact wrap8 (x ^^^ y)
theorem b8_xor (x y : UInt8) : B8 (x ^^^ y) = B8 x ^^^ B8 y := by
  apply BitVec.eq_of_toNat_eq
  rw [BitVec.toNat_xor]
  have hx := x.toNat_lt
  have hy := y.toNat_lt
  have hz := (x ^^^ y).toNat_lt
  simp only [B8, BitVec.toNat_ofNat]
  rw [Nat.mod_eq_of_lt (by omega), Nat.mod_eq_of_lt (by omega), Nat.mod_eq_of_lt (by omega), UInt8.toNat_xor]
/-- The exclusive or of three rows, place by place. -/
def xor3 (a b c : List UInt8) (i : Nat) : UInt8 := a.getD i 0 ^^^ b.getD i 0 ^^^ c.getD i 0
theorem three (a b c : List UInt8) (n : Nat) (ha : n ≤ a.length) (hb : n ≤ b.length) (hc : n ≤ c.length) :
    crc 0#32 (Ws (a.take n)) ^^^ crc 0#32 (Ws (b.take n)) ^^^ crc 0#32 (Ws (c.take n)) = crc 0#32 (Ws (fillb (xor3 a b c) n n)) := by
  rw [crc_three _ _ _ (by simp [Ws]; omega) (by simp [Ws]; omega), fillb_all]
  congr 1
  apply List.ext_getElem
  · simp [Ws]; omega
  · intro i h1 h2
    have hi : i < n := by simpa [Ws] using h2
    have e1 : i < a.length := by omega
    have e2 : i < b.length := by omega
    have e3 : i < c.length := by omega
    simp [Ws, xor3, b8_xor, e1, e2, e3]

theorem byte_at {w : World} {lo up : Nat} {A : Option Addr} {n : Nat} {l : List UInt8} (h : Row w lo up A n (U l)) {k : Nat} (hk : k < n) :
    ∃ b off, A = some ⟨b, off, none⟩ ∧ lo ≤ b ∧ b < up ∧ w.cell? ⟨b, off + k, none⟩ = some (.int .u8 ((l.getD k 0).toNat : Int)) := by
  obtain ⟨b, off, u, e, h1, h2, hu, hc⟩ := h.at_ hk
  have hl : k < l.length := by have := h.len; rw [U_len] at this; omega
  rw [U_get l k hl] at hu
  injection hu with hu
  subst hu
  exact ⟨b, off, e, h1, h2, by simpa [hl] using hc⟩

/-- Of, in whatever later world. -/
theorem sumof_q (w : World) (A : Option Addr) (n c lo up : Nat) (l : List UInt8) (x : BitVec 32) (hR : Row w lo up A n (U l)) (hup : up ≤ w.heap.size) (hn : n ≤ 9223372036854775807) (hx : crc 0#32 (Ws l) = x) (W : World) (h : Below w.heap.size w W) :
    Calls Try.prog 37 #[.slice A n c] W fun e w' => e = .returned (V x) ∧ Below w.heap.size w w' := by
  subst hx
  refine (sumof_any A n c lo up l W (hR.below h hup) (Nat.le_trans hup h.size) hn).mono ?_
  rintro e w' ⟨rfl, hb⟩
  exact ⟨rfl, h.trans (hb.mono h.size)⟩

theorem min_four (a b c : Nat) : ∃ n : Nat, n ≤ a ∧ n ≤ b ∧ n ≤ c ∧ n ≤ 600 ∧ ∀ (ts : Array TypeId) (t : TypeId) (W : World), (Builtin.min_ ts t #[.int .i64 (a : Int), .int .i64 (b : Int), .int .i64 (c : Int), .int .i64 600]).run Try.prog W = .ok (.int .i64 (n : Int)) W := by
  refine ⟨min (min (min a b) c) 600, by omega, by omega, by omega, by omega, fun ts t W => ?_⟩
  simp only [Builtin.min_, Builtin.min2, List.foldlM, Sem.run_bind, Sem.run_pure, Result.andThen_ok]
  congr 2
  split <;> split <;> split <;> omega

end Go.Proofs.Ytdbbgcbdkafghaa
