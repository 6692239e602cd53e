/-
  A slice of bytes that is made, all noughts, and filled from the left.
-/
import Derived.Test.YtpckloafdlkefaaGreatKit
import Derived.OwnWalk
namespace Go.Proofs.YtpckloafdlkefaaGreat
set_option maxRecDepth 40000
open Go.RowKit

theorem made_bytes (n : Nat) : madeCells #[.int .u8 0] n = (U (List.replicate n 0)).toArray := by
  apply Array.ext
  · simp [madeCells, U]
  · intro i h1 h2
    simp [madeCells, U, Nat.mod_one]
set_option maxRecDepth 20000 in
theorem make_bytes (n : Nat) (W : World) (hn : n ≤ 1000000) :
    (Instr.makeSlice 33 (.int .i64 n) (.int .i64 n)).run Tryz.prog W = .ok (.slice (some ⟨W.heap.size, 0, none⟩) n n) (W.alloc (.cells (U (List.replicate n 0)).toArray 5)) := by
  obtain ⟨i0, hi, hz0, hz1, hz2⟩ := info_parts info5
  have hb2 : (i0.bytes : Int) * (n : Int) ≤ 281474976710656 := by rw [hz2]; omega
  have h := run_make (P := Tryz.prog) W 33 5 i0 (.int .u8 0) Tryz.underlying33 hi hz0 .i64 .i64 n n (by omega) (Int.le_refl _) hb2 (by omega)
  rw [h, hz1, Nat.mul_one, Int.toNat_natCast]
  congr 2
  congr 1
  exact made_bytes n
/-- Bytes that are filled from the left. -/
def fillb (f : Nat → UInt8) (n k : Nat) : List UInt8 := (List.range n).map fun i => if i < k then f i else 0
theorem fillb_len (f : Nat → UInt8) (n k : Nat) : (fillb f n k).length = n := by simp [fillb]
theorem fillb_zero (f : Nat → UInt8) (n : Nat) : fillb f n 0 = List.replicate n 0 := by
  apply List.ext_getElem
  · simp [fillb]
  · intro i h1 h2
    simp [fillb]
theorem fillb_set (f : Nat → UInt8) (n k : Nat) : (U (fillb f n k)).toArray.setIfInBounds k (.int .u8 ((f k).toNat : Int)) = (U (fillb f n (k + 1))).toArray := by
  apply Array.ext
  · simp [U, fillb]
  · intro i h1 h2
    simp only [U, fillb, List.getElem_toArray, List.getElem_map, List.getElem_range]
    by_cases h : k = i
    · subst h; simp
    · have e : (i < k + 1) = (i < k) := by apply propext; omega
      simp [h, e]
theorem fillb_all (f : Nat → UInt8) (n : Nat) : fillb f n n = (List.range n).map f := by
  unfold fillb
  apply List.map_congr_left
  intro i hi
  have : i < n := by simpa using hi
  simp [this]
/-- A block of bytes as a row. -/
theorem row_blk {w : World} {g : Nat} {t : TypeId} {l : List UInt8} {n : Nat} (h : Blk w g t (U l).toArray) (hn : l.length = n) : Row w g (g + 1) (some ⟨g, 0, none⟩) n (U l) := by
  subst hn
  refine ⟨U_len l, fun _ => ⟨g, 0, rfl, Nat.le_refl _, Nat.lt_succ_self _, fun j u hu => ?_⟩⟩
  rw [Nat.zero_add, h.cell j]
  simpa using hu
theorem blk_byte {w : World} {g : Nat} {t : TypeId} {l : List UInt8} (h : Blk w g t (U l).toArray) (k : Nat) (hk : k < l.length) : w.cell? ⟨g, k, none⟩ = some (.int .u8 (l[k].toNat : Int)) := by
  rw [h.cell k]
  simp [U, hk]
end Go.Proofs.YtpckloafdlkefaaGreat
