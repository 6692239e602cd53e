/-
  Contracts of the reference's times, moved, Join and Noughts, whatever words and numbers come in.
-/
import Derived.Test.YtdbbgcbdkafghaaSumMoved
import Derived.Deep.RegionHeld3
import Derived.Deep.MidRow
namespace Go.Proofs.Ytdbbgcbdkafghaa
open Go.RowKit Regs

theorem below_undrew {B : Nat} {a w : World} (h : Below B a.drew w) : Below B a w := ⟨h.os, h.tape, h.output, h.size, h.block⟩
theorem range_of {w : World} {g : Nat} {t : TypeId} {l : List (BitVec 32)} (h : Blk w g t (WC l)) : w.rangeAt g 0 (l.map V) := fun j v hv => by
  rw [Nat.zero_add, h.cell j]
  simpa [WC] using hv
theorem cell_set_far (w : World) (a p : Addr) (v : Value) (h : a.block ≠ p.block) : (w.setCell p v).cell? a = w.cell? a := World.cell?_of_block (Below.heap_setCell w p v a.block h)
theorem mat_byte : fillw (fun i => byt (1#32 <<< i) (B8 0)) 32 = mat 8 := by
  rw [fillw_all]
  unfold mat
  apply List.map_congr_left
  intro i _
  rw [show B8 0 = 0#32 by decide, byt_zero]

end Go.Proofs.Ytdbbgcbdkafghaa
