/-
  The chapter's example, asked ahead of each law.
-/
import Derived.Test.YtdbbgcbdkafghaaSumOf
import Derived.Test.YtdbbgcbdkafghaaKit
import Derived.Lib.SlBytesConst
namespace Go.Proofs.Ytdbbgcbdkafghaa
open Go.RowKit Regs

theorem crc_nine : crc 0#32 (Ws [49, 50, 51, 52, 53, 54, 55, 56, 57]) = 3808858755#32 := by decide +kernel

/-- A row of bytes with the mark behind it. -/
theorem row_marked (w : World) (t : TypeId) (l : List UInt8) (fr : Nat × Nat) (cs : Array Value) (n : Nat) (hc : cs = (U l).toArray) (hn : n = l.length) : Row (w.alloc (.cells cs t fr)) w.heap.size (w.heap.size + 1) (some ⟨w.heap.size, 0, none⟩) n (U l) := by
  subst hc hn
  refine ⟨U_len l, fun _ => ⟨w.heap.size, 0, rfl, Nat.le_refl _, Nat.lt_succ_self _, fun j u hu => ?_⟩⟩
  rw [Nat.zero_add, World.cell?_alloc_mark]
  simpa using hu

end Go.Proofs.Ytdbbgcbdkafghaa
