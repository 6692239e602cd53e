/-
  The chapter's example, asked ahead of each law.
-/
import Derived.Test.YtooofipllklmgaaSumOf
import Derived.Test.YtooofipllklmgaaKit
import Derived.Lib.SlBytesConst
namespace Go.Proofs.Ytooofipllklmgaa
open Go.RowKit Regs

theorem crc_nine : crc 0#32 (Ws [49, 50, 51, 52, 53, 54, 55, 56, 57]) = 3808858755#32 := by decide +kernel

/-- A row of bytes with the mark behind it. -/
theorem row_marked (w : World) (t : TypeId) (l : List UInt8) (fr : Nat × Nat) (cs : Array Value) (n : Nat) (hc : cs = (U l).toArray) (hn : n = l.length) : Row (w.alloc (.cells cs t fr)) w.heap.size (w.heap.size + 1) (some ⟨w.heap.size, 0, none⟩) n (U l) := by
  subst hc hn
  refine ⟨U_len l, fun _ => ⟨w.heap.size, 0, rfl, Nat.le_refl _, Nat.lt_succ_self _, fun j u hu => ?_⟩⟩
  rw [Nat.zero_add, World.cell?_alloc_mark]
  simpa using hu

theorem lives_any (w : World) : Calls Try.prog 7 #[] w fun e w' => e = .returned (.bool true) ∧ Below w.heap.size w w' := by
  obtain ⟨C, hC⟩ : ∃ C : Array Value, C = #[.int .u8 49, .int .u8 50, .int .u8 51, .int .u8 52, .int .u8 53, .int .u8 54, .int .u8 55, .int .u8 56, .int .u8 57] := ⟨_, rfl⟩
  have kc := Lib.run_convert_bytes_const (P := Try.prog) w 22 5 C 9 9 Try.underlying22 Try.underlying5
  obtain ⟨w0, hw0⟩ : ∃ w0, w0 = w.alloc (.cells C 5 (C.size, C.size + 1)) := ⟨_, rfl⟩
  have W1 := hid (sumof_any (some ⟨w.heap.size, 0, none⟩) 9 9 w.heap.size (w.heap.size + 1) [49, 50, 51, 52, 53, 54, 55, 56, 57] w0 (by rw [hw0]; exact row_marked w 5 [49, 50, 51, 52, 53, 54, 55, 56, 57] _ _ 9 hC rfl) (by rw [hw0]; simp) (by omega))
  rw [crc_nine] at W1
  have hb0 : Below w.heap.size w w0 := by rw [hw0]; exact (Below.refl _ _).alloc (Nat.le_refl _) _
  have HB0 := hid hb0
  rw [← hw0] at kc
  rw [hC] at kc
  clear hw0 hb0 hC C
  have W2 := fun W => hid (sumof_any none 0 0 0 0 [] W Row.empty (Nat.zero_le _) (by omega))
  go_enter Try.func7, Try.ntmps7
  go_wp2_with fail
  refine W1.out.mono ?_
  rintro e w1 ⟨rfl, hb1⟩
  go_wp2_with fail
  refine (W2 w1).out.mono ?_
  rintro e w2 ⟨rfl, hb2⟩
  go_wp2_with fail
  go_ret
  exact ⟨rfl, (HB0.out.trans (hb1.mono HB0.out.size)).trans (hb2.mono (Nat.le_trans HB0.out.size hb1.size))⟩
end Go.Proofs.Ytooofipllklmgaa
