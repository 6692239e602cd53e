/-
  The walk of SumNames.
-/
import Derived.Test.YtooofipllklmgaaSumBrackets
import Derived.Test.YtooofipllklmgaaMadeBytes
namespace Go.Proofs.Ytooofipllklmgaa
open Go.RowKit Regs

theorem crc_noughts32 : crc 0#32 (Ws (List.replicate 32 0)) = 2324772522#32 := by decide +kernel
theorem crc_ones : crc 0#32 (Ws (fillb (fun _ => 255) 32 32)) = 1655221059#32 := by decide +kernel
theorem crc_rising : crc 0#32 (Ws (fillb (fun i => UInt8.ofNat i) 32 32)) = 1188919630#32 := by decide +kernel

set_option maxHeartbeats 1000000 in
theorem names_walk (w : World) :
    Calls Try.prog 3 #[] w fun e w' => e = .returned (.bool true) ∧ Below w.heap.size w w' := by
  have m32 : ∀ W : World, (Instr.makeSlice 22 (.int .i64 32) (.int .i64 32)).run Try.prog W = .ok (.slice (some ⟨W.heap.size, 0, none⟩) 32 32) (W.alloc (.cells (U (List.replicate 32 0)).toArray 5)) :=
    fun W => make_bytes 32 W (by omega)
  generalize hz : (U (List.replicate 32 0)).toArray = cz at m32
  have HZ := hid hz
  clear hz
  go_enter Try.func3, Try.ntmps3
  go_wp2_with fail
  go_loopw [3] (fun i wr => ∃ k : Nat, k ≤ 32 ∧ i = .int .i64 k ∧ Blk wr w.heap.size 5 (U (fillb (fun _ => 255) 32 k)).toArray ∧ Blk wr (w.heap.size + 1) 5 (U (fillb (fun i => UInt8.ofNat i) 32 k)).toArray ∧ Below w.heap.size w wr) (fun i _ => 32 - (intOf i).toNat)
  case atStart =>
    refine ⟨0, Nat.zero_le _, rfl, ?_, ?_, ((Below.refl _ _).alloc (Nat.le_refl _) _).alloc (by simp) _⟩
    · rw [fillb_zero, HZ.out]; exact Blk.alloc (Blk.new w _ _) _
    · rw [fillb_zero, HZ.out]; simpa using Blk.new (w.alloc _) _ _
  case round =>
    obtain ⟨k, hk, rfl, b1, b2, hbel⟩ := hrel
    have B1 := hid b1
    have B2 := hid b2
    have BB := hid hbel
    clear b1 b2 hbel
    by_cases hlt : k < 32
    · have c1 := blk_byte B1.out k (by rw [fillb_len]; exact hlt)
      have c2 := blk_byte B2.out k (by rw [fillb_len]; exact hlt)
      have f1 := B1.out.frozen k
      have f2 := B2.out.frozen k
      generalize (fillb (fun _ => 255) 32 k)[k]'(by rw [fillb_len]; exact hlt) = y1 at c1
      generalize (fillb (fun i => UInt8.ofNat i) 32 k)[k]'(by rw [fillb_len]; exact hlt) = y2 at c2
      have hw : IntKind.u8.wrap (k : Int) = ((UInt8.ofNat k).toNat : Int) := by
        have : ∀ k : Fin 32, IntKind.u8.wrap (k.val : Int) = ((UInt8.ofNat k.val).toNat : Int) := by decide
        exact this ⟨k, hlt⟩
      obtain ⟨z, hz⟩ : ∃ z, z = UInt8.ofNat k := ⟨_, rfl⟩
      rw [← hz] at hw
      have HK := hid hz
      clear hz
      go_wp2_with fail
      go_roundw
      case rel =>
        refine ⟨k + 1, by omega, by go_num, ?_, ?_, (BB.out.setCell (by simp) _).setCell (by simp) _⟩
        · rw [← fillb_set]
          exact (B1.out.set k _).far (by simp) _
        · rw [← fillb_set, ← HK.out]
          exact (B2.out.far (by simp) _).set k _
      case measure => simp [intOf]; omega
    · have HK : Hid (k = 32) := hid (by omega)
      have r1 := fun W (h : Below wr.heap.size wr W) => hid (sumof_any (some ⟨w.heap.size, 0, none⟩) 32 32 w.heap.size (w.heap.size + 1) _ W (row_blk (B1.out.below h B1.out.lt) (fillb_len _ _ _)) (Nat.le_trans B1.out.lt h.size) (by omega))
      have r2 := fun W (h : Below wr.heap.size wr W) => hid (sumof_any (some ⟨w.heap.size + 1, 0, none⟩) 32 32 (w.heap.size + 1) (w.heap.size + 1 + 1) _ W (row_blk (B2.out.below h B2.out.lt) (fillb_len _ _ _)) (Nat.le_trans B2.out.lt h.size) (by omega))
      rw [HK.out, crc_ones] at r1
      rw [HK.out, crc_rising] at r2
      have r0 := fun W : World => hid (sumof_any (some ⟨W.heap.size, 0, none⟩) 32 32 W.heap.size (W.heap.size + 1) _ (W.alloc (.cells cz 5)) (row_blk (by rw [HZ.out]; exact Blk.new W 5 cz) (List.length_replicate ..)) (by simp) (by omega))
      rw [crc_noughts32] at r0
      have J := fun W => hid (join_any 5#32 9#32 0 W (by omega) (by omega))
      have O := fun W => hid (nought_any 5#32 (-1) W (by omega) (by omega))
      rw [show (if (0 : Int) < 1 then 5#32 else stn (8 * (0 : Int).toNat) 5#32 ^^^ 9#32) = 5#32 by decide] at J
      rw [show ~~~ (stn (8 * (-1 : Int).toNat) (~~~ 5#32)) = 5#32 by decide] at O
      have W0 := hid (lives_any wr)
      have BB' := BB
      go_wp2_with fail
      refine W0.out.mono ?_
      rintro e w0 ⟨rfl, hb0⟩
      go_wp2_with fail
      refine (r0 _).out.mono ?_
      rintro e w1 ⟨rfl, hb⟩
      have hb1 := (hb0.alloc hb0.size _).trans (hb.mono (by simp; exact Nat.le_succ_of_le hb0.size))
      clear hb hb0
      go_wp2_with fail
      refine (r1 _ hb1).out.mono ?_
      rintro e w2 ⟨rfl, hb⟩
      have hb2 := hb1.trans (hb.mono hb1.size)
      clear hb hb1
      go_wp2_with fail
      refine (r2 _ hb2).out.mono ?_
      rintro e w3 ⟨rfl, hb⟩
      have hb3 := hb2.trans (hb.mono hb2.size)
      clear hb hb2
      go_wp2_with fail
      refine (J _).out.mono ?_
      rintro e w4 ⟨rfl, hb⟩
      have hb4 := hb3.trans (hb.mono hb3.size)
      clear hb hb3
      go_wp2_with fail
      refine (O _).out.mono ?_
      rintro e w5 ⟨rfl, hb⟩
      have hb5 := hb4.trans (hb.mono hb4.size)
      clear hb hb4
      go_wp2_with fail
      go_ret
      exact ⟨rfl, BB.out.trans (hb5.mono BB.out.size)⟩
end Go.Proofs.Ytooofipllklmgaa
