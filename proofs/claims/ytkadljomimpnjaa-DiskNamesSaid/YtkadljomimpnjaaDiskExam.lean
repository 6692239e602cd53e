/-
  Chapter 6's examples: the walk of DiskNames.
-/
import Derived.Test.YtkadljomimpnjaaLives6
import Derived.Test.YtkadljomimpnjaaMadeBytes
namespace Go.Proofs.Ytkadljomimpnjaa
open Go.RowKit Go.Maps Dsk
set_option maxHeartbeats 4000000 in
set_option maxRecDepth 20000 in
theorem names_walk (w : World) : Calls Try.prog 3 #[] w fun e w' => e = .returned (.bool true) ∧ Below w.heap.size w w' := by
  have LV := hid (lives_any w)
  obtain ⟨X1, hX1⟩ : ∃ C, C = (U (List.replicate 11 0)).toArray := ⟨_, rfl⟩
  obtain ⟨X2, hX2⟩ : ∃ C, C = (U (List.replicate 10 0)).toArray := ⟨_, rfl⟩
  have MK1 : ∀ W : World, (Instr.makeSlice 29 (.int .i64 11) (.int .i64 11)).run Try.prog W = .ok (.slice (some ⟨W.heap.size, 0, none⟩) 11 11) (W.alloc (.cells X1 5)) := fun W => by rw [hX1]; exact make_bytes 11 W (by omega)
  have MK2 : ∀ W : World, (Instr.makeSlice 29 (.int .i64 10) (.int .i64 10)).run Try.prog W = .ok (.slice (some ⟨W.heap.size, 0, none⟩) 10 10) (W.alloc (.cells X2 5)) := fun W => by rw [hX2]; exact make_bytes 10 W (by omega)
  have HX1 := hid hX1
  have HX2 := hid hX2
  clear hX1 hX2
  have B1 : Hid (dFuse ⟨10, [], -1, false⟩ 1 = (0, ⟨10, [], 1, false⟩)) := hid (by rfl)
  have B2 : Hid (dAppend ⟨10, [], 1, false⟩ [97] [1] = (0, ⟨10, [([97], ⟨[1], 0⟩)], 0, false⟩)) := hid (by rfl)
  have B3 : Hid (dSync ⟨10, [([97], ⟨[1], 0⟩)], 0, false⟩ [97] = (9, ⟨10, [([97], ⟨[1], 0⟩)], 0, true⟩)) := hid (by rfl)
  have B4 : Hid (ready ⟨10, [([97], ⟨[1], 0⟩)], 0, true⟩ [97] = 9) := hid (by rfl)
  have B6 : Hid (dCrash ⟨10, [([97], ⟨[1], 0⟩)], 0, true⟩ [] = (0, ⟨10, [([97], ⟨[], 0⟩)], -1, false⟩)) := hid (by rfl)
  have B7 : Hid (dAppend ⟨10, [([97], ⟨[], 0⟩)], -1, false⟩ [66] [] = (2, ⟨10, [([97], ⟨[], 0⟩)], -1, false⟩)) := hid (by rfl)
  have B8 : Hid (dAppend ⟨10, [([97], ⟨[], 0⟩)], -1, false⟩ [98] (List.replicate 11 0) = (7, ⟨10, [([97], ⟨[], 0⟩)], -1, false⟩)) := hid (by rfl)
  have B9 : Hid (dAppend ⟨10, [([97], ⟨[], 0⟩)], -1, false⟩ [98] (List.replicate 10 0) = (0, ⟨10, [([97], ⟨[], 0⟩), ([98], ⟨List.replicate 10 0, 0⟩)], -1, false⟩)) := hid (by rfl)
  have B10 : Hid (dRename ⟨10, [([97], ⟨[], 0⟩), ([98], ⟨List.replicate 10 0, 0⟩)], -1, false⟩ [98] [99] = (10, ⟨10, [([97], ⟨[], 0⟩), ([98], ⟨List.replicate 10 0, 0⟩)], -1, false⟩)) := hid (by rfl)
  have B11 : Hid (dRename ⟨10, [([97], ⟨[], 0⟩), ([98], ⟨List.replicate 10 0, 0⟩)], -1, false⟩ [120] [99] = (6, ⟨10, [([97], ⟨[], 0⟩), ([98], ⟨List.replicate 10 0, 0⟩)], -1, false⟩)) := hid (by rfl)
  have B12 : Hid (dCut ⟨10, [([97], ⟨[], 0⟩), ([98], ⟨List.replicate 10 0, 0⟩)], -1, false⟩ [98] 11 = (2, ⟨10, [([97], ⟨[], 0⟩), ([98], ⟨List.replicate 10 0, 0⟩)], -1, false⟩)) := hid (by rfl)
  have B13 : Hid (dFuse ⟨10, [([97], ⟨[], 0⟩), ([98], ⟨List.replicate 10 0, 0⟩)], -1, false⟩ (-2) = (2, ⟨10, [([97], ⟨[], 0⟩), ([98], ⟨List.replicate 10 0, 0⟩)], -1, false⟩)) := hid (by rfl)
  have B14 : Hid (dCrash ⟨10, [([97], ⟨[], 0⟩), ([98], ⟨List.replicate 10 0, 0⟩)], -1, false⟩ [-1] = (2, ⟨10, [([97], ⟨[], 0⟩), ([98], ⟨List.replicate 10 0, 0⟩)], -1, false⟩)) := hid (by rfl)
  have B15 : Hid (dSize ⟨10, [([97], ⟨[], 0⟩), ([98], ⟨List.replicate 10 0, 0⟩)], -1, false⟩ [97] = 0) := hid (by rfl)
  have B16 : Hid (dSize ⟨10, [([97], ⟨[], 0⟩), ([98], ⟨List.replicate 10 0, 0⟩)], -1, false⟩ [113] = -1) := hid (by rfl)
  have B17 : Hid (dSynced ⟨10, [([97], ⟨[], 0⟩), ([98], ⟨List.replicate 10 0, 0⟩)], -1, false⟩ [98] = 0) := hid (by rfl)
  have B18 : Hid (((Dsk.used [([97], ⟨[], 0⟩), ([98], ⟨List.replicate 10 0, 0⟩)] : Nat) : Int) = 10) := hid (by rfl)
  go_enter Try.func3, Try.ntmps3
  go_wp2_with fail
  refine LV.out.mono ?_
  rintro e w1 ⟨rfl, hb1⟩
  clear LV
  go_wp2_with fail
  refine (new_m w1 10).mono ?_
  rintro e w2 ⟨hb2, h | ⟨_, _, d, F, rfl, hd, hF⟩⟩
  · omega
  have L := live_new hb2 (by omega) (by omega) hd hF
  clear hd hF
  go_wp2_with fail
  refine (new_m w2 (-1)).mono ?_
  rintro e w3 ⟨hb3, ⟨_, rfl⟩ | ⟨h0, _⟩⟩
  case inr => omega
  have L0 := L.then hb3
  have HB := hid hb1
  clear L hb3 hb2 hb1
  go_wp2_with fail
  refine (L0.fuse 1 (by omega)).mono ?_
  rw [B1.out]
  rintro e w4 ⟨rfl, F4, L4, _⟩
  clear L0
  go_wp2_with fail
  rw [S_one]
  have M4 := L4.then (W' := w4.alloc (.cells #[.int .u8 1] 5)) ((Below.refl _ _).alloc (Nat.le_refl _) _)
  refine (M4.append (by omega) [97] (by decide) _ _ 1 1 [1] (arg_lit 5 (U [1]) _ 1 rfl rfl (by omega) L4.lt)).mono ?_
  rw [B2.out]
  rintro e w5 ⟨rfl, F5, L5, _⟩
  clear L4 M4
  go_wp2_with fail
  rw [S_one]
  refine (L5.sync [97] (by decide)).mono ?_
  rw [B3.out]
  rintro e w6 ⟨rfl, F6, L6, _⟩
  clear L5
  go_wp2_with fail
  rw [S_one]
  refine (at_read L6.at_ L6.fit [97] (by decide)).mono ?_
  rw [B4.out]
  rintro e w7 ⟨v, rfl, A, len, cap, rfl, _, _, _, _, hb7⟩
  have L7 := L6.then hb7
  clear L6 hb7
  go_wp2_with fail
  refine (at_off L7.at_).mono ?_
  rintro e w8 ⟨rfl, hb8⟩
  have L8 := L7.then hb8
  clear L7 hb8
  go_wp2_with fail
  refine (L8.crash (by omega) 0 none 0 0 [] (arg_nil rfl) (by decide)).mono ?_
  rw [B6.out]
  rintro e w9 ⟨rfl, F9, L9, _⟩
  clear L8
  go_wp2_with fail
  rw [S_one]
  refine (L9.append (by omega) [66] (by decide) 0 none 0 0 [] (arg_nil rfl)).mono ?_
  rw [B7.out]
  rintro e w10 ⟨rfl, F10, L10, _⟩
  clear L9
  go_wp2_with fail
  rw [S_one]
  have M10 := L10.then (W' := w10.alloc (.cells X1 5)) ((Below.refl _ _).alloc (Nat.le_refl _) _)
  refine (M10.append (by omega) [98] (by decide) _ _ 11 11 (List.replicate 11 0) (arg_lit 5 (U (List.replicate 11 0)) _ 11 HX1.out (by simp [U]) (by omega) L10.lt)).mono ?_
  rw [B8.out]
  rintro e w11 ⟨rfl, F11, L11, _⟩
  clear L10 M10
  go_wp2_with fail
  rw [S_one]
  have M11 := L11.then (W' := w11.alloc (.cells X2 5)) ((Below.refl _ _).alloc (Nat.le_refl _) _)
  refine (M11.append (by omega) [98] (by decide) _ _ 10 10 (List.replicate 10 0) (arg_lit 5 (U (List.replicate 10 0)) _ 10 HX2.out (by simp [U]) (by omega) L11.lt)).mono ?_
  rw [B9.out]
  rintro e w12 ⟨rfl, F12, L12, _⟩
  clear L11 M11
  go_wp2_with fail
  rw [S_one, S_one]
  refine (L12.rename (by omega) [98] [99] (by decide) (by decide)).mono ?_
  rw [B10.out]
  rintro e w13 ⟨rfl, F13, L13, _⟩
  clear L12
  go_wp2_with fail
  rw [S_one, S_one]
  refine (L13.rename (by omega) [120] [99] (by decide) (by decide)).mono ?_
  rw [B11.out]
  rintro e w14 ⟨rfl, F14, L14, _⟩
  clear L13
  go_wp2_with fail
  rw [S_one]
  refine (L14.cut [98] 11 (by decide)).mono ?_
  rw [B12.out]
  rintro e w15 ⟨rfl, F15, L15, _⟩
  clear L14
  go_wp2_with fail
  refine (L15.fuse (-2) (by omega)).mono ?_
  rw [B13.out]
  rintro e w16 ⟨rfl, F16, L16, _⟩
  clear L15
  go_wp2_with fail
  have M16 := L16.then (W' := w16.alloc (.cells #[.int .i64 (-1)] 3)) ((Below.refl _ _).alloc (Nat.le_refl _) _)
  refine (M16.crash (by omega) _ _ 1 1 [-1] (arg_lit 3 (I [-1]) _ 1 rfl rfl (by omega) L16.lt) (by decide)).mono ?_
  rw [B14.out]
  rintro e w17 ⟨rfl, F17, L17, _⟩
  clear L16 M16
  go_wp2_with fail
  rw [S_one]
  refine (at_size L17.at_ [97] (by decide)).mono ?_
  rw [B15.out]
  rintro e w18 ⟨rfl, hb18⟩
  have L18 := L17.then hb18
  clear L17 hb18
  go_wp2_with fail
  rw [S_one]
  refine (at_size L18.at_ [113] (by decide)).mono ?_
  rw [B16.out]
  rintro e w19 ⟨rfl, hb19⟩
  have L19 := L18.then hb19
  clear L18 hb19
  go_wp2_with fail
  rw [S_one]
  refine (at_synced L19.at_ [98] (by decide)).mono ?_
  rw [B17.out]
  rintro e w20 ⟨rfl, hb20⟩
  have L20 := L19.then hb20
  clear L19 hb20
  go_wp2_with fail
  refine (at_used L20.at_ L20.fit).mono ?_
  rw [B18.out]
  rintro e w21 ⟨rfl, hb21⟩
  have L21 := L20.then hb21
  clear L20 hb21
  go_wp2_with fail
  refine (at_room L21.at_).mono ?_
  rintro e w22 ⟨rfl, hb22⟩
  have L22 := L21.then hb22
  clear L21 hb22
  go_wp2_with fail
  refine (at_off L22.at_).mono ?_
  rintro e w23 ⟨rfl, hb23⟩
  have L23 := L22.then hb23
  clear L22 hb23
  go_wp2_with fail
  refine (at_names L23.at_ L23.fit (by omega)).mono ?_
  rintro e w24 ⟨v, rfl, A2, len2, cap2, rfl, hR, _, _, hcm, hb24⟩
  have L24 := L23.then hb24
  clear L23 hb24
  go_wp2_with fail
  refine (same_strs A2 _ len2 2 cap2 2 _ _ _ _ [[97], [98]] [[97], [98]] _ (hR.alloc (Nat.le_refl _) _) (Row.of_own (own_lit w24 9 (Sv [[97], [98]]) (by unfold maxLen; simp [Sv]))) (by unfold maxLen at hcm; omega)).mono ?_
  rintro e w25 ⟨rfl, kk, rfl⟩
  go_wp2
  go_ret
  exact ⟨rfl, below_drewN (((HB.out.trans (L24.below.mono HB.out.size))).alloc (Nat.le_trans HB.out.size L24.below.size) _) kk⟩
end Go.Proofs.Ytkadljomimpnjaa
