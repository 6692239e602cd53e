/-
  The walk of WalNames.
-/
import Derived.Test.YtchimkkpjdbdpaaWalB
import Derived.Test.YtchimkkpjdbdpaaMadeBytes
namespace Go.Proofs.Ytchimkkpjdbdpaa
set_option maxRecDepth 40000
open Go.RowKit Go.Joins Go.Maps Dsk Regs

/-- A log on a disk that holds nothing else, opened. -/
theorem open_log {w W : World} {d : Nat} {F : List Nat} {size : Int} {c : List UInt8} {k : Nat} (hw : w.heap.size ≤ W.heap.size) (hb : Below w.heap.size w W) (hD : DAt W d F (LD size c)) (f : Fit (LD size c) k) (hn : ∀ b ∈ F, w.heap.size ≤ b) (hc : c.length ≤ 300000) :
    Calls Try.prog 8 #[ptr d] W fun e W' => ∃ rs g F' v xs m, WScans c rs ∧ e = .returned (.tuple #[ptr g, v, .int .i64 0]) ∧ Hid (xs.map RP.r = rs) ∧ Hid (RL W' W.heap.size m v xs) ∧ W.heap.size ≤ m ∧ m ≤ W'.heap.size ∧ LLog w W' g d F' ⟨LD size (logB rs), nextOf rs, false⟩ (k + 1) ∧ Touch W W' F ∧ (∀ b ∈ F', b ∈ F ∨ m ≤ b) ∧ m ≤ g := by
  refine (open_w hD f (by rw [file_LD]; exact hc)).mono ?_
  rintro e W' (⟨h, _⟩ | ⟨_, rs, hs, ho⟩)
  · rw [ready_LD] at h; cases h
  · rw [file_LD] at hs
    have e0 := opn_LD (size := size) hs
    rcases ho with ⟨h, _⟩ | ⟨_, g, F', v, xs, m, rfl, hx, hl, hm, hg, hL, hT, hF⟩
    · rw [e0] at h; exact absurd rfl h
    · have hf := opn_fit f rs
      rw [e0] at hL hf
      exact ⟨rs, g, F', v, xs, m, hs, rfl, hx, hl, hm, by have := Blk.lt hL.blk; omega, ⟨hL, hf, fun b hb => by rcases hF b hb with h | h; exact hn b h; omega, by omega, hb.trans (hT.below hw hn)⟩, hT, hF, hg⟩
theorem skip_LD_full {size : Int} {c : List UInt8} (nx q : Nat) (h : 0 < c.length) : wSkip ⟨LD size c, nx, false⟩ q = (10, ⟨LD size c, nx, false⟩) := by
  unfold wSkip
  rw [if_neg (by simp), if_pos (by rw [wSize_LD]; exact h)]
theorem skip_LD_bad {size : Int} (nx q : Nat) (h : q < 1 ∨ 4611686018427387904 < q) : wSkip ⟨LD size [], nx, false⟩ q = (2, ⟨LD size [], nx, false⟩) := by
  unfold wSkip
  rw [if_neg (by simp), if_neg (by rw [wSize_LD]; simp), if_pos h]
theorem skip_LD {size : Int} (nx q : Nat) (h : ¬ (q < 1 ∨ 4611686018427387904 < q)) : wSkip ⟨LD size [], nx, false⟩ q = (0, ⟨LD size [], max nx q, false⟩) := by
  unfold wSkip
  rw [if_neg (by simp), if_neg (by rw [wSize_LD]; simp), if_neg h]
set_option maxHeartbeats 4000000 in
theorem walNames_walk (w : World) : Calls Try.prog 3 #[] w fun e w' => e = .returned (.bool true) ∧ Below w.heap.size w w' := by
  have LV := hid (lives_any w)
  obtain ⟨c1, hc1⟩ : ∃ c1, c1 = frm (pay (1, [7])) := ⟨_, rfl⟩
  have hl1 : c1.length = 17 := by rw [hc1, rec_len]; rfl
  have A1 : Hid (wApp ⟨ND 40, 1, false⟩ [7] = (0, 1, ⟨LD 40 c1, 2, false⟩)) := hid (by rw [hc1]; exact app_ND 1 [7] (by omega) (by decide))
  have A2 : Hid (wApp ⟨LD 40 c1, 2, false⟩ (List.replicate 9 0) = (7, 0, ⟨LD 40 c1, 2, false⟩)) := hid (app_full 2 _ (by omega) (by rw [hl1]; decide))
  have A3 : Hid (wSkip ⟨LD 40 c1, 2, false⟩ 5 = (10, ⟨LD 40 c1, 2, false⟩)) := hid (skip_LD_full 2 5 (by omega))
  have A4 : Hid (wReset ⟨LD 40 c1, 2, false⟩ = (0, ⟨LD 40 [], 2, false⟩)) := hid (reset_LD 2)
  have A5 : Hid (wSkip ⟨LD 40 [], 2, false⟩ 9 = (0, ⟨LD 40 [], 9, false⟩)) := hid (skip_LD 2 9 (by omega))
  have A6 : Hid (wSkip ⟨LD 40 [], 9, false⟩ 0 = (2, ⟨LD 40 [], 9, false⟩)) := hid (skip_LD_bad 9 0 (by omega))
  obtain ⟨c7, hc7⟩ : ∃ c7, c7 = frm (pay (9, [])) := ⟨_, rfl⟩
  have A7 : Hid (wApp ⟨LD 40 [], 9, false⟩ [] = (0, 9, ⟨LD 40 c7, 10, false⟩)) := hid (by rw [hc7]; exact app_LD 9 [] (by omega) (by decide))
  have A8 : Hid (∀ rs, WScans c7 rs → nextOf rs = 10) := hid fun rs h => by
    have h2 := wscans_log (rs := [(9, [])]) ⟨by decide, by decide, .inl rfl, trivial⟩ (by simp)
    rw [logB_one, ← hc7] at h2
    rw [wscans_unique h h2]
    rfl
  have A9 : Hid (c7.length ≤ 300000) := hid (by rw [hc7, rec_len]; simp)
  have MK : ∀ W : World, (Instr.makeSlice 34 (.int .i64 9) (.int .i64 9)).run Try.prog W = .ok (.slice (some ⟨W.heap.size, 0, none⟩) 9 9) (W.alloc (.cells (U (List.replicate 9 0)).toArray 5)) := fun W => make_bytes 9 W (by omega)
  obtain ⟨nine, hnine⟩ : ∃ nine, nine = (U (List.replicate 9 0)).toArray := ⟨_, rfl⟩
  rw [← hnine] at MK
  have HN := hid hnine
  have C1 : Hid (∀ W, Calls Try.prog 15 #[.int .i64 1] W fun e w' => e = .returned (.int .i64 17) ∧ w' = W) := hid fun W => wcost_any 1 W
  have C2 : Hid (∀ W, Calls Try.prog 15 #[.int .i64 (-1)] W fun e w' => e = .returned (.int .i64 0) ∧ w' = W) := hid fun W => wcost_any (-1) W
  have C3 : Hid (∀ W, Calls Try.prog 15 #[.int .i64 33554425] W fun e w' => e = .returned (.int .i64 0) ∧ w' = W) := hid fun W => wcost_any 33554425 W
  clear hc1 hl1 hc7 hnine
  go_enter Try.func3, Try.ntmps3
  go_wp2_with fail
  refine LV.out.mono ?_
  rintro e w1 ⟨rfl, hb1⟩
  have HB1 := hid hb1
  have ON := hid (open_nil w1)
  clear hb1 LV
  go_wp2_with fail
  refine ON.out.mono ?_
  rintro e w2 ⟨rfl, hb2⟩
  have HB2 := hid (HB1.out.trans (hb2.mono HB1.out.size))
  have NW := hid (new_log w2 40 (by omega) (by omega))
  clear hb2 ON HB1
  go_wp2_with fail
  refine NW.out.mono ?_
  rintro e w3 ⟨d, F3, rfl, L3⟩
  have O3 := hid (open_new L3)
  clear NW L3
  go_wp2_with fail
  refine O3.out.mono ?_
  rintro e w4 ⟨g, F4, A4', c4', rfl, L4, _⟩
  have L5 := L4.then (W' := w4.alloc (.cells #[.int .u8 7] 5)) ((Below.refl _ _).alloc (Nat.le_refl _) _)
  have AP := hid (L5.append (by omega) (by show (1 : Nat) ≤ _; omega) _ 1 1 _ [7] (arg_lit 5 (U [7]) _ 1 rfl rfl (by omega) L4.arg) (by omega))
  rw [A1.out] at AP
  clear L4 L5 O3
  go_wp2_with fail
  refine AP.out.mono ?_
  rintro e w5 ⟨rfl, F5, L5, _, _⟩
  have HL5 := hid L5
  clear L5 AP
  go_wp2_with fail
  have L6 := HL5.out.then (W' := w5.alloc (.cells nine 5)) ((Below.refl _ _).alloc (Nat.le_refl _) _)
  have AP2 := hid (L6.append (by omega) (by show (2 : Nat) ≤ _; omega) _ 9 9 _ (List.replicate 9 0) (arg_lit 5 (U (List.replicate 9 0)) nine 9 HN.out rfl (by omega) HL5.out.arg) (by omega))
  rw [A2.out] at AP2
  clear HL5 L6
  refine AP2.out.mono ?_
  rintro e w6 ⟨rfl, F6, L6, _, _⟩
  have SK := hid (L6.skip 5 (by omega))
  rw [A3.out] at SK
  clear L6 AP2 MK
  go_wp2_with fail
  refine SK.out.mono ?_
  rintro e w7 ⟨rfl, F7, L7, _, _⟩
  have RS := hid L7.reset
  rw [A4.out] at RS
  clear L7 SK
  go_wp2_with fail
  refine RS.out.mono ?_
  rintro e w8 ⟨rfl, F8, L8, _, _⟩
  have SK2 := hid (L8.skip 9 (by omega))
  rw [A5.out] at SK2
  clear L8 RS
  go_wp2_with fail
  refine SK2.out.mono ?_
  rintro e w9 ⟨rfl, F9, L9, _, _⟩
  have SK3 := hid (L9.skip 0 (by omega))
  rw [A6.out] at SK3
  clear L9 SK2
  go_wp2_with fail
  refine SK3.out.mono ?_
  rintro e w10 ⟨rfl, F10, L10, _, _⟩
  have AP3 := hid (L10.append (by omega) (by show (9 : Nat) ≤ _; omega) none 0 0 0 [] (arg_nil rfl) (by omega))
  rw [A7.out] at AP3
  clear L10 SK3
  go_wp2_with fail
  refine AP3.out.mono ?_
  rintro e w11 ⟨rfl, F11, L11, _, _⟩
  have OP := hid (open_log (w := w2) (W := w11) L11.below.size L11.below L11.log.at_ L11.fit L11.new A9.out)
  have BR : Hid (∀ W, Touch w11 W F11 → WB W g d 10 false) := hid fun W h => Blk.touch L11.log.blk h L11.log.off
  clear L11 AP3
  go_wp2_with fail
  refine OP.out.mono ?_
  rintro e w12 ⟨rs, g2, F12, v, xs, m, hs, rfl, hx, hl, hm, hm2, L12, hT12, _, hg2⟩
  have e10 : nextOf rs = 10 := A8.out rs hs
  rw [e10] at L12
  have e2 := eql_ptr w12 g2
  have BR2 := hid (broken_w (BR.out w12 hT12))
  have NX2 := hid (next_w L12.blk)
  have HB12 := hid (HB2.out.trans (L12.below.mono HB2.out.size))
  obtain ⟨A12, c12, rfl, _⟩ := hl.out.shape
  clear L12 hT12 hm hm2 hg2 hs hx hl e10 OP BR
  go_wp2_with fail
  refine BR2.out.mono ?_
  rintro e w' ⟨rfl, rfl⟩
  go_wp2_with fail
  refine NX2.out.mono ?_
  rintro e w' ⟨rfl, rfl⟩
  go_wp2_with fail
  refine (C1.out _).mono ?_
  rintro e w' ⟨rfl, rfl⟩
  go_wp2_with fail
  refine (C2.out _).mono ?_
  rintro e w' ⟨rfl, rfl⟩
  go_wp2_with fail
  refine (C3.out _).mono ?_
  rintro e w' ⟨rfl, rfl⟩
  go_wp2
  go_ret
  exact ⟨rfl, HB12.out⟩
end Go.Proofs.Ytchimkkpjdbdpaa
