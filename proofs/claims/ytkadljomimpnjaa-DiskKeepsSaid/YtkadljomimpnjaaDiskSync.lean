/-
  Contracts: Sync and Delete.
-/
import Derived.Test.YtkadljomimpnjaaDiskOps
namespace Go.Proofs.Ytkadljomimpnjaa
open Go.RowKit Go.Maps Go.Shelf Dsk

theorem touch_new {w w' : World} (h : Touch w w' []) : Below w.heap.size w w' := h.below (Nat.le_refl _) (by simp)
section
variable {w : World} {d M : Nat} {Dm : DataW Unit} {gb : Nm → Nat} {hb : Nm → Option Nat} {F : List Nat} {D : Dk}
theorem find_nil (h : DM w d M Dm gb hb F D) (n : Nm) (hl : n.length ≤ 1000) :
    Calls Try.prog 38 #[ptr d, S n, .slice none 0 0] w fun e w' => e = .returned (.tuple #[fptr (gb n) (ready D n), .int .i64 (ready D n)]) ∧ Below w.heap.size w w' := by
  refine (find_any h n hl none 0 0 w.heap.size [] (by simp) (by omega) (World.ownsRow_nil _ _ _ _) (Nat.le_refl _) (by simp)).mono ?_
  rintro e w' ⟨rfl, ht⟩
  rw [found_ready]
  exact ⟨rfl, touch_new (by simpa using ht)⟩
theorem sync1_any {g bx : Nat} {x : Option Nat} {f : Fil} (hf : FileAt w g x f) (hbx : w.cell? ⟨bx, 0, none⟩ = some (ptr g)) :
    Calls Try.prog 39 #[.pointer (some ⟨bx, 0, none⟩)] w fun e w' => e = .returned (.tuple #[]) ∧ FileAt w' g x ⟨f.b, f.b.length⟩ ∧ Touch w w' [g] := by
  have HF := hid hf
  obtain ⟨A, cap, hblk, hown, hx⟩ := hf
  have c0 := hblk.cell 0
  have c1 := hblk.cell 1
  simp at c0 c1
  have hfz := hblk.frozen 1
  have HB := hid hblk
  have HO := hid hown
  have HX := hid hx
  clear hblk hown hx
  obtain ⟨m, hm⟩ : ∃ m, m = f.b.length := ⟨_, rfl⟩
  rw [← hm] at c0
  have HM := hid hm
  clear hm
  go_enter Try.func39, Try.ntmps39
  go_wp2
  go_region
  go_end0
  have hts : Touch w (w.drew.setCell ⟨g, 1, none⟩ (.int .i64 (m : Int))) [g] := (touch_drew w [g]).then (touch_grown (only_set (World.grownBy.refl _ _) 1 _) (by simp)) (fun _ _ h => h)
  refine ⟨rfl, ⟨A, cap, ?_, own_touch HO.out hts ?_, HX.out⟩, hts⟩
  · have h1 := HB.out.set 1 (.int .i64 (m : Int))
    simp at h1
    rw [HM.out] at h1 ⊢
    exact h1
  · intro y hy e
    obtain ⟨cur, hc⟩ := own_lt HO.out hy
    rw [List.mem_singleton.1 e] at hc
    exact ne_of_type HB.out hc (by decide) rfl
theorem ready_ne {D : Dk} {n : Nm} (h : ready D n ≠ 0) : ready D n = 9 ∨ ready D n = 2 ∨ ready D n = 6 := by
  unfold ready at h ⊢
  split
  · exact .inl rfl
  · split
    · exact .inr (.inl rfl)
    · split
      · exact .inr (.inr rfl)
      · rename_i h1 h2 h3
        rw [if_neg h1, if_neg h2, if_neg h3] at h
        exact absurd rfl h
/-- What an operation on one file that is there comes to. -/
theorem done_file {w1 : World} (HD : DM w d M Dm gb hb F D) (hw : Whole D) (n : Nm) {f f' : Fil} (hn : get D.fs n = some f) (hb1 : Below w.heap.size w w1) (hfu : D.fuse ≤ 9223372036854775807) (fn : Nat) (cap : Array Value) (hent : ∀ args W, (callFunc fn args).run Try.prog W = .ok (.enter fn args) W)
    (hdo : ∀ w2, DM w2 d M Dm gb hb F { D with fuse := burnt D.fuse } → Touch w1 w2 [d] → w2.heap.size = w1.heap.size → Calls Try.prog fn cap w2 fun e w' => e = .returned (.tuple #[]) ∧ ∃ x', FileAt w' (gb n) x' f' ∧ Touch w2 w' (gb n :: (hb n).toList) ∧ ∀ x, x' = some x → hb n = some x ∨ w2.heap.size ≤ x) :
    Calls Try.prog 35 #[ptr d, .int .i64 0, .func (.func fn) #[] cap] w1 fun x w' => ∃ y, x = .returned (.int .i64 y) ∧ Did0 w d F (burn D (put D.fs n f')) (.returned (.int .i64 y)) w' := by
  refine operate_any (HD.below hb1) ⟨hw.fuse, hfu⟩ 0 fn cap hent _ (fun e => absurd rfl e) (fun _ hz w2 hD2 ht2 _ => ?_) (fun _ hz w2 hD2 ht2 hs2 => ?_)
  · rw [burn_zero _ hz]
    exact ⟨rfl, F, ⟨_, _, _, _, hD2⟩, (touch_below hb1 F).then ht2 (fun i _ hi => by rw [List.mem_singleton.1 hi]; exact HD.mem.1), fun _ h => .inl h⟩
  · refine (hdo w2 hD2 ht2 hs2).mono ?_
    rintro e w3 ⟨rfl, x', hfx, htx, hxx⟩
    refine ⟨rfl, ?_⟩
    rw [burn_do _ hz]
    obtain ⟨F', h1, h2, h3⟩ := hD2.wrote hw.rises (f' := f') hn htx hfx hxx
    refine ⟨rfl, F', h1, ((touch_below hb1 F).then ht2 (fun i _ hi => by rw [List.mem_singleton.1 hi]; exact HD.mem.1)).then h2 (fun _ _ h => h), fun y hy => ?_⟩
    rcases h3 y hy with hy | hy
    · exact .inl hy
    · exact .inr (by have := hb1.size; omega)
/-- .. that has an error. -/
theorem done_err {w1 : World} (HD : DM w d M Dm gb hb F D) (hw : Whole D) (hb1 : Below w.heap.size w w1) (hfu : D.fuse ≤ 9223372036854775807) (fn : Nat) (cap : Array Value) (hent : ∀ args W, (callFunc fn args).run Try.prog W = .ok (.enter fn args) W) (r : Int) (hr : r ≠ 0) :
    Calls Try.prog 35 #[ptr d, .int .i64 r, .func (.func fn) #[] cap] w1 fun x w' => ∃ y, x = .returned (.int .i64 y) ∧ Did0 w d F (r, D) (.returned (.int .i64 y)) w' := by
  refine operate_any (HD.below hb1) ⟨hw.fuse, hfu⟩ r fn cap hent _ (fun _ => ?_) (fun e => absurd e hr) (fun e => absurd e hr)
  exact ⟨rfl, F, ⟨_, _, _, _, HD.below hb1⟩, touch_below hb1 _, fun _ h => .inl h⟩
set_option maxHeartbeats 2000000 in
set_option maxRecDepth 20000 in
theorem sync_m (h : DM w d M Dm gb hb F D) (hw : Whole D) (hfu : D.fuse ≤ 9223372036854775807) (n : Nm) (hl : n.length ≤ 1000) :
    Calls Try.prog 12 #[ptr d, S n] w fun e w' => Did0 w d F (dSync D n) e w' := by
  have W1 := hid (find_nil h n hl)
  have HD := hid h
  have HW := hid hw
  clear h hw
  generalize hs : S n = s at *
  clear hs
  have hent := enters_of Try.func39 (by kernel_rfl) rfl
  have HE := hid hent
  clear hent
  go_enter Try.func12, Try.ntmps12
  go_wp2_with fail
  refine W1.out.mono ?_
  rintro e w1 ⟨rfl, hb1⟩
  have HB1 := hid hb1
  clear hb1
  by_cases h0 : ready D n = 0
  · obtain ⟨_, _, f, hf, hfile⟩ := ready_zero h0
    obtain ⟨w2, hw2⟩ : ∃ w2, w2 = w1.alloc (.cells #[ptr (gb n)] 64) := ⟨_, rfl⟩
    have hb2 : Below w.heap.size w w2 := by
      rw [hw2]
      exact HB1.out.alloc HB1.out.size _
    rw [h0]
    have e1 : fptr (gb n) 0 = ptr (gb n) := rfl
    rw [e1]
    have HF := hid hf
    have HFI := hid hfile
    have HB2 := hid hb2
    have HW2 := hid hw2
    have hbx : w2.cell? ⟨w1.heap.size, 0, none⟩ = some (ptr (gb n)) := by
      rw [hw2]
      exact (Blk.new w1 64 #[ptr (gb n)]).cell 0
    have hs2 : w2.heap.size = w1.heap.size + 1 := by rw [hw2]; simp
    have HBX := hid hbx
    have HS2 := hid hs2
    have HR0 := hid h0
    clear hf hfile hb2 hw2 hbx hs2 h0
    go_wp2_with fail
    rw [← HW2.out]
    have hdlt : d < w.heap.size := HD.out.lt d HD.out.mem.1
    refine (done_file HD.out HW.out n HF.out (f' := ⟨f.b, f.b.length⟩) HB2.out hfu 39 #[.pointer (some ⟨w1.heap.size, 0, none⟩)] HE.out (fun w3 hD3 ht3 hs3 => ?_)).mono ?_
    · refine (sync1_any (hD3.at_ n f HF.out).2 ((ht3.cell (p := ⟨w1.heap.size, 0, none⟩) (by have := HS2.out; show w1.heap.size < _; omega) (by simp; have := HB1.out.size; omega)).trans HBX.out)).mono ?_
      rintro e w4 ⟨rfl, hf4, ht4⟩
      exact ⟨rfl, hb n, hf4, ht4.mono (fun i _ hi => by simp at hi; simp [hi]), fun x hx => .inl hx⟩
    · rintro e w4 ⟨y, rfl, hdid⟩
      go_wp2_with fail
      go_ret
      unfold dSync
      rw [if_neg (by simp [HR0.out]), HFI.out]
      exact hdid
  · rcases ready_ne h0 with hr | hr | hr
    · rw [hr]
      have e1 : fptr (gb n) 9 = .pointer none := rfl
      rw [e1]
      have HR := hid hr
      clear h0 hr e1
      go_wp2_with fail
      refine (done_err HD.out HW.out (w1 := _) ?_ hfu 39 _ HE.out 9 (by decide)).mono ?_
      · exact HB1.out.alloc HB1.out.size _
      rintro e w3 ⟨y, rfl, hdid⟩
      go_wp2_with fail
      go_ret
      unfold dSync
      rw [if_pos (by rw [HR.out]; decide), HR.out]
      exact hdid
    · rw [hr]
      have e1 : fptr (gb n) 2 = .pointer none := rfl
      rw [e1]
      have HR := hid hr
      clear h0 hr e1
      go_wp2_with fail
      refine (done_err HD.out HW.out (w1 := _) ?_ hfu 39 _ HE.out 2 (by decide)).mono ?_
      · exact HB1.out.alloc HB1.out.size _
      rintro e w3 ⟨y, rfl, hdid⟩
      go_wp2_with fail
      go_ret
      unfold dSync
      rw [if_pos (by rw [HR.out]; decide), HR.out]
      exact hdid
    · rw [hr]
      have e1 : fptr (gb n) 6 = .pointer none := rfl
      rw [e1]
      have HR := hid hr
      clear h0 hr e1
      go_wp2_with fail
      refine (done_err HD.out HW.out (w1 := _) ?_ hfu 39 _ HE.out 6 (by decide)).mono ?_
      · exact HB1.out.alloc HB1.out.size _
      rintro e w3 ⟨y, rfl, hdid⟩
      go_wp2_with fail
      go_ret
      unfold dSync
      rw [if_pos (by rw [HR.out]; decide), HR.out]
      exact hdid
end
end Go.Proofs.Ytkadljomimpnjaa
