/-
  Contracts: maps.EqualFunc over two disks' files; Same.
-/
import Derived.Test.YtkadljomimpnjaaDiskSame
import Derived.Test.YtkadljomimpnjaaSameMath
namespace Go.Proofs.Ytkadljomimpnjaa
open Go.RowKit Go.Maps Go.Shelf Dsk

section
variable {w : World} {d M : Nat} {Dm : DataW Unit} {gb : Nm → Nat} {hb : Nm → Option Nat} {F : List Nat} {D : Dk}
variable {c M2 : Nat} {Dm2 : DataW Unit} {gb2 : Nm → Nat} {hb2 : Nm → Option Nat} {F2 : List Nat} {E : Dk}
set_option maxHeartbeats 4000000 in
set_option maxRecDepth 20000 in
theorem equalfunc_m (h : DM w d M Dm gb hb F D) (h2 : DM w c M2 Dm2 gb2 hb2 F2 E) (hw : Whole D) (hw2 : Whole E) :
    Calls Try.prog 53 #[.map (some M), .map (some M2), .func (.func 54) #[] #[]] w fun e w' => e = .returned (.bool (decide (D.fs = E.fs))) ∧ Below w.heap.size w w' := by
  have l1 := h.map.len (t := 59) (e := 64) Try.underlying59 3
  have l2 := h2.map.len (t := 59) (e := 64) Try.underlying59 3
  rw [size_files h.map h.has hw.rises] at l1
  rw [size_files h2.map h2.has hw2.rises] at l2
  have HD := hid h
  have HE := hid h2
  have HW := hid hw
  have HW2 := hid hw2
  have hown := h.map
  clear h h2 hw hw2
  by_cases hl : D.fs.length = E.fs.length
  · have hne : ((D.fs.length : Int) != (E.fs.length : Int)) = false := by simp [hl]
    have HLL := hid hl
    clear hl
    go_enter Try.func53, Try.ntmps53
    go_wp2_with (first | (at_range; refine wpList_range_own _ rfl _ 59 rfl 9 64 keyedS Try.underlying59 _ M D.fs.length _ rfl hown ?_; intro w0 hrg0 hg0 hs0) | go_in)
    have hb0 : Below w.heap.size w w0 := below_of_only hg0 (Nat.le_refl _) (fun g hg => by cases hg)
    go_frame
    go_loopw [7, 8, 9, 10] (fun _ _ _ _ wr => ∃ (left : Lit → Bool) (cnt : Nat), wr.ranges Try.prog 9 ptrElem M w.heap.size D.fs.length Dm left cnt ∧ Below w.heap.size w wr ∧ (∀ kl, left kl = true → Maps.has Dm kl = true) ∧ ∀ n f, get D.fs n = some f → left (.string n) = false → get E.fs n = some f) (fun _ _ _ _ wr => wr.rangeLeft M w.heap.size)
    case atStart =>
      refine ⟨_, _, hrg0, hb0, fun _ h => h, fun n f hn hl => ?_⟩
      rw [HD.out.has, hn] at hl
      cases hl
    case round =>
      obtain ⟨left, cnt, hrg, hbl, hlh, hall⟩ := hrel
      have HL := hid hlh
      have HB := hid hbl
      have HA := hid hall
      clear hlh hbl hall
      go_wp2_with (first | (at_next; refine wpList_next_ranges _ rfl _ rfl 9 keyedS ptrElem S mkP inv_key inv_ptr M w.heap.size D.fs.length Dm left cnt rfl hrg ?_ ?_) | go_in)
      · intro _ hl0
        go_wp2
        go_ret
        have e := fs_eq HW.out.rises HW2.out.rises HLL.out (fun n f hn => HA.out n f hn (hl0 _))
        exact ⟨by rw [decide_eq_true e]; rfl, HB.out⟩
      · intro n c1 kl y1 y2 w2 cnt2 hkey hlk hy hat hrg2 hlt hg2 hs2 hen
        have HD2 := HD.out.below HB.out
        obtain ⟨hkl, f, hf, hcp⟩ := came HD2 hkey (HL.out kl hlk) hy hat
        subst hkl
        rw [hcp] at hen ⊢
        have hb2 : Below w.heap.size w w2 := HB.out.grown hg2 (by have := HB.out.size; omega) (fun g hg => by injection hg with hg; omega)
        have hnl : n.length ≤ 1000 := by
          have h1 := HW.out.names _ (get_mem hf)
          simp [okN] at h1
          omega
        have hlook := (HE.out.below hb2).look n hnl true
        simp only [if_true] at hlook
        have HF1 := hid ((HD.out.below hb2).at_ n f hf).2
        have HRG := hid hrg2
        have HEQ : Hid (w2.rangeLeft M w.heap.size < wr.rangeLeft M w.heap.size) := hid (by rw [hrg2.left_eq, hrg.left_eq]; omega)
        have HFN := hid hf
        have HBB := hid hb2
        obtain ⟨sb, hsb⟩ : ∃ sb, S n = .string sb := ⟨_, rfl⟩
        rw [hsb] at hen hlook ⊢
        clear hrg2 hrg hat hy hkey hb2 hg2 hs2 hf
        cases hg : get E.fs n with
        | none =>
          have hlk2 := hlook.2 hg
          have hF : decide (D.fs = E.fs) = false := decide_eq_false fun e => by have h1 := HFN.out; rw [e, hg] at h1; cases h1
          have HF := hid hF
          clear hF hlook
          go_wp2_with fail
          go_ret
          exact ⟨by rw [HF.out]; rfl, HBB.out⟩
        | some f2 =>
          have hlk2 := hlook.1 f2 hg
          have W1 := hid (alike_any HF1.out ((HE.out.below HBB.out).at_ n f2 hg).2)
          have HG := hid hg
          clear hlook hg
          go_wp2_with fail
          refine W1.out.mono ?_
          rintro e w3 ⟨rfl, k, rfl⟩
          have hb3 : Below w.heap.size w (w2.drewN k) := below_drewN HBB.out k
          by_cases hff : f = f2
          · have hd : decide (f = f2) = true := decide_eq_true hff
            have HFF := hid hff
            clear hff
            go_wp2_with fail
            go_roundw
            case rel =>
              refine ⟨_, _, ranges_touch HRG.out (touch_below (below_drewN (Below.refl _ w2) k) []) (by simp) (by simp), hb3, fun kl h => HL.out kl (by simp at h; exact h.1), fun m fm hm hlm => ?_⟩
              rw [same_key] at hlm
              by_cases em : m = n
              · subst em
                rw [HFN.out] at hm
                injection hm with hm
                rw [← hm, HFF.out, HG.out]
              · simp [em] at hlm
                exact HA.out m fm hm hlm
            case measure => exact HEQ.out
          · have hd : decide (f = f2) = false := decide_eq_false hff
            have hF : decide (D.fs = E.fs) = false := decide_eq_false fun e => hff (by have h1 := HFN.out; rw [e, HG.out] at h1; injection h1 with h1; exact h1.symm)
            have HF := hid hF
            clear hF hff
            go_wp2_with fail
            go_ret
            exact ⟨by rw [HF.out]; rfl, hb3⟩
  · have hne : ((D.fs.length : Int) != (E.fs.length : Int)) = true := by simp; omega
    have HF : Hid (decide (D.fs = E.fs) = false) := hid (decide_eq_false fun e => hl (by rw [e]))
    clear hl hown
    go_enter Try.func53, Try.ntmps53
    go_wp2_with fail
    go_ret
    exact ⟨by rw [HF.out]; rfl, Below.refl _ _⟩
theorem dk_dec (D E : Dk) : decide (D = E) = (decide (D.size = E.size) && (decide (D.fuse = E.fuse) && (decide (D.off = E.off) && decide (D.fs = E.fs)))) := by
  obtain ⟨s, fs, fu, o⟩ := D
  obtain ⟨s', fs', fu', o'⟩ := E
  by_cases h1 : s = s' <;> by_cases h2 : fu = fu' <;> by_cases h3 : o = o' <;> by_cases h4 : fs = fs' <;> simp [h1, h2, h3, h4]
set_option maxHeartbeats 4000000 in
set_option maxRecDepth 20000 in
theorem same_m (h : DM w d M Dm gb hb F D) (h2 : DM w c M2 Dm2 gb2 hb2 F2 E) (hw : Whole D) (hw2 : Whole E) :
    Calls Try.prog 28 #[ptr d, ptr c] w fun e w' => e = .returned (.bool (decide (D = E))) ∧ Below w.heap.size w w' := by
  have U1 := hid (unmade_any h)
  have U2 := hid (unmade_any h2)
  have W3 : Hid (∀ W, Below w.heap.size w W → Calls Try.prog 53 #[.map (some M), .map (some M2), .func (.func 54) #[] #[]] W fun e w' => e = .returned (.bool (decide (D.fs = E.fs))) ∧ Below W.heap.size W w') := hid fun W hW => equalfunc_m (h.below hW) (h2.below hW) hw hw2
  have a0 := h.blk.cell 0
  have a1 := h.blk.cell 1
  have a2 := h.blk.cell 2
  have a3 := h.blk.cell 3
  have b0 := h2.blk.cell 0
  have b1 := h2.blk.cell 1
  have b2 := h2.blk.cell 2
  have b3 := h2.blk.cell 3
  have hdl := h.blk.lt
  have hcl := h2.blk.lt
  simp at a0 a1 a2 a3 b0 b1 b2 b3
  rw [dk_dec]
  clear h h2 hw hw2
  obtain ⟨q, hq⟩ : ∃ q, q = decide (D.fs = E.fs) := ⟨_, rfl⟩
  rw [← hq] at W3 ⊢
  clear hq
  generalize D.size = s at *
  generalize D.fuse = u at *
  generalize D.off = o at *
  generalize E.size = s' at *
  generalize E.fuse = u' at *
  generalize E.off = o' at *
  have hbd : Below w.heap.size w w.drew := ⟨rfl, rfl, rfl, Nat.le_refl _, fun _ _ => rfl⟩
  by_cases h1 : s = s'
  · have e1 : (s == s') = true := by simp [h1]
    rw [decide_eq_true h1]
    clear h1
    by_cases h2 : u = u'
    · have e2 : (u == u') = true := by simp [h2]
      rw [decide_eq_true h2]
      clear h2
      by_cases h3 : o = o'
      · have e3 : (o == o') = true := by simp [h3]
        rw [decide_eq_true h3]
        clear h3
        go_enter Try.func28, Try.ntmps28
        go_wp2_with fail
        refine U1.out.mono ?_
        rintro e w1 ⟨rfl, rfl⟩
        go_wp2_with fail
        refine U2.out.mono ?_
        rintro e w1 ⟨rfl, rfl⟩
        go_wp2_with fail
        go_region_held3 (fun W => W.cell? ⟨d, 0, none⟩ = some (.map (some M)) ∧ W.cell? ⟨d, 1, none⟩ = some (.int .i64 s) ∧ W.cell? ⟨d, 2, none⟩ = some (.int .i64 u) ∧ W.cell? ⟨d, 3, none⟩ = some (.bool o) ∧ W.cell? ⟨c, 0, none⟩ = some (.map (some M2)) ∧ W.cell? ⟨c, 1, none⟩ = some (.int .i64 s') ∧ W.cell? ⟨c, 2, none⟩ = some (.int .i64 u') ∧ W.cell? ⟨c, 3, none⟩ = some (.bool o'))
          (first | exact ⟨a0, a1, a2, a3, b0, b1, b2, b3⟩ | exact ⟨(hb2.cell hdl).trans a0, (hb2.cell hdl).trans a1, (hb2.cell hdl).trans a2, (hb2.cell hdl).trans a3, (hb2.cell hcl).trans b0, (hb2.cell hcl).trans b1, (hb2.cell hcl).trans b2, (hb2.cell hcl).trans b3⟩)
          (first | (go_at_call 53; refine (W3.out _ hbd).mono ?_; rintro e w2 ⟨rfl, hb2⟩))
        go_wp2
        go_ret
        exact ⟨rfl, below_undrew hb2⟩
      · have e3 : (o == o') = false := by simpa using h3
        rw [decide_eq_false h3]
        clear h3
        go_enter Try.func28, Try.ntmps28
        go_wp2_with fail
        refine U1.out.mono ?_
        rintro e w1 ⟨rfl, rfl⟩
        go_wp2_with fail
        refine U2.out.mono ?_
        rintro e w1 ⟨rfl, rfl⟩
        go_wp2_with fail
        go_quiet (fail)
        go_wp2
        go_ret
        exact ⟨rfl, below_drewN (Below.refl _ _) _⟩
    · have e2 : (u == u') = false := by simpa using h2
      rw [decide_eq_false h2]
      clear h2
      go_enter Try.func28, Try.ntmps28
      go_wp2_with fail
      refine U1.out.mono ?_
      rintro e w1 ⟨rfl, rfl⟩
      go_wp2_with fail
      refine U2.out.mono ?_
      rintro e w1 ⟨rfl, rfl⟩
      go_wp2_with fail
      go_quiet (fail)
      go_wp2
      go_ret
      exact ⟨rfl, below_drewN (Below.refl _ _) _⟩
  · have e1 : (s == s') = false := by simpa using h1
    rw [decide_eq_false h1]
    clear h1
    go_enter Try.func28, Try.ntmps28
    go_wp2_with fail
    refine U1.out.mono ?_
    rintro e w1 ⟨rfl, rfl⟩
    go_wp2_with fail
    refine U2.out.mono ?_
    rintro e w1 ⟨rfl, rfl⟩
    go_wp2_with fail
    go_quiet (fail)
    go_wp2
    go_ret
    exact ⟨rfl, below_drewN (Below.refl _ _) _⟩
end
end Go.Proofs.Ytkadljomimpnjaa
