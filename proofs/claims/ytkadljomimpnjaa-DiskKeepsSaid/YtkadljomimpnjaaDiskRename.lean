/-
  Contract: Rename, whole.
-/
import Derived.Test.YtkadljomimpnjaaDiskRen
namespace Go.Proofs.Ytkadljomimpnjaa
open Go.RowKit Go.Maps Go.Shelf Dsk

theorem found_ne {D : Dk} {l : List Nm} {n : Nm} (h : found D l n ≠ 0) : found D l n = 9 ∨ found D l n = 2 ∨ found D l n = 6 := by
  unfold found wrong at h ⊢
  cases ho : D.off <;> cases hk : (l ++ [n]).all okN <;> cases hg : Dsk.get D.fs n <;> simp [ho, hk, hg] at h ⊢
section
variable {w : World} {d M : Nat} {Dm : DataW Unit} {gb : Nm → Nat} {hb : Nm → Option Nat} {F : List Nat} {D : Dk}
set_option maxHeartbeats 4000000 in
set_option maxRecDepth 20000 in
theorem rename_m (h : DM w d M Dm gb hb F D) (hw : Whole D) (hfu : D.fuse ≤ 9223372036854775807) (n m : Nm) (hl : n.length ≤ 1000) (hlm : m.length ≤ 1000) (hlen : D.fs.length < 1000000) :
    Calls Try.prog 16 #[ptr d, S n, S m] w fun e w' => Did0 w d F (dRename D n m) e w' := by
  obtain ⟨sb, hsb⟩ : ∃ sb, S n = .string sb := ⟨_, rfl⟩
  obtain ⟨sm, hsm⟩ : ∃ sm, S m = .string sm := ⟨_, rfl⟩
  obtain ⟨w3, hw3⟩ : ∃ w3, w3 = ((w.alloc (.cells #[ptr d] 23)).alloc (.cells #[.string sb] 9)).alloc (.cells #[.string sm] 9) := ⟨_, rfl⟩
  obtain ⟨w4, hw4⟩ : ∃ w4, w4 = w3.alloc (.cells #[.string sm] 9) := ⟨_, rfl⟩
  have hs3 : w3.heap.size = w.heap.size + 3 := by rw [hw3]; simp
  have hb3 : Below w.heap.size w w3 := by rw [hw3]; exact (((Below.refl _ w).alloc (Nat.le_refl _) _).alloc (by simp) _).alloc (by simp; omega) _
  have hb4 : Below w.heap.size w w4 := by rw [hw4]; exact hb3.alloc (by omega) _
  have hs4 : w4.heap.size = w.heap.size + 4 := by rw [hw4]; simp; omega
  have k0 : w4.cell? ⟨w.heap.size, 0, none⟩ = some (ptr d) := by
    rw [hw4, hw3]
    exact (((Blk.new w 23 #[ptr d]).alloc _).alloc _).alloc _ |>.cell 0
  have k1 : w4.cell? ⟨w.heap.size + 1, 0, none⟩ = some (.string sb) := by
    rw [hw4, hw3]
    have := ((Blk.new (w.alloc (.cells #[ptr d] 23)) 9 #[.string sb]).alloc (.cells #[.string sm] 9)).alloc (.cells #[.string sm] 9) |>.cell 0
    simpa using this
  have k2 : w4.cell? ⟨w.heap.size + 1 + 1, 0, none⟩ = some (.string sm) := by
    rw [hw4, hw3]
    have := (Blk.new ((w.alloc (.cells #[ptr d] 23)).alloc (.cells #[.string sb] 9)) 9 #[.string sm]).alloc (.cells #[.string sm] 9) |>.cell 0
    simpa using this
  have hown : w4.ownsRow (w.heap.size + 3) 9 1 (.slice (some ⟨w.heap.size + 1 + 1 + 1, 0, none⟩) 1 1) 1 (Ss [m]) := by
    have h1 := own_lit w3 9 [.string sm] (by unfold maxLen; simp)
    rw [← hw4, hs3] at h1
    rw [← hsm] at h1
    exact h1
  have W1 := hid (find_any (h.below hb4) n hl (some ⟨w.heap.size + 1 + 1 + 1, 0, none⟩) 1 1 (w.heap.size + 3) [m] (by simpa using hlm) (by omega) hown (by omega) (fun g hg hm => by
    have := h.lt g hm
    simp at hg
    omega))
  have HD := hid h
  have HW := hid hw
  have HRF := hid (rename_found D n m)
  rw [hsb] at W1 ⊢
  rw [hsm]
  have HSB := hid hsb
  have HSM := hid hsm
  have HW4 := hid hw4
  have HW3 := hid hw3
  have HB4 := hid hb4
  have HS4 := hid hs4
  have HS3 := hid hs3
  clear h hw hsb hsm hw3 hw4 hb3 hb4 hs3 hs4 hown
  have HE := hid (enters_of Try.func44 (by kernel_rfl) rfl)
  go_enter Try.func16, Try.ntmps16
  go_wp2_with fail
  rw [← HW3.out, ← HW4.out]
  refine W1.out.mono ?_
  rintro e w5 ⟨rfl, ht5⟩
  have hsz5 := ht5.size
  have c0 := (ht5.cell (p := ⟨w.heap.size, 0, none⟩) (by have := HS4.out; show w.heap.size < _; omega) (by simp; omega)).trans k0
  have c1 := (ht5.cell (p := ⟨w.heap.size + 1, 0, none⟩) (by have := HS4.out; show w.heap.size + 1 < _; omega) (by simp)).trans k1
  have c2 := (ht5.cell (p := ⟨w.heap.size + 1 + 1, 0, none⟩) (by have := HS4.out; show w.heap.size + 1 + 1 < _; omega) (by simp)).trans k2
  have HB5 := hid (HB4.out.trans (ht5.below (B := w.heap.size) (by have := HS4.out; omega) (by simp; omega)))
  have HS5 : Hid (w.heap.size + 4 ≤ w5.heap.size) := hid (by have := HS4.out; omega)
  clear ht5 k0 k1 k2 hsz5
  by_cases h0 : found D [m] n = 0
  · obtain ⟨_, hr0, hren⟩ := HRF.out.2 h0
    obtain ⟨_, _, f, hf, hfile⟩ := ready_zero hr0
    rw [hfile] at hren
    rw [h0]
    have e1 : fptr (gb n) 0 = ptr (gb n) := rfl
    rw [e1]
    obtain ⟨w6, hw6⟩ : ∃ w6, w6 = w5.alloc (.cells #[ptr (gb n)] 64) := ⟨_, rfl⟩
    have hb6 : Below w.heap.size w w6 := by rw [hw6]; exact HB5.out.alloc HB5.out.size _
    have hs6 : w6.heap.size = w5.heap.size + 1 := by rw [hw6]; simp
    have k6 : w6.cell? ⟨w5.heap.size, 0, none⟩ = some (ptr (gb n)) := by
      rw [hw6]
      exact (Blk.new w5 64 #[ptr (gb n)]).cell 0
    have f0 : w6.cell? ⟨w.heap.size, 0, none⟩ = some (ptr d) := by
      rw [hw6]
      exact (World.cell?_alloc_lt w5 _ ⟨w.heap.size, 0, none⟩ (by have := HS5.out; show w.heap.size < w5.heap.size; omega)).trans c0
    have f1 : w6.cell? ⟨w.heap.size + 1, 0, none⟩ = some (.string sb) := by
      rw [hw6]
      exact (World.cell?_alloc_lt w5 _ ⟨w.heap.size + 1, 0, none⟩ (by have := HS5.out; show w.heap.size + 1 < w5.heap.size; omega)).trans c1
    have f2 : w6.cell? ⟨w.heap.size + 1 + 1, 0, none⟩ = some (.string sm) := by
      rw [hw6]
      exact (World.cell?_alloc_lt w5 _ ⟨w.heap.size + 1 + 1, 0, none⟩ (by have := HS5.out; show w.heap.size + 1 + 1 < w5.heap.size; omega)).trans c2
    have HDX := hid (HD.out.below hb6)
    obtain ⟨A, cap, hblk, _, _⟩ := (HDX.out.at_ n f hf).2
    have cf := hblk.cell 0
    have cs := hblk.cell 1
    simp at cf cs
    have HF := hid hf
    have HREN := hid hren
    have HB6 := hid hb6
    have HS6 := hid hs6
    have HW6 := hid hw6
    obtain ⟨q, hq⟩ : ∃ q, q = f.b.length := ⟨_, rfl⟩
    rw [← hq] at cf
    have HQ := hid hq
    have hdlt : d < w.heap.size := HD.out.lt d HD.out.mem.1
    have hMlt : M < w.heap.size := HD.out.lt M HD.out.mem.2.1
    clear hf hfile hb6 hs6 hw6 hq hren hr0 h0 hblk e1 HRF c0 c1 c2
    by_cases hsy : f.s < q
    · have q1 : decide ((f.s : Int) < (q : Int)) = true := by simpa using hsy
      have hsy' : (f.s : Int) < (q : Int) := by omega
      go_wp2_with fail
      rw [← HW6.out]
      go_quiet (fail)
      go_wp2_with fail
      refine (done_err HD.out HW.out (w1 := w6.drewN _) (below_drewN HB6.out _) hfu 44 _ HE.out 10 (by decide)).mono ?_
      rintro e w7 ⟨y, rfl, hdid⟩
      go_wp2_with fail
      go_ret
      rw [HREN.out, if_pos (by rw [← HQ.out]; exact hsy)]
      exact hdid
    · have q1 : decide ((f.s : Int) < (q : Int)) = false := by simpa using hsy
      have hsy' : ¬ (f.s : Int) < (q : Int) := by omega
      go_wp2_with fail
      rw [← HW6.out]
      go_quiet (fail)
      go_wp2_with fail
      refine (done_any HD.out HW.out (w1 := w6.drewN _) (put (del D.fs n) m f) (below_drewN HB6.out _) hfu 44 #[.pointer (some ⟨w.heap.size, 0, none⟩), .pointer (some ⟨w.heap.size + 1, 0, none⟩), .pointer (some ⟨w.heap.size + 1 + 1, 0, none⟩), .pointer (some ⟨w5.heap.size, 0, none⟩)] HE.out (fun w7 hD7 ht7 hs7 => ?_)).mono ?_
      · have h5 := HS5.out
        have h6 := HS6.out
        have h7 : w7.heap.size = w6.heap.size := hs7
        exact rename1_any hD7 HW.out.rises hlen n m hl hlm HF.out w.heap.size (w.heap.size + 1) (w.heap.size + 1 + 1) w5.heap.size ((ht7.cell (p := ⟨w.heap.size, 0, none⟩) (by show w.heap.size < w6.heap.size; omega) (by simp; omega)).trans f0) (by rw [HSB.out]; exact (ht7.cell (p := ⟨w.heap.size + 1, 0, none⟩) (by show w.heap.size + 1 < w6.heap.size; omega) (by simp; omega)).trans f1)
          (by rw [HSM.out]; exact (ht7.cell (p := ⟨w.heap.size + 1 + 1, 0, none⟩) (by show w.heap.size + 1 + 1 < w6.heap.size; omega) (by simp; omega)).trans f2) ((ht7.cell (p := ⟨w5.heap.size, 0, none⟩) (by show w5.heap.size < w6.heap.size; omega) (by simp; omega)).trans k6) ⟨by omega, by omega, by omega⟩ ⟨by omega, by omega, by omega⟩
      · rintro e w8 ⟨y, rfl, hdid⟩
        go_wp2_with fail
        go_ret
        rw [HREN.out, if_neg (by rw [← HQ.out]; exact hsy)]
        by_cases e : n = m
        · subst e
          rw [put_del HW.out.rises HF.out] at hdid
          rw [if_pos rfl]
          exact hdid
        · rw [if_neg e]
          exact hdid
  · have HREN := hid (HRF.out.1 h0)
    have f0 : (w5.alloc (.cells #[.pointer none] 64)).cell? ⟨w.heap.size, 0, none⟩ = some (ptr d) :=
      (World.cell?_alloc_lt w5 _ ⟨w.heap.size, 0, none⟩ (by have := HS5.out; show w.heap.size < w5.heap.size; omega)).trans c0
    rcases found_ne h0 with hr | hr | hr
    · rw [hr] at HREN ⊢
      have e1 : fptr (gb n) 9 = .pointer none := rfl
      rw [e1]
      clear h0 hr e1 HRF
      go_wp2_with fail
      go_quiet (fail)
      go_wp2_with fail
      refine (done_err HD.out HW.out ?_ hfu 44 _ HE.out 9 (by decide)).mono ?_
      · exact below_drewN (HB5.out.alloc HB5.out.size _) _
      rintro e w7 ⟨y, rfl, hdid⟩
      go_wp2_with fail
      go_ret
      rw [HREN.out]
      exact hdid
    · rw [hr] at HREN ⊢
      have e1 : fptr (gb n) 2 = .pointer none := rfl
      rw [e1]
      clear h0 hr e1 HRF
      go_wp2_with fail
      go_quiet (fail)
      go_wp2_with fail
      refine (done_err HD.out HW.out ?_ hfu 44 _ HE.out 2 (by decide)).mono ?_
      · exact below_drewN (HB5.out.alloc HB5.out.size _) _
      rintro e w7 ⟨y, rfl, hdid⟩
      go_wp2_with fail
      go_ret
      rw [HREN.out]
      exact hdid
    · rw [hr] at HREN ⊢
      have e1 : fptr (gb n) 6 = .pointer none := rfl
      rw [e1]
      clear h0 hr e1 HRF
      go_wp2_with fail
      go_quiet (fail)
      go_wp2_with fail
      refine (done_err HD.out HW.out ?_ hfu 44 _ HE.out 6 (by decide)).mono ?_
      · exact below_drewN (HB5.out.alloc HB5.out.size _) _
      rintro e w7 ⟨y, rfl, hdid⟩
      go_wp2_with fail
      go_ret
      rw [HREN.out]
      exact hdid
end
end Go.Proofs.Ytkadljomimpnjaa
