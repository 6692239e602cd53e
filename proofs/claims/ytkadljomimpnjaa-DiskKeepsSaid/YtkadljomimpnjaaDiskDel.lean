/-
  Contracts: Delete, and what any operation comes to.
-/
import Derived.Test.YtkadljomimpnjaaDiskSync
namespace Go.Proofs.Ytkadljomimpnjaa
open Go.RowKit Go.Maps Go.Shelf Dsk

section
variable {w : World} {d M : Nat} {Dm : DataW Unit} {gb : Nm → Nat} {hb : Nm → Option Nat} {F : List Nat} {D : Dk}
theorem done_any {w1 : World} (HD : DM w d M Dm gb hb F D) (hw : Whole D) (fs' : Fs) (hb1 : Below w.heap.size w w1) (hfu : D.fuse ≤ 9223372036854775807) (fn : Nat) (cap : Array Value) (hent : ∀ args W, (callFunc fn args).run Try.prog W = .ok (.enter fn args) W)
    (hdo : ∀ w2, DM w2 d M Dm gb hb F { D with fuse := burnt D.fuse } → Touch w1 w2 [d] → w2.heap.size = w1.heap.size → Calls Try.prog fn cap w2 fun e w' => e = .returned (.tuple #[]) ∧ ∃ F', DAt w' d F' { D with fuse := burnt D.fuse, fs := fs' } ∧ Touch w2 w' F ∧ ∀ y ∈ F', y ∈ F ∨ w2.heap.size ≤ y) :
    Calls Try.prog 35 #[ptr d, .int .i64 0, .func (.func fn) #[] cap] w1 fun x w' => ∃ y, x = .returned (.int .i64 y) ∧ Did0 w d F (burn D fs') (.returned (.int .i64 y)) w' := by
  refine operate_any (HD.below hb1) ⟨hw.fuse, hfu⟩ 0 fn cap hent _ (fun e => absurd rfl e) (fun _ hz w2 hD2 ht2 _ => ?_) (fun _ hz w2 hD2 ht2 hs2 => ?_)
  · rw [burn_zero _ hz]
    exact ⟨rfl, F, ⟨_, _, _, _, hD2⟩, (touch_below hb1 F).then ht2 (fun i _ hi => by rw [List.mem_singleton.1 hi]; exact HD.mem.1), fun _ h => .inl h⟩
  · refine (hdo w2 hD2 ht2 hs2).mono ?_
    rintro e w3 ⟨rfl, F', h1, h2, h3⟩
    refine ⟨rfl, ?_⟩
    rw [burn_do _ hz]
    refine ⟨rfl, F', h1, ((touch_below hb1 F).then ht2 (fun i _ hi => by rw [List.mem_singleton.1 hi]; exact HD.mem.1)).then h2 (fun _ _ h => h), fun y hy => ?_⟩
    rcases h3 y hy with hy | hy
    · exact .inl hy
    · exact .inr (by have := hb1.size; omega)
set_option maxHeartbeats 2000000 in
theorem delete1_any (h : DM w d M Dm gb hb F D) (hr : Rises D.fs) (n : Nm) (hl : n.length ≤ 1000) (bd bs : Nat) (hbd : w.cell? ⟨bd, 0, none⟩ = some (ptr d)) (hbs : w.cell? ⟨bs, 0, none⟩ = some (S n)) :
    Calls Try.prog 55 #[.pointer (some ⟨bd, 0, none⟩), .pointer (some ⟨bs, 0, none⟩)] w fun e w' => e = .returned (.tuple #[]) ∧ DM w' d M (Dm.del (.string n)) gb hb F { D with fs := del D.fs n } ∧ Touch w w' [M] := by
  have hc := h.blk.cell 0
  simp at hc
  have hD := h.touch (touch_drew w []) (by simp)
  obtain ⟨sb, hsb⟩ : ∃ sb, S n = .string sb := ⟨_, rfl⟩
  have hkey := keyS n hl
  rw [hsb] at hbs hkey
  obtain ⟨w2, hrun, hmap, hturn⟩ := hD.map.drop keyedS Try.underlying59 hkey 0
  have HD := hid hD
  have HM := hid hmap
  have HT := hid hturn
  clear h hD hmap hturn hkey hsb
  go_enter Try.func55, Try.ntmps55
  go_wp2
  go_region
  go_end0
  have ht2 : Touch w.drew w2 [M] := touch_grown HT.out.grown (by simp)
  exact ⟨rfl, HD.out.drop hr n (fun _ => HM.out) ht2, (touch_drew w [M]).then ht2 (fun _ _ h => h)⟩
set_option maxHeartbeats 2000000 in
set_option maxRecDepth 20000 in
theorem delete_m (h : DM w d M Dm gb hb F D) (hw : Whole D) (hfu : D.fuse ≤ 9223372036854775807) (n : Nm) (hl : n.length ≤ 1000) :
    Calls Try.prog 32 #[ptr d, S n] w fun e w' => Did0 w d F (dDelete D n) e w' := by
  obtain ⟨sb, hsb⟩ : ∃ sb, S n = .string sb := ⟨_, rfl⟩
  obtain ⟨w2, hw2⟩ : ∃ w2, w2 = (w.alloc (.cells #[ptr d] 23)).alloc (.cells #[.string sb] 9) := ⟨_, rfl⟩
  have hb2 : Below w.heap.size w w2 := by rw [hw2]; exact ((Below.refl _ w).alloc (Nat.le_refl _) _).alloc (by simp) _
  have hs2 : w2.heap.size = w.heap.size + 2 := by rw [hw2]; simp
  have k0 : w2.cell? ⟨w.heap.size, 0, none⟩ = some (ptr d) := by
    rw [hw2]
    exact (Blk.new w 23 #[ptr d]).alloc _ |>.cell 0
  have k1 : w2.cell? ⟨w.heap.size + 1, 0, none⟩ = some (.string sb) := by
    rw [hw2]
    simp
  have W1 := hid (find_nil (h.below hb2) n hl)
  have HD := hid h
  have HW := hid hw
  rw [hsb] at W1 ⊢
  have HSB := hid hsb
  have HW2 := hid hw2
  have HB2 := hid hb2
  have HS2 := hid hs2
  clear h hw hsb hw2 hb2 hs2
  have HE := hid (enters_of Try.func55 (by kernel_rfl) rfl)
  go_enter Try.func32, Try.ntmps32
  go_wp2_with fail
  rw [← HW2.out]
  refine W1.out.mono ?_
  rintro e w3 ⟨rfl, hb3⟩
  have c0 := (hb3.cell (p := ⟨w.heap.size, 0, none⟩) (by have := HS2.out; show w.heap.size < _; omega)).trans k0
  have c1 := (hb3.cell (p := ⟨w.heap.size + 1, 0, none⟩) (by have := HS2.out; show w.heap.size + 1 < _; omega)).trans k1
  have HB3 := hid (HB2.out.trans (hb3.mono (by have := HS2.out; omega)))
  have HS3 : Hid (w.heap.size + 2 ≤ w3.heap.size) := hid (by have := HS2.out; have := hb3.size; omega)
  clear hb3 k0 k1
  by_cases h0 : ready D n = 0
  · rw [h0]
    have HR0 := hid h0
    clear h0
    have e1 : fptr (gb n) 0 = ptr (gb n) := rfl
    rw [e1]
    go_wp2_with fail
    have hdlt : d < w.heap.size := HD.out.lt d HD.out.mem.1
    refine (done_any HD.out HW.out (del D.fs n) HB3.out hfu 55 #[.pointer (some ⟨w.heap.size, 0, none⟩), .pointer (some ⟨w.heap.size + 1, 0, none⟩)] HE.out (fun w4 hD4 ht4 _ => ?_)).mono ?_
    · refine (delete1_any hD4 HW.out.rises n hl w.heap.size (w.heap.size + 1) ((ht4.cell (p := ⟨w.heap.size, 0, none⟩) (by have := HS3.out; show w.heap.size < _; omega) (by simp; omega)).trans c0) (by rw [HSB.out]; exact (ht4.cell (p := ⟨w.heap.size + 1, 0, none⟩) (by have := HS3.out; show w.heap.size + 1 < _; omega) (by simp; omega)).trans c1)).mono ?_
      rintro e w5 ⟨rfl, hD5, ht5⟩
      exact ⟨rfl, F, ⟨_, _, _, _, hD5⟩, ht5.mono (fun i _ hi => by rw [List.mem_singleton.1 hi]; exact HD.out.mem.2.1), fun _ h => .inl h⟩
    · rintro e w5 ⟨y, rfl, hdid⟩
      go_wp2_with fail
      go_ret
      unfold dDelete
      rw [if_neg (by simp [HR0.out])]
      exact hdid
  · rcases ready_ne h0 with hr | hr | hr
    · rw [hr]
      have e1 : fptr (gb n) 9 = .pointer none := rfl
      rw [e1]
      have HR := hid hr
      clear h0 hr e1
      go_wp2_with fail
      refine (done_err HD.out HW.out HB3.out hfu 55 _ HE.out 9 (by decide)).mono ?_
      rintro e w4 ⟨y, rfl, hdid⟩
      go_wp2_with fail
      go_ret
      unfold dDelete
      rw [if_pos (by rw [HR.out]; decide), HR.out]
      exact hdid
    · rw [hr]
      have e1 : fptr (gb n) 2 = .pointer none := rfl
      rw [e1]
      have HR := hid hr
      clear h0 hr e1
      go_wp2_with fail
      refine (done_err HD.out HW.out HB3.out hfu 55 _ HE.out 2 (by decide)).mono ?_
      rintro e w4 ⟨y, rfl, hdid⟩
      go_wp2_with fail
      go_ret
      unfold dDelete
      rw [if_pos (by rw [HR.out]; decide), HR.out]
      exact hdid
    · rw [hr]
      have e1 : fptr (gb n) 6 = .pointer none := rfl
      rw [e1]
      have HR := hid hr
      clear h0 hr e1
      go_wp2_with fail
      refine (done_err HD.out HW.out HB3.out hfu 55 _ HE.out 6 (by decide)).mono ?_
      rintro e w4 ⟨y, rfl, hdid⟩
      go_wp2_with fail
      go_ret
      unfold dDelete
      rw [if_pos (by rw [HR.out]; decide), HR.out]
      exact hdid
end
end Go.Proofs.Ytkadljomimpnjaa
