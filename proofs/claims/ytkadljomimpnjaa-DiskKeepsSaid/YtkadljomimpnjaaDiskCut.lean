/-
  Contracts: what stays of a file; Cut; Read.
-/
import Derived.Test.YtkadljomimpnjaaDiskDel
namespace Go.Proofs.Ytkadljomimpnjaa
open Go.RowKit Go.Maps Go.Shelf Dsk

/-- The first bytes of a row of one's own. -/
theorem own_take {w : World} {base : Nat} {e : TypeId} {A : Option Addr} {cap n k : Nat} {xs : List Value} (h : w.ownsRow base e 1 (.slice A n cap) n xs) (hk : k ≤ n) : w.ownsRow base e 1 (.slice A k cap) k (xs.take k) := by
  obtain ⟨h1, h2⟩ := h
  refine ⟨by rw [List.length_take, h1]; omega, ?_⟩
  rcases h2 with ⟨h2, rfl⟩ | ⟨g, cap', cur, e1, h3, h4, h5, h6, h7, h8⟩
  · obtain rfl : k = 0 := by omega
    exact .inl ⟨h2, rfl⟩
  · injection e1 with e1 _ e3
    subst e1 e3
    refine .inr ⟨g, cap, cur, rfl, h3, h4, by omega, h6, h7, ?_⟩
    rw [← h8, List.take_take]
    congr 1
    omega
section
variable {w : World} {d M : Nat} {Dm : DataW Unit} {gb : Nm → Nat} {hb : Nm → Option Nat} {F : List Nat} {D : Dk}
set_option maxHeartbeats 1000000 in
theorem keep_any {g : Nat} {x : Option Nat} {f : Fil} (hf : FileAt w g x f) (k : Nat) (hk : k ≤ f.b.length) (hlen : f.b.length ≤ 1099511627776) :
    Calls Try.prog 43 #[ptr g, .int .i64 (k : Int)] w fun e w' => e = .returned (.tuple #[]) ∧ FileAt w' g x ⟨f.b.take k, k⟩ ∧ Touch w w' [g] := by
  obtain ⟨A, cap, hblk, hown, hx⟩ := hf
  have c0 := hblk.cell 0
  have c1 := hblk.cell 1
  simp at c0 c1
  have hz0 := hblk.frozen 0
  have hz1 := hblk.frozen 1
  have hcap := own_cap hown
  have HB := hid hblk
  have HO := hid (own_take hown hk)
  have HX := hid hx
  have hA : A = none → cap = 0 := by
    obtain ⟨A', c', e, h1, _⟩ := own_shape hown
    injection e with e1 _ e3
    subst e1 e3
    exact h1
  clear hblk hown hx
  obtain ⟨m, hm⟩ : ∃ m, m = f.b.length := ⟨_, rfl⟩
  rw [← hm] at c0 hk hlen hcap
  have HM := hid hm
  clear hm
  have hk0 : (0 : Int) ≤ (k : Int) := Int.natCast_nonneg _
  have hkc : (k : Int) ≤ (cap : Int) := by omega
  have hw : IntKind.i64.wrap (k : Int) = k := by simp [IntKind.wrap, IntKind.bits, IntKind.signed]; omega
  go_enter Try.func43, Try.ntmps43
  go_wp2_with fail
  go_end0
  have hts : Touch w ((w.setCell ⟨g, 0, none⟩ (.slice A k cap)).setCell ⟨g, 1, none⟩ (.int .i64 (k : Int))) [g] := touch_grown (only_set (only_set (World.grownBy.refl _ _) 0 _) 1 _) (by simp)
  have hl : (f.b.take k).length = k := by rw [List.length_take, ← HM.out]; omega
  refine ⟨rfl, ⟨A, cap, ?_, ?_, HX.out⟩, hts⟩
  · have h1 := (HB.out.set 0 (.slice A k cap)).set 1 (.int .i64 (k : Int))
    simp at h1
    simp only [hl]
    exact h1
  · simp only [hl, ← U_take]
    refine own_touch HO.out hts ?_
    intro y hy e
    obtain ⟨cur, hc⟩ := own_lt HO.out hy
    rw [List.mem_singleton.1 e] at hc
    exact ne_of_type HB.out hc (by decide) rfl
theorem cut1_any {g bf bn : Nat} {x : Option Nat} {f : Fil} (hf : FileAt w g x f) (k : Nat) (hk : k ≤ f.b.length) (hlen : f.b.length ≤ 1099511627776) (h1 : w.cell? ⟨bf, 0, none⟩ = some (ptr g)) (h2 : w.cell? ⟨bn, 0, none⟩ = some (.int .i64 (k : Int))) :
    Calls Try.prog 45 #[.pointer (some ⟨bf, 0, none⟩), .pointer (some ⟨bn, 0, none⟩)] w fun e w' => e = .returned (.tuple #[]) ∧ FileAt w' g x ⟨f.b.take k, k⟩ ∧ Touch w w' [g] := by
  have W1 := hid (keep_any hf k hk hlen)
  clear hf hk hlen
  go_enter Try.func45, Try.ntmps45
  go_wp2_with fail
  refine W1.out.mono ?_
  rintro e w1 ⟨rfl, h3, h4⟩
  go_wp2_with fail
  go_end0
  exact ⟨rfl, h3, h4⟩
/-- A file is no longer than the room. -/
theorem file_room (hw : Whole D) {n : Nm} {f : Fil} (hn : get D.fs n = some f) : f.b.length ≤ 1099511627776 := by
  have e5 := used_del (fs := D.fs) n
  rw [hn] at e5
  have h1 := hw.room
  have h2 := hw.top
  simp at e5
  omega
set_option maxHeartbeats 4000000 in
set_option maxRecDepth 20000 in
theorem cut_m (h : DM w d M Dm gb hb F D) (hw : Whole D) (hfu : D.fuse ≤ 9223372036854775807) (n : Nm) (k : Int) (hl : n.length ≤ 1000) :
    Calls Try.prog 17 #[ptr d, S n, .int .i64 k] w fun e w' => Did0 w d F (dCut D n k) e w' := by
  obtain ⟨w2, hw2⟩ : ∃ w2, w2 = w.alloc (.cells #[.int .i64 k] 2) := ⟨_, rfl⟩
  have hb2 : Below w.heap.size w w2 := by rw [hw2]; exact (Below.refl _ w).alloc (Nat.le_refl _) _
  have hs2 : w2.heap.size = w.heap.size + 1 := by rw [hw2]; simp
  have k0 : w2.cell? ⟨w.heap.size, 0, none⟩ = some (.int .i64 k) := by
    rw [hw2]
    exact (Blk.new w 2 #[.int .i64 k]).cell 0
  have W1 := hid (find_nil (h.below hb2) n hl)
  have HD := hid h
  have HW := hid hw
  generalize hs : S n = s at *
  have HW2 := hid hw2
  have HB2 := hid hb2
  have HS2 := hid hs2
  clear h hw hs hw2 hb2 hs2
  have HE := hid (enters_of Try.func45 (by kernel_rfl) rfl)
  go_enter Try.func17, Try.ntmps17
  go_wp2_with fail
  rw [← HW2.out]
  refine W1.out.mono ?_
  rintro e w3 ⟨rfl, hb3⟩
  have c0 := (hb3.cell (p := ⟨w.heap.size, 0, none⟩) (by have := HS2.out; show w.heap.size < _; omega)).trans k0
  have HB3 := hid (HB2.out.trans (hb3.mono (by have := HS2.out; omega)))
  have HS3 : Hid (w.heap.size + 1 ≤ w3.heap.size) := hid (by have := HS2.out; have := hb3.size; omega)
  clear hb3 k0
  by_cases h0 : ready D n = 0
  · obtain ⟨_, _, f, hf, hfile⟩ := ready_zero h0
    rw [h0]
    have HR0 := hid h0
    clear h0
    have e1 : fptr (gb n) 0 = ptr (gb n) := rfl
    rw [e1]
    obtain ⟨w4, hw4⟩ : ∃ w4, w4 = w3.alloc (.cells #[ptr (gb n)] 64) := ⟨_, rfl⟩
    have hb4 : Below w.heap.size w w4 := by rw [hw4]; exact HB3.out.alloc HB3.out.size _
    have hs4 : w4.heap.size = w3.heap.size + 1 := by rw [hw4]; simp
    have k4 : w4.cell? ⟨w3.heap.size, 0, none⟩ = some (ptr (gb n)) := by
      rw [hw4]
      exact (Blk.new w3 64 #[ptr (gb n)]).cell 0
    have k5 : w4.cell? ⟨w.heap.size, 0, none⟩ = some (.int .i64 k) := by
      rw [hw4]
      exact (World.cell?_alloc_lt w3 _ ⟨w.heap.size, 0, none⟩ (by have := HS3.out; show w.heap.size < w3.heap.size; omega)).trans c0
    have HDX := hid (HD.out.below hb4)
    obtain ⟨A, cap, hblk, _, _⟩ := (HDX.out.at_ n f hf).2
    have cf := hblk.cell 0
    simp at cf
    clear hblk
    have HF := hid hf
    have HFI := hid hfile
    have HB4 := hid hb4
    have HS4 := hid hs4
    have HW4 := hid hw4
    obtain ⟨m, hm⟩ : ∃ m, m = f.b.length := ⟨_, rfl⟩
    rw [← hm] at cf
    have HM := hid hm
    clear hf hfile hb4 hs4 hw4 hm
    have hdlt : d < w.heap.size := HD.out.lt d HD.out.mem.1
    by_cases hk : k < 0
    · have q1 : decide (k < 0) = true := by simpa using hk
      go_wp2_with fail
      rw [← HW4.out]
      go_quiet (fail)
      go_wp2_with fail
      refine (done_err HD.out HW.out (w1 := w4.drewN _) (below_drewN HB4.out _) hfu 45 _ HE.out 2 (by decide)).mono ?_
      rintro e w5 ⟨y, rfl, hdid⟩
      go_wp2_with fail
      go_ret
      unfold dCut
      rw [if_neg (by simp [HR0.out]), HFI.out, if_pos (.inl hk)]
      exact hdid
    · have q1 : decide (k < 0) = false := by simpa using hk
      by_cases hk2 : (m : Int) < k
      · have q2 : decide ((m : Int) < k) = true := by simpa using hk2
        go_wp2_with fail
        rw [← HW4.out]
        go_quiet (fail)
        go_wp2_with fail
        refine (done_err HD.out HW.out (w1 := w4.drewN _) (below_drewN HB4.out _) hfu 45 _ HE.out 2 (by decide)).mono ?_
        rintro e w5 ⟨y, rfl, hdid⟩
        go_wp2_with fail
        go_ret
        unfold dCut
        rw [if_neg (by simp [HR0.out]), HFI.out, if_pos (.inr (by rw [← HM.out]; exact hk2))]
        exact hdid
      · have q2 : decide ((m : Int) < k) = false := by simpa using hk2
        go_wp2_with fail
        rw [← HW4.out]
        go_quiet (fail)
        go_wp2_with fail
        refine (done_file HD.out HW.out n HF.out (w1 := w4.drewN _) (f' := ⟨f.b.take k.toNat, k.toNat⟩) (below_drewN HB4.out _) hfu 45 #[.pointer (some ⟨w3.heap.size, 0, none⟩), .pointer (some ⟨w.heap.size, 0, none⟩)] HE.out (fun w5 hD5 ht5 _ => ?_)).mono ?_
        · have hs := HB3.out.size
          refine (cut1_any (hD5.at_ n f HF.out).2 k.toNat (by have := HM.out; omega) (file_room HW.out HF.out) ((ht5.cell (p := ⟨w3.heap.size, 0, none⟩) (by have := HS4.out; show w3.heap.size < w4.heap.size; omega) (by simp; omega)).trans k4) (by
            rw [show ((k.toNat : Nat) : Int) = k by omega]
            exact (ht5.cell (p := ⟨w.heap.size, 0, none⟩) (by have := HS4.out; show w.heap.size < w4.heap.size; omega) (by simp; omega)).trans k5)).mono ?_
          rintro e w6 ⟨rfl, hf6, ht6⟩
          exact ⟨rfl, hb n, hf6, ht6.mono (fun i _ hi => by simp at hi; simp [hi]), fun x hx => .inl hx⟩
        · rintro e w6 ⟨y, rfl, hdid⟩
          go_wp2_with fail
          go_ret
          unfold dCut
          rw [if_neg (by simp [HR0.out]), HFI.out, if_neg (by rw [← HM.out]; omega)]
          exact hdid
  · rcases ready_ne h0 with hr | hr | hr
    · rw [hr]
      have e1 : fptr (gb n) 9 = .pointer none := rfl
      rw [e1]
      have HR := hid hr
      clear h0 hr e1
      go_wp2_with fail
      go_quiet (fail)
      go_wp2_with fail
      refine (done_err HD.out HW.out ?_ hfu 45 _ HE.out 9 (by decide)).mono ?_
      · exact below_drewN (HB3.out.alloc HB3.out.size _) _
      rintro e w5 ⟨y, rfl, hdid⟩
      go_wp2_with fail
      go_ret
      unfold dCut
      rw [if_pos (by rw [HR.out]; decide), HR.out]
      exact hdid
    · rw [hr]
      have e1 : fptr (gb n) 2 = .pointer none := rfl
      rw [e1]
      have HR := hid hr
      clear h0 hr e1
      go_wp2_with fail
      go_quiet (fail)
      go_wp2_with fail
      refine (done_err HD.out HW.out ?_ hfu 45 _ HE.out 2 (by decide)).mono ?_
      · exact below_drewN (HB3.out.alloc HB3.out.size _) _
      rintro e w5 ⟨y, rfl, hdid⟩
      go_wp2_with fail
      go_ret
      unfold dCut
      rw [if_pos (by rw [HR.out]; decide), HR.out]
      exact hdid
    · rw [hr]
      have e1 : fptr (gb n) 6 = .pointer none := rfl
      rw [e1]
      have HR := hid hr
      clear h0 hr e1
      go_wp2_with fail
      go_quiet (fail)
      go_wp2_with fail
      refine (done_err HD.out HW.out ?_ hfu 45 _ HE.out 6 (by decide)).mono ?_
      · exact below_drewN (HB3.out.alloc HB3.out.size _) _
      rintro e w5 ⟨y, rfl, hdid⟩
      go_wp2_with fail
      go_ret
      unfold dCut
      rw [if_pos (by rw [HR.out]; decide), HR.out]
      exact hdid
end
end Go.Proofs.Ytkadljomimpnjaa
