/-
  Contracts: what stays of a file; Cut; Read.
  Contracts: Read and Names.
  Contract: Names, rising.
  Contract: Rename.
  Contract: Rename, whole.
  A crash, file by file: plain words.
  Contract: Crash.
-/
import Derived.Test.YtpckloafdlkefaaGreatDiskB
import Derived.Test.YtpckloafdlkefaaGreatDiskActs
namespace Go.Proofs.YtpckloafdlkefaaGreat
set_option maxRecDepth 40000
open Go.RowKit Go.Maps Go.Shelf Dsk

/-- The first bytes of a row of one's own. -/
theorem own_take {w : World} {base : Nat} {e : TypeId} {A : Option Addr} {cap n k : Nat} {xs : List Value} (h : w.ownsRow base e 1 (.slice A n cap) n xs) (hk : k ≤ n) : w.ownsRow base e 1 (.slice A k cap) k (xs.take k) := by
  obtain ⟨h1, h2⟩ := h
  refine ⟨by rw [List.length_take, h1]; omega, ?_⟩
  rcases h2 with ⟨h2, rfl⟩ | ⟨g, cap', cur, e1, h3, h4, h5, h6, h7, h8⟩
  · obtain rfl : k = 0 := by omega
    exact .inl ⟨h2, rfl⟩
  · injection e1 with e1 _ e3
    subst e1 e3
    refine .inr ⟨g, cap, cur, rfl, h3, h4, by omega, h6, h7, ?_⟩
    rw [← h8, List.take_take]
    congr 1
    omega
section
variable {w : World} {d M : Nat} {Dm : DataW Unit} {gb : Nm → Nat} {hb : Nm → Option Nat} {F : List Nat} {D : Dk}
set_option maxHeartbeats 1000000 in
theorem keep_any {g : Nat} {x : Option Nat} {f : Fil} (hf : FileAt w g x f) (k : Nat) (hk : k ≤ f.b.length) (hlen : f.b.length ≤ 1099511627776) :
    Calls Tryz.prog 45 #[ptr g, .int .i64 (k : Int)] w fun e w' => e = .returned (.tuple #[]) ∧ FileAt w' g x ⟨f.b.take k, k⟩ ∧ Touch w w' [g] := by
  obtain ⟨A, cap, hblk, hown, hx⟩ := hf
  have c0 := hblk.cell 0
  have c1 := hblk.cell 1
  simp at c0 c1
  have hz0 := hblk.frozen 0
  have hz1 := hblk.frozen 1
  have hcap := own_cap hown
  have HB := hid hblk
  have HO := hid (own_take hown hk)
  have HX := hid hx
  have hA : A = none → cap = 0 := by
    obtain ⟨A', c', e, h1, _⟩ := own_shape hown
    injection e with e1 _ e3
    subst e1 e3
    exact h1
  clear hblk hown hx
  obtain ⟨m, hm⟩ : ∃ m, m = f.b.length := ⟨_, rfl⟩
  rw [← hm] at c0 hk hlen hcap
  have HM := hid hm
  clear hm
  have hk0 : (0 : Int) ≤ (k : Int) := Int.natCast_nonneg _
  have hkc : (k : Int) ≤ (cap : Int) := by omega
  have hw : IntKind.i64.wrap (k : Int) = k := by simp [IntKind.wrap, IntKind.bits, IntKind.signed]; omega
  go_enter Tryz.func45, Tryz.ntmps45
  go_wp2_with fail
  go_end0
  have hts : Touch w ((w.setCell ⟨g, 0, none⟩ (.slice A k cap)).setCell ⟨g, 1, none⟩ (.int .i64 (k : Int))) [g] := touch_grown (only_set (only_set (World.grownBy.refl _ _) 0 _) 1 _) (by simp)
  have hl : (f.b.take k).length = k := by rw [List.length_take, ← HM.out]; omega
  refine ⟨rfl, ⟨A, cap, ?_, ?_, HX.out⟩, hts⟩
  · have h1 := (HB.out.set 0 (.slice A k cap)).set 1 (.int .i64 (k : Int))
    simp at h1
    simp only [hl]
    exact h1
  · simp only [hl, ← U_take]
    refine own_touch HO.out hts ?_
    intro y hy e
    obtain ⟨cur, hc⟩ := own_lt HO.out hy
    rw [List.mem_singleton.1 e] at hc
    exact ne_of_type HB.out hc (by decide) rfl
theorem cut1_any {g bf bn : Nat} {x : Option Nat} {f : Fil} (hf : FileAt w g x f) (k : Nat) (hk : k ≤ f.b.length) (hlen : f.b.length ≤ 1099511627776) (h1 : w.cell? ⟨bf, 0, none⟩ = some (ptr g)) (h2 : w.cell? ⟨bn, 0, none⟩ = some (.int .i64 (k : Int))) :
    Calls Tryz.prog 78 #[.pointer (some ⟨bf, 0, none⟩), .pointer (some ⟨bn, 0, none⟩)] w fun e w' => e = .returned (.tuple #[]) ∧ FileAt w' g x ⟨f.b.take k, k⟩ ∧ Touch w w' [g] := by
  have W1 := hid (keep_any hf k hk hlen)
  clear hf hk hlen
  go_enter Tryz.func78, Tryz.ntmps78
  go_wp2_with fail
  refine W1.out.mono ?_
  rintro e w1 ⟨rfl, h3, h4⟩
  go_wp2_with fail
  go_end0
  exact ⟨rfl, h3, h4⟩
/-- A file is no longer than the room. -/
theorem file_room (hw : Whole D) {n : Nm} {f : Fil} (hn : get D.fs n = some f) : f.b.length ≤ 1099511627776 := by
  have e5 := used_del (fs := D.fs) n
  rw [hn] at e5
  have h1 := hw.room
  have h2 := hw.top
  simp at e5
  omega
set_option maxHeartbeats 4000000 in
set_option maxRecDepth 20000 in
theorem cut_m (h : DM w d M Dm gb hb F D) (hw : Whole D) (hfu : D.fuse ≤ 9223372036854775807) (n : Nm) (k : Int) (hl : n.length ≤ 1000) :
    Calls Tryz.prog 33 #[ptr d, S n, .int .i64 k] w fun e w' => Did0 w d F (dCut D n k) e w' := by
  obtain ⟨w2, hw2⟩ : ∃ w2, w2 = w.alloc (.cells #[.int .i64 k] 2) := ⟨_, rfl⟩
  have hb2 : Below w.heap.size w w2 := by rw [hw2]; exact (Below.refl _ w).alloc (Nat.le_refl _) _
  have hs2 : w2.heap.size = w.heap.size + 1 := by rw [hw2]; simp
  have k0 : w2.cell? ⟨w.heap.size, 0, none⟩ = some (.int .i64 k) := by
    rw [hw2]
    exact (Blk.new w 2 #[.int .i64 k]).cell 0
  have W1 := hid (find_nil (h.below hb2) n hl)
  have HD := hid h
  have HW := hid hw
  generalize hs : S n = s at *
  have HW2 := hid hw2
  have HB2 := hid hb2
  have HS2 := hid hs2
  clear h hw hs hw2 hb2 hs2
  have HE := hid (enters_of Tryz.func78 (by kernel_rfl) rfl)
  go_enter Tryz.func33, Tryz.ntmps33
  go_wp2_with fail
  rw [← HW2.out]
  refine W1.out.mono ?_
  rintro e w3 ⟨rfl, hb3⟩
  have c0 := (hb3.cell (p := ⟨w.heap.size, 0, none⟩) (by have := HS2.out; show w.heap.size < _; omega)).trans k0
  have HB3 := hid (HB2.out.trans (hb3.mono (by have := HS2.out; omega)))
  have HS3 : Hid (w.heap.size + 1 ≤ w3.heap.size) := hid (by have := HS2.out; have := hb3.size; omega)
  clear hb3 k0
  by_cases h0 : ready D n = 0
  · obtain ⟨_, _, f, hf, hfile⟩ := ready_zero h0
    rw [h0]
    have HR0 := hid h0
    clear h0
    have e1 : fptr (gb n) 0 = ptr (gb n) := rfl
    rw [e1]
    obtain ⟨w4, hw4⟩ : ∃ w4, w4 = w3.alloc (.cells #[ptr (gb n)] 85) := ⟨_, rfl⟩
    have hb4 : Below w.heap.size w w4 := by rw [hw4]; exact HB3.out.alloc HB3.out.size _
    have hs4 : w4.heap.size = w3.heap.size + 1 := by rw [hw4]; simp
    have k4 : w4.cell? ⟨w3.heap.size, 0, none⟩ = some (ptr (gb n)) := by
      rw [hw4]
      exact (Blk.new w3 85 #[ptr (gb n)]).cell 0
    have k5 : w4.cell? ⟨w.heap.size, 0, none⟩ = some (.int .i64 k) := by
      rw [hw4]
      exact (World.cell?_alloc_lt w3 _ ⟨w.heap.size, 0, none⟩ (by have := HS3.out; show w.heap.size < w3.heap.size; omega)).trans c0
    have HDX := hid (HD.out.below hb4)
    obtain ⟨A, cap, hblk, _, _⟩ := (HDX.out.at_ n f hf).2
    have cf := hblk.cell 0
    simp at cf
    clear hblk
    have HF := hid hf
    have HFI := hid hfile
    have HB4 := hid hb4
    have HS4 := hid hs4
    have HW4 := hid hw4
    obtain ⟨m, hm⟩ : ∃ m, m = f.b.length := ⟨_, rfl⟩
    rw [← hm] at cf
    have HM := hid hm
    clear hf hfile hb4 hs4 hw4 hm
    have hdlt : d < w.heap.size := HD.out.lt d HD.out.mem.1
    by_cases hk : k < 0
    · have q1 : decide (k < 0) = true := by simpa using hk
      go_wp2_with fail
      rw [← HW4.out]
      go_quiet (fail)
      go_wp2_with fail
      refine (done_err HD.out HW.out (w1 := w4.drewN _) (below_drewN HB4.out _) hfu 78 _ HE.out 2 (by decide)).mono ?_
      rintro e w5 ⟨y, rfl, hdid⟩
      go_wp2_with fail
      go_ret
      unfold dCut
      rw [if_neg (by simp [HR0.out]), HFI.out, if_pos (.inl hk)]
      exact hdid
    · have q1 : decide (k < 0) = false := by simpa using hk
      by_cases hk2 : (m : Int) < k
      · have q2 : decide ((m : Int) < k) = true := by simpa using hk2
        go_wp2_with fail
        rw [← HW4.out]
        go_quiet (fail)
        go_wp2_with fail
        refine (done_err HD.out HW.out (w1 := w4.drewN _) (below_drewN HB4.out _) hfu 78 _ HE.out 2 (by decide)).mono ?_
        rintro e w5 ⟨y, rfl, hdid⟩
        go_wp2_with fail
        go_ret
        unfold dCut
        rw [if_neg (by simp [HR0.out]), HFI.out, if_pos (.inr (by rw [← HM.out]; exact hk2))]
        exact hdid
      · have q2 : decide ((m : Int) < k) = false := by simpa using hk2
        go_wp2_with fail
        rw [← HW4.out]
        go_quiet (fail)
        go_wp2_with fail
        refine (done_file HD.out HW.out n HF.out (w1 := w4.drewN _) (f' := ⟨f.b.take k.toNat, k.toNat⟩) (below_drewN HB4.out _) hfu 78 #[.pointer (some ⟨w3.heap.size, 0, none⟩), .pointer (some ⟨w.heap.size, 0, none⟩)] HE.out (fun w5 hD5 ht5 _ => ?_)).mono ?_
        · have hs := HB3.out.size
          refine (cut1_any (hD5.at_ n f HF.out).2 k.toNat (by have := HM.out; omega) (file_room HW.out HF.out) ((ht5.cell (p := ⟨w3.heap.size, 0, none⟩) (by have := HS4.out; show w3.heap.size < w4.heap.size; omega) (by simp; omega)).trans k4) (by
            rw [show ((k.toNat : Nat) : Int) = k by omega]
            exact (ht5.cell (p := ⟨w.heap.size, 0, none⟩) (by have := HS4.out; show w.heap.size < w4.heap.size; omega) (by simp; omega)).trans k5)).mono ?_
          rintro e w6 ⟨rfl, hf6, ht6⟩
          exact ⟨rfl, hb n, hf6, ht6.mono (fun i _ hi => by simp at hi; simp [hi]), fun x hx => .inl hx⟩
        · rintro e w6 ⟨y, rfl, hdid⟩
          go_wp2_with fail
          go_ret
          unfold dCut
          rw [if_neg (by simp [HR0.out]), HFI.out, if_neg (by rw [← HM.out]; omega)]
          exact hdid
  · rcases ready_ne h0 with hr | hr | hr
    · rw [hr]
      have e1 : fptr (gb n) 9 = .pointer none := rfl
      rw [e1]
      have HR := hid hr
      clear h0 hr e1
      go_wp2_with fail
      go_quiet (fail)
      go_wp2_with fail
      refine (done_err HD.out HW.out ?_ hfu 78 _ HE.out 9 (by decide)).mono ?_
      · exact below_drewN (HB3.out.alloc HB3.out.size _) _
      rintro e w5 ⟨y, rfl, hdid⟩
      go_wp2_with fail
      go_ret
      unfold dCut
      rw [if_pos (by rw [HR.out]; decide), HR.out]
      exact hdid
    · rw [hr]
      have e1 : fptr (gb n) 2 = .pointer none := rfl
      rw [e1]
      have HR := hid hr
      clear h0 hr e1
      go_wp2_with fail
      go_quiet (fail)
      go_wp2_with fail
      refine (done_err HD.out HW.out ?_ hfu 78 _ HE.out 2 (by decide)).mono ?_
      · exact below_drewN (HB3.out.alloc HB3.out.size _) _
      rintro e w5 ⟨y, rfl, hdid⟩
      go_wp2_with fail
      go_ret
      unfold dCut
      rw [if_pos (by rw [HR.out]; decide), HR.out]
      exact hdid
    · rw [hr]
      have e1 : fptr (gb n) 6 = .pointer none := rfl
      rw [e1]
      have HR := hid hr
      clear h0 hr e1
      go_wp2_with fail
      go_quiet (fail)
      go_wp2_with fail
      refine (done_err HD.out HW.out ?_ hfu 78 _ HE.out 6 (by decide)).mono ?_
      · exact below_drewN (HB3.out.alloc HB3.out.size _) _
      rintro e w5 ⟨y, rfl, hdid⟩
      go_wp2_with fail
      go_ret
      unfold dCut
      rw [if_pos (by rw [HR.out]; decide), HR.out]
      exact hdid
end
end Go.Proofs.YtpckloafdlkefaaGreat
namespace Go.Proofs.YtpckloafdlkefaaGreat
set_option maxRecDepth 40000
open Go.RowKit Go.Maps Go.Shelf Dsk

theorem gives_own {w w0 w' : World} {t : TypeId} {A : Option Addr} {n c : Nat} {xs : List Value} (h : w'.ownsRow w0.heap.size t 1 (.slice A n c) n xs) (h0 : w.heap.size ≤ w0.heap.size) (hb : Below w.heap.size w w') : Gives w xs (.slice A n c) w' := by
  refine ⟨A, n, c, rfl, (Row.of_own h).wide h0 (Nat.le_refl _), ?_, ?_, ?_, hb⟩
  · obtain ⟨A', c', e, h1, _⟩ := own_shape h
    injection e with e1 _ e3
    subst e1 e3
    exact h1
  · exact own_cap h
  · rcases h.2 with ⟨e, _⟩ | ⟨g, cap', cur, e1, _, _, _, h6, _⟩
    · injection e with _ _ e; omega
    · injection e1 with _ _ e3; omega
theorem gives_nil (w w' : World) (hb : Below w.heap.size w w') : Gives w [] (.slice none 0 0) w' :=
  ⟨none, 0, 0, rfl, Row.empty, fun _ => rfl, Nat.le_refl _, Nat.zero_le _, hb⟩
section
variable {w : World} {d M : Nat} {Dm : DataW Unit} {gb : Nm → Nat} {hb : Nm → Option Nat} {F : List Nat} {D : Dk}
set_option maxHeartbeats 2000000 in
set_option maxRecDepth 20000 in
theorem read_m (h : DM w d M Dm gb hb F D) (hw : Whole D) (n : Nm) (hl : n.length ≤ 1000) :
    Calls Tryz.prog 31 #[ptr d, S n] w fun e w' => ∃ v, e = .returned (.tuple #[v, .int .i64 (ready D n)]) ∧ Gives w (U (dRead D n)) v w' := by
  have W1 := hid (find_nil h n hl)
  have HD := hid h
  have HW := hid hw
  generalize hs : S n = s at *
  clear h hw hs
  go_enter Tryz.func31, Tryz.ntmps31
  go_wp2_with fail
  refine W1.out.mono ?_
  rintro e w1 ⟨rfl, hb1⟩
  have HB1 := hid hb1
  clear hb1
  by_cases h0 : ready D n = 0
  · obtain ⟨_, _, f, hf, hfile⟩ := ready_zero h0
    have hrd : dRead D n = f.b := by unfold dRead; rw [if_pos h0, hfile]
    obtain ⟨A, cap, hblk, hown, _⟩ := ((HD.out.below HB1.out).at_ n f hf).2
    have hA : A = none → cap = 0 := by
      obtain ⟨A', c', e, h1, _⟩ := own_shape hown
      injection e with e1 _ e3
      subst e1 e3
      exact h1
    have hroom := file_room HW.out hf
    have W2 := hid (clone_any A f.b.length cap 0 w1.heap.size f.b w1 (Row.of_own hown) hA (Nat.le_refl _) (by omega))
    have c0 := hblk.cell 0
    simp at c0
    have HR0 := hid h0
    have HRD := hid hrd
    rw [h0]
    have e1 : fptr (gb n) 0 = ptr (gb n) := rfl
    rw [e1]
    clear h0 hrd hfile hf hblk hown hroom e1 hA
    generalize f.b.length = m at *
    go_wp2_with fail
    refine W2.out.mono ?_
    rintro e w2 ⟨A2, n2, c2, rfl, _, _, hown2, hb2⟩
    go_wp2_with fail
    go_ret2
    rw [HR0.out, HRD.out]
    exact ⟨_, rfl, gives_own hown2 HB1.out.size (HB1.out.trans (hb2.mono HB1.out.size))⟩
  · have hrd : dRead D n = [] := by unfold dRead; rw [if_neg h0]
    have HRD := hid hrd
    clear hrd
    rcases ready_ne h0 with hr | hr | hr
    · rw [hr]
      have e1 : fptr (gb n) 9 = .pointer none := rfl
      rw [e1]
      have HR := hid hr
      clear h0 hr e1
      go_wp2_with fail
      go_ret2
      rw [HR.out, HRD.out]
      exact ⟨_, rfl, gives_nil w w1 HB1.out⟩
    · rw [hr]
      have e1 : fptr (gb n) 2 = .pointer none := rfl
      rw [e1]
      have HR := hid hr
      clear h0 hr e1
      go_wp2_with fail
      go_ret2
      rw [HR.out, HRD.out]
      exact ⟨_, rfl, gives_nil w w1 HB1.out⟩
    · rw [hr]
      have e1 : fptr (gb n) 6 = .pointer none := rfl
      rw [e1]
      have HR := hid hr
      clear h0 hr e1
      go_wp2_with fail
      go_ret2
      rw [HR.out, HRD.out]
      exact ⟨_, rfl, gives_nil w w1 HB1.out⟩
end
end Go.Proofs.YtpckloafdlkefaaGreat
namespace Go.Proofs.YtpckloafdlkefaaGreat
set_option maxRecDepth 40000
open Go.RowKit Go.Maps Go.Sort Go.Shelf Dsk

theorem lt_of_nlt : ∀ {a b : Nm}, nlt a b = true → a < b
  | [], [], h => by cases h
  | [], _ :: _, _ => List.nil_lt_cons _ _
  | _ :: _, [], h => by cases h
  | x :: r, y :: s, h => by
    simp only [nlt, Bool.or_eq_true, Bool.and_eq_true, decide_eq_true_eq, beq_iff_eq] at h
    rw [List.cons_lt_cons_iff]
    rcases h with h | ⟨rfl, h⟩
    · exact .inl (UInt8.lt_iff_toNat_lt.2 h)
    · exact .inr ⟨rfl, lt_of_nlt h⟩
theorem names_rise {fs : Fs} (h : Rises fs) : (fs.map (·.1)).Pairwise (fun x y => x ≤ y) := by
  induction fs with
  | nil => exact List.Pairwise.nil
  | cons y r ih =>
    obtain ⟨k, f⟩ := y
    refine List.Pairwise.cons ?_ (ih h.2)
    intro m hm
    obtain ⟨x, hx, rfl⟩ := List.mem_map.1 hm
    exact List.le_of_lt (lt_of_nlt (h.1 x hx))
theorem names_nodup {fs : Fs} (h : Rises fs) : (fs.map (·.1)).Nodup := by
  induction fs with
  | nil => exact List.Pairwise.nil
  | cons y r ih =>
    obtain ⟨k, f⟩ := y
    refine List.Pairwise.cons ?_ (ih h.2)
    intro m hm e
    obtain ⟨x, hx, rfl⟩ := List.mem_map.1 hm
    have := h.1 x hx
    simp only at e
    rw [← e, nlt_irrefl] at this
    cases this
theorem get_names {fs : Fs} {n : Nm} : n ∈ fs.map (·.1) ↔ (Dsk.get fs n).isSome = true := by
  induction fs with
  | nil => simp [Dsk.get]
  | cons y r ih =>
    obtain ⟨k, f⟩ := y
    simp only [List.map_cons, List.mem_cons, Dsk.get]
    by_cases e : k = n
    · subst e; simp
    · rw [if_neg e, ih]
      simp
      exact fun h => absurd h.symm e
theorem sort_names {ss ns : List Nm} (hp : ss.Perm ns) (hs : ns.Pairwise (fun x y => x ≤ y)) : ss.mergeSort (fun x y => decide (x ≤ y)) = ns := by
  refine List.Perm.eq_of_pairwise (le := fun x y => decide (x ≤ y) = true) ?_ (List.pairwise_mergeSort ?_ ?_ ss) ?_ ((List.mergeSort_perm ss _).trans hp)
  · intro a b _ _ h1 h2
    exact List.le_antisymm (by simpa using h1) (by simpa using h2)
  · intro a b c h1 h2
    simp only [decide_eq_true_eq] at *
    exact List.le_trans h1 h2
  · intro a b
    simp only [Bool.or_eq_true, decide_eq_true_eq]
    exact List.le_total a b
  · exact hs.imp (fun h => by simpa using h)
section
variable {w : World} {d M : Nat} {Dm : DataW Unit} {gb : Nm → Nat} {hb : Nm → Option Nat} {F : List Nat} {D : Dk}
theorem keys_perm (h : DM w d M Dm gb hb F D) (hr : Rises D.fs) : (strKeys Dm).Perm (D.fs.map (·.1)) := by
  obtain ⟨es, rfl, hk⟩ := h.map.keysOf
  obtain ⟨es', e, hd, _⟩ := h.map.entries keyedS
  injection e with e
  subst e
  have hstr : ∀ p ∈ es, p.1 = .string (strOf p.1) := by
    intro p hp
    obtain ⟨v, hv⟩ := hk p hp
    obtain ⟨x, _, e, _⟩ := keyOf_str Tryz.underlying9 hv
    rw [e]
    rfl
  rw [List.perm_ext_iff_of_nodup]
  · intro n
    rw [get_names, ← h.has, has_eq]
    simp only [strKeys, List.mem_map, List.any_eq_true]
    constructor
    · rintro ⟨p, hp, rfl⟩
      refine ⟨p, hp, ?_⟩
      rw [hstr p hp, same_key]
      simp [strOf]
    · rintro ⟨p, hp, hs⟩
      refine ⟨p, hp, ?_⟩
      rw [hstr p hp, same_key] at hs
      simpa using hs
  · show (es.map fun p => strOf p.1).Nodup
    refine List.pairwise_map.2 (hd.imp_of_mem ?_)
    intro p q hp hq hne e
    exact hne (by rw [hstr p hp, hstr q hq, e])
  · exact names_nodup hr
set_option maxHeartbeats 1000000 in
set_option maxRecDepth 20000 in
theorem names_m (h : DM w d M Dm gb hb F D) (hw : Whole D) (hlen : D.fs.length < 1000000) : Calls Tryz.prog 44 #[ptr d] w fun e w' => ∃ v, e = .returned v ∧ Gives w (D.fs.map fun x => S x.1) v w' := by
  have W1 := hid (unmade_any h)
  have hc := h.blk.cell 0
  simp at hc
  have W2 := hid (callsIn_wide.1 (maps_keys (some M) w))
  have hsz := h.map.size_le
  have W3 := hid (callsIn_wide.1 (sorted_keys M D.fs.length Dm ptrElem w h.map (by unfold maxLen; omega) (by omega)))
  have HP := hid (keys_perm h hw.rises)
  have HW := hid hw
  clear h hw hsz
  go_enter Tryz.func44, Tryz.ntmps44
  go_wp2_with fail
  refine W1.out.mono ?_
  rintro e w1 ⟨rfl, rfl⟩
  go_wp2_with fail
  refine W2.out.mono ?_
  rintro e w2 ⟨rfl, rfl⟩
  go_wp2_with fail
  refine W3.out.mono ?_
  rintro e w3 ⟨v, ss, rfl, hperm, hown, hnil, hb⟩
  go_wp2_with fail
  go_ret
  have hsort := sort_names (hperm.trans HP.out) (names_rise HW.out.rises)
  rw [hsort] at hown
  have hl : ss.length = (D.fs.map (·.1)).length := (hperm.trans HP.out).length_eq
  obtain ⟨A, c, rfl, _, _⟩ := own_shape hown
  refine ⟨_, rfl, ?_⟩
  have e1 : (D.fs.map (·.1)).map encStr = D.fs.map fun x => S x.1 := by rw [List.map_map]; rfl
  rw [e1] at hown
  exact gives_own hown (by simp) (((Below.refl _ w1).alloc (Nat.le_refl _) _).trans (hb.mono (by simp)))
end
end Go.Proofs.YtpckloafdlkefaaGreat
namespace Go.Proofs.YtpckloafdlkefaaGreat
set_option maxRecDepth 40000
open Go.RowKit Go.Maps Go.Shelf Dsk

theorem put_del {fs : Fs} (hr : Rises fs) {n : Nm} {f : Fil} (h : Dsk.get fs n = some f) : put (del fs n) n f = fs :=
  rises_ext (put_rises (del_rises hr n) n f) hr fun m => by
    rw [get_put, get_del hr]
    by_cases e : m = n
    · subst e; rw [if_pos rfl, h]
    · rw [if_neg e, if_neg e]
theorem rename_found (D : Dk) (n m : Nm) : (found D [m] n ≠ 0 → dRename D n m = (found D [m] n, D)) ∧
    (found D [m] n = 0 → D.off = false ∧ ready D n = 0 ∧ dRename D n m = if (file D n).s < (file D n).b.length then (10, D) else burn D (if n = m then D.fs else put (del D.fs n) m (file D n))) := by
  unfold found wrong dRename ready
  simp only [List.cons_append, List.nil_append, List.all_cons, List.all_nil, Bool.and_true]
  cases ho : D.off <;> cases hm : okN m <;> cases hn : okN n <;> cases hg : Dsk.get D.fs n <;> simp
section
variable {w : World} {d M : Nat} {Dm : DataW Unit} {gb : Nm → Nat} {hb : Nm → Option Nat} {F : List Nat} {D : Dk}
set_option maxHeartbeats 2000000 in
set_option maxRecDepth 20000 in
theorem rename1_any (h : DM w d M Dm gb hb F D) (hr : Rises D.fs) (hlen : D.fs.length < 1000000) (n m : Nm) (hl : n.length ≤ 1000) (hlm : m.length ≤ 1000) {f : Fil} (hn : get D.fs n = some f) (bd bn bm bf : Nat) (hbd : w.cell? ⟨bd, 0, none⟩ = some (ptr d)) (hbn : w.cell? ⟨bn, 0, none⟩ = some (S n)) (hbm : w.cell? ⟨bm, 0, none⟩ = some (S m)) (hbf : w.cell? ⟨bf, 0, none⟩ = some (ptr (gb n)))
    (hout : bd ≠ M ∧ bm ≠ M ∧ bf ≠ M) (hlt : bd < w.heap.size ∧ bm < w.heap.size ∧ bf < w.heap.size) :
    Calls Tryz.prog 92 #[.pointer (some ⟨bd, 0, none⟩), .pointer (some ⟨bn, 0, none⟩), .pointer (some ⟨bm, 0, none⟩), .pointer (some ⟨bf, 0, none⟩)] w fun e w' => e = .returned (.tuple #[]) ∧ ∃ F', DAt w' d F' { D with fs := put (del D.fs n) m f } ∧ Touch w w' F ∧ ∀ y ∈ F', y ∈ F ∨ w.heap.size ≤ y := by
  have hc := h.blk.cell 0
  simp at hc
  have hD := h.touch (touch_drew w []) (by simp)
  obtain ⟨sb, hsb⟩ : ∃ sb, S n = .string sb := ⟨_, rfl⟩
  obtain ⟨sm, hsm⟩ : ∃ sm, S m = .string sm := ⟨_, rfl⟩
  have hkey := keyS n hl
  rw [hsb] at hbn hkey
  rw [hsm] at hbm
  obtain ⟨w2, hrun, hmap, hturn⟩ := hD.map.drop keyedS Tryz.underlying68 hkey 0
  have ht2 : Touch w.drew w2 [M] := touch_grown hturn.grown (by simp)
  have ht02 : Touch w w2 [M] := (touch_drew w [M]).then ht2 (fun _ _ h => h)
  have hD2 := hD.drop hr n (fun _ => hmap) ht2
  have hf2 : FileAt w2 (gb n) (hb n) f := by
    have h1 := (hD.at_ n f hn).2
    have h2 := h.ne_gb hn
    exact h1.touch ht2 (by simpa using h2.2.1.symm) (fun x hx => by simpa using (h2.2.2.1 x hx).2.symm)
  have W3 := hid (dput_any hD2 (del_rises hr n) (by have := del_len_some hn; show (del D.fs n).length < _; omega) m hlm hf2 (fun k fk hk hfk => by
    have hkn : k ≠ n := fun e => by
      have h1 : Dsk.get (del D.fs n) k = some fk := hfk
      rw [get_del hr, if_pos e] at h1
      cases h1
    have h1 : Dsk.get D.fs k = some fk := by
      have h1 : Dsk.get (del D.fs n) k = some fk := hfk
      rwa [get_del hr, if_neg hkn] at h1
    have h2 := h.inj k n hkn (by rw [h1]; rfl) (by rw [hn]; rfl)
    exact ⟨h2.1, fun y hy e => h2.2 y hy e⟩))
  rw [hsm] at W3
  have d0 := (ht02.cell (p := ⟨bd, 0, none⟩) hlt.1 (by simpa using hout.1)).trans hbd
  have d1 := (ht02.cell (p := ⟨bm, 0, none⟩) hlt.2.1 (by simpa using hout.2.1)).trans hbm
  have d2 := (ht02.cell (p := ⟨bf, 0, none⟩) hlt.2.2 (by simpa using hout.2.2)).trans hbf
  have HD := hid h
  have HT := hid ht02
  have HN := hid hn
  clear h hD hmap hturn hkey hsb hsm hD2 hf2 ht2 ht02 hn
  go_enter Tryz.func92, Tryz.ntmps92
  go_wp2
  go_region
  go_wp2_with fail
  refine W3.out.mono ?_
  rintro e w3 ⟨rfl, ht3, hD3⟩
  go_wp2_with fail
  go_end0
  refine ⟨rfl, _, ⟨_, _, _, _, hD3⟩, (HT.out.then ht3 (fun _ _ h => h)).mono (fun i _ hi => by rw [List.mem_singleton.1 hi]; exact HD.out.mem.2.1), fun y hy => ?_⟩
  rcases List.mem_append.1 hy with hy | hy
  · exact .inl hy
  · rcases List.mem_cons.1 hy with rfl | hy
    · exact .inl (HD.out.mem.2.2 n f HN.out).1
    · exact .inl ((HD.out.mem.2.2 n f HN.out).2 y (by simpa using hy))
end
end Go.Proofs.YtpckloafdlkefaaGreat
namespace Go.Proofs.YtpckloafdlkefaaGreat
set_option maxRecDepth 40000
open Go.RowKit Go.Maps Go.Shelf Dsk

theorem found_ne {D : Dk} {l : List Nm} {n : Nm} (h : found D l n ≠ 0) : found D l n = 9 ∨ found D l n = 2 ∨ found D l n = 6 := by
  unfold found wrong at h ⊢
  cases ho : D.off <;> cases hk : (l ++ [n]).all okN <;> cases hg : Dsk.get D.fs n <;> simp [ho, hk, hg] at h ⊢
section
variable {w : World} {d M : Nat} {Dm : DataW Unit} {gb : Nm → Nat} {hb : Nm → Option Nat} {F : List Nat} {D : Dk}
set_option maxHeartbeats 4000000 in
set_option maxRecDepth 20000 in
theorem rename_m (h : DM w d M Dm gb hb F D) (hw : Whole D) (hfu : D.fuse ≤ 9223372036854775807) (n m : Nm) (hl : n.length ≤ 1000) (hlm : m.length ≤ 1000) (hlen : D.fs.length < 1000000) :
    Calls Tryz.prog 50 #[ptr d, S n, S m] w fun e w' => Did0 w d F (dRename D n m) e w' := by
  obtain ⟨sb, hsb⟩ : ∃ sb, S n = .string sb := ⟨_, rfl⟩
  obtain ⟨sm, hsm⟩ : ∃ sm, S m = .string sm := ⟨_, rfl⟩
  obtain ⟨w3, hw3⟩ : ∃ w3, w3 = ((w.alloc (.cells #[ptr d] 25)).alloc (.cells #[.string sb] 9)).alloc (.cells #[.string sm] 9) := ⟨_, rfl⟩
  obtain ⟨w4, hw4⟩ : ∃ w4, w4 = w3.alloc (.cells #[.string sm] 9) := ⟨_, rfl⟩
  have hs3 : w3.heap.size = w.heap.size + 3 := by rw [hw3]; simp
  have hb3 : Below w.heap.size w w3 := by rw [hw3]; exact (((Below.refl _ w).alloc (Nat.le_refl _) _).alloc (by simp) _).alloc (by simp; omega) _
  have hb4 : Below w.heap.size w w4 := by rw [hw4]; exact hb3.alloc (by omega) _
  have hs4 : w4.heap.size = w.heap.size + 4 := by rw [hw4]; simp; omega
  have k0 : w4.cell? ⟨w.heap.size, 0, none⟩ = some (ptr d) := by
    rw [hw4, hw3]
    exact (((Blk.new w 25 #[ptr d]).alloc _).alloc _).alloc _ |>.cell 0
  have k1 : w4.cell? ⟨w.heap.size + 1, 0, none⟩ = some (.string sb) := by
    rw [hw4, hw3]
    have := ((Blk.new (w.alloc (.cells #[ptr d] 25)) 9 #[.string sb]).alloc (.cells #[.string sm] 9)).alloc (.cells #[.string sm] 9) |>.cell 0
    simpa using this
  have k2 : w4.cell? ⟨w.heap.size + 1 + 1, 0, none⟩ = some (.string sm) := by
    rw [hw4, hw3]
    have := (Blk.new ((w.alloc (.cells #[ptr d] 25)).alloc (.cells #[.string sb] 9)) 9 #[.string sm]).alloc (.cells #[.string sm] 9) |>.cell 0
    simpa using this
  have hown : w4.ownsRow (w.heap.size + 3) 9 1 (.slice (some ⟨w.heap.size + 1 + 1 + 1, 0, none⟩) 1 1) 1 (Ss [m]) := by
    have h1 := own_lit w3 9 [.string sm] (by unfold maxLen; simp)
    rw [← hw4, hs3] at h1
    rw [← hsm] at h1
    exact h1
  have W1 := hid (find_any (h.below hb4) n hl (some ⟨w.heap.size + 1 + 1 + 1, 0, none⟩) 1 1 (w.heap.size + 3) [m] (by simpa using hlm) (by omega) hown (by omega) (fun g hg hm => by
    have := h.lt g hm
    simp at hg
    omega))
  have HD := hid h
  have HW := hid hw
  have HRF := hid (rename_found D n m)
  rw [hsb] at W1 ⊢
  rw [hsm]
  have HSB := hid hsb
  have HSM := hid hsm
  have HW4 := hid hw4
  have HW3 := hid hw3
  have HB4 := hid hb4
  have HS4 := hid hs4
  have HS3 := hid hs3
  clear h hw hsb hsm hw3 hw4 hb3 hb4 hs3 hs4 hown
  have HE := hid (enters_of Tryz.func92 (by kernel_rfl) rfl)
  go_enter Tryz.func50, Tryz.ntmps50
  go_wp2_with fail
  rw [← HW3.out, ← HW4.out]
  refine W1.out.mono ?_
  rintro e w5 ⟨rfl, ht5⟩
  have hsz5 := ht5.size
  have c0 := (ht5.cell (p := ⟨w.heap.size, 0, none⟩) (by have := HS4.out; show w.heap.size < _; omega) (by simp; omega)).trans k0
  have c1 := (ht5.cell (p := ⟨w.heap.size + 1, 0, none⟩) (by have := HS4.out; show w.heap.size + 1 < _; omega) (by simp)).trans k1
  have c2 := (ht5.cell (p := ⟨w.heap.size + 1 + 1, 0, none⟩) (by have := HS4.out; show w.heap.size + 1 + 1 < _; omega) (by simp)).trans k2
  have HB5 := hid (HB4.out.trans (ht5.below (B := w.heap.size) (by have := HS4.out; omega) (by simp; omega)))
  have HS5 : Hid (w.heap.size + 4 ≤ w5.heap.size) := hid (by have := HS4.out; omega)
  clear ht5 k0 k1 k2 hsz5
  by_cases h0 : found D [m] n = 0
  · obtain ⟨_, hr0, hren⟩ := HRF.out.2 h0
    obtain ⟨_, _, f, hf, hfile⟩ := ready_zero hr0
    rw [hfile] at hren
    rw [h0]
    have e1 : fptr (gb n) 0 = ptr (gb n) := rfl
    rw [e1]
    obtain ⟨w6, hw6⟩ : ∃ w6, w6 = w5.alloc (.cells #[ptr (gb n)] 85) := ⟨_, rfl⟩
    have hb6 : Below w.heap.size w w6 := by rw [hw6]; exact HB5.out.alloc HB5.out.size _
    have hs6 : w6.heap.size = w5.heap.size + 1 := by rw [hw6]; simp
    have k6 : w6.cell? ⟨w5.heap.size, 0, none⟩ = some (ptr (gb n)) := by
      rw [hw6]
      exact (Blk.new w5 85 #[ptr (gb n)]).cell 0
    have f0 : w6.cell? ⟨w.heap.size, 0, none⟩ = some (ptr d) := by
      rw [hw6]
      exact (World.cell?_alloc_lt w5 _ ⟨w.heap.size, 0, none⟩ (by have := HS5.out; show w.heap.size < w5.heap.size; omega)).trans c0
    have f1 : w6.cell? ⟨w.heap.size + 1, 0, none⟩ = some (.string sb) := by
      rw [hw6]
      exact (World.cell?_alloc_lt w5 _ ⟨w.heap.size + 1, 0, none⟩ (by have := HS5.out; show w.heap.size + 1 < w5.heap.size; omega)).trans c1
    have f2 : w6.cell? ⟨w.heap.size + 1 + 1, 0, none⟩ = some (.string sm) := by
      rw [hw6]
      exact (World.cell?_alloc_lt w5 _ ⟨w.heap.size + 1 + 1, 0, none⟩ (by have := HS5.out; show w.heap.size + 1 + 1 < w5.heap.size; omega)).trans c2
    have HDX := hid (HD.out.below hb6)
    obtain ⟨A, cap, hblk, _, _⟩ := (HDX.out.at_ n f hf).2
    have cf := hblk.cell 0
    have cs := hblk.cell 1
    simp at cf cs
    have HF := hid hf
    have HREN := hid hren
    have HB6 := hid hb6
    have HS6 := hid hs6
    have HW6 := hid hw6
    obtain ⟨q, hq⟩ : ∃ q, q = f.b.length := ⟨_, rfl⟩
    rw [← hq] at cf
    have HQ := hid hq
    have hdlt : d < w.heap.size := HD.out.lt d HD.out.mem.1
    have hMlt : M < w.heap.size := HD.out.lt M HD.out.mem.2.1
    clear hf hfile hb6 hs6 hw6 hq hren hr0 h0 hblk e1 HRF c0 c1 c2
    by_cases hsy : f.s < q
    · have q1 : decide ((f.s : Int) < (q : Int)) = true := by simpa using hsy
      have hsy' : (f.s : Int) < (q : Int) := by omega
      go_wp2_with fail
      rw [← HW6.out]
      go_quiet (fail)
      go_wp2_with fail
      refine (done_err HD.out HW.out (w1 := w6.drewN _) (below_drewN HB6.out _) hfu 92 _ HE.out 10 (by decide)).mono ?_
      rintro e w7 ⟨y, rfl, hdid⟩
      go_wp2_with fail
      go_ret
      rw [HREN.out, if_pos (by rw [← HQ.out]; exact hsy)]
      exact hdid
    · have q1 : decide ((f.s : Int) < (q : Int)) = false := by simpa using hsy
      have hsy' : ¬ (f.s : Int) < (q : Int) := by omega
      go_wp2_with fail
      rw [← HW6.out]
      go_quiet (fail)
      go_wp2_with fail
      refine (done_any HD.out HW.out (w1 := w6.drewN _) (put (del D.fs n) m f) (below_drewN HB6.out _) hfu 92 #[.pointer (some ⟨w.heap.size, 0, none⟩), .pointer (some ⟨w.heap.size + 1, 0, none⟩), .pointer (some ⟨w.heap.size + 1 + 1, 0, none⟩), .pointer (some ⟨w5.heap.size, 0, none⟩)] HE.out (fun w7 hD7 ht7 hs7 => ?_)).mono ?_
      · have h5 := HS5.out
        have h6 := HS6.out
        have h7 : w7.heap.size = w6.heap.size := hs7
        exact rename1_any hD7 HW.out.rises hlen n m hl hlm HF.out w.heap.size (w.heap.size + 1) (w.heap.size + 1 + 1) w5.heap.size ((ht7.cell (p := ⟨w.heap.size, 0, none⟩) (by show w.heap.size < w6.heap.size; omega) (by simp; omega)).trans f0) (by rw [HSB.out]; exact (ht7.cell (p := ⟨w.heap.size + 1, 0, none⟩) (by show w.heap.size + 1 < w6.heap.size; omega) (by simp; omega)).trans f1)
          (by rw [HSM.out]; exact (ht7.cell (p := ⟨w.heap.size + 1 + 1, 0, none⟩) (by show w.heap.size + 1 + 1 < w6.heap.size; omega) (by simp; omega)).trans f2) ((ht7.cell (p := ⟨w5.heap.size, 0, none⟩) (by show w5.heap.size < w6.heap.size; omega) (by simp; omega)).trans k6) ⟨by omega, by omega, by omega⟩ ⟨by omega, by omega, by omega⟩
      · rintro e w8 ⟨y, rfl, hdid⟩
        go_wp2_with fail
        go_ret
        rw [HREN.out, if_neg (by rw [← HQ.out]; exact hsy)]
        by_cases e : n = m
        · subst e
          rw [put_del HW.out.rises HF.out] at hdid
          rw [if_pos rfl]
          exact hdid
        · rw [if_neg e]
          exact hdid
  · have HREN := hid (HRF.out.1 h0)
    have f0 : (w5.alloc (.cells #[.pointer none] 85)).cell? ⟨w.heap.size, 0, none⟩ = some (ptr d) :=
      (World.cell?_alloc_lt w5 _ ⟨w.heap.size, 0, none⟩ (by have := HS5.out; show w.heap.size < w5.heap.size; omega)).trans c0
    rcases found_ne h0 with hr | hr | hr
    · rw [hr] at HREN ⊢
      have e1 : fptr (gb n) 9 = .pointer none := rfl
      rw [e1]
      clear h0 hr e1 HRF
      go_wp2_with fail
      go_quiet (fail)
      go_wp2_with fail
      refine (done_err HD.out HW.out ?_ hfu 92 _ HE.out 9 (by decide)).mono ?_
      · exact below_drewN (HB5.out.alloc HB5.out.size _) _
      rintro e w7 ⟨y, rfl, hdid⟩
      go_wp2_with fail
      go_ret
      rw [HREN.out]
      exact hdid
    · rw [hr] at HREN ⊢
      have e1 : fptr (gb n) 2 = .pointer none := rfl
      rw [e1]
      clear h0 hr e1 HRF
      go_wp2_with fail
      go_quiet (fail)
      go_wp2_with fail
      refine (done_err HD.out HW.out ?_ hfu 92 _ HE.out 2 (by decide)).mono ?_
      · exact below_drewN (HB5.out.alloc HB5.out.size _) _
      rintro e w7 ⟨y, rfl, hdid⟩
      go_wp2_with fail
      go_ret
      rw [HREN.out]
      exact hdid
    · rw [hr] at HREN ⊢
      have e1 : fptr (gb n) 6 = .pointer none := rfl
      rw [e1]
      clear h0 hr e1 HRF
      go_wp2_with fail
      go_quiet (fail)
      go_wp2_with fail
      refine (done_err HD.out HW.out ?_ hfu 92 _ HE.out 6 (by decide)).mono ?_
      · exact below_drewN (HB5.out.alloc HB5.out.size _) _
      rintro e w7 ⟨y, rfl, hdid⟩
      go_wp2_with fail
      go_ret
      rw [HREN.out]
      exact hdid
end
end Go.Proofs.YtpckloafdlkefaaGreat
namespace Go.Proofs.YtpckloafdlkefaaGreat.Dsk
set_option maxRecDepth 40000

/-- The files behind a crash of the first k. -/
def fsK : Fs → List Int → Nat → Fs
  | [], _, _ => []
  | x :: r, _, 0 => x :: r
  | (n, f) :: r, l, k + 1 => (n, cutFil f (l.headD 0)) :: fsK r l.tail k
theorem fsK_zero (fs : Fs) (l : List Int) : fsK fs l 0 = fs := by cases fs <;> rfl
theorem fsK_all : ∀ (fs : Fs) (l : List Int) (k : Nat), fs.length ≤ k → fsK fs l k = crashFs fs l
  | [], _, _, _ => rfl
  | (n, f) :: r, l, 0, h => by simp at h
  | (n, f) :: r, l, k + 1, h => by
    simp only [fsK, crashFs]
    rw [fsK_all r l.tail k (by simpa using h)]
theorem fsK_names : ∀ (fs : Fs) (l : List Int) (k : Nat), (fsK fs l k).map (·.1) = fs.map (·.1)
  | [], _, _ => rfl
  | x :: r, l, 0 => rfl
  | (n, f) :: r, l, k + 1 => by simp only [fsK, List.map_cons, fsK_names r l.tail k]
theorem rises_names {fs gs : Fs} (h : fs.map (·.1) = gs.map (·.1)) (hr : Rises gs) : Rises fs := by
  induction fs generalizing gs with
  | nil => trivial
  | cons x r ih =>
    cases gs with
    | nil => cases h
    | cons y s =>
      obtain ⟨n, f⟩ := x
      obtain ⟨m, g⟩ := y
      simp only [List.map_cons, List.cons.injEq] at h
      obtain ⟨rfl, h⟩ := h
      refine ⟨fun z hz => ?_, ih h hr.2⟩
      have : z.1 ∈ s.map (·.1) := by rw [← h]; exact List.mem_map_of_mem hz
      obtain ⟨u, hu, e⟩ := List.mem_map.1 this
      rw [← e]
      exact hr.1 u hu
theorem fsK_rises {fs : Fs} (hr : Rises fs) (l : List Int) (k : Nat) : Rises (fsK fs l k) := rises_names (fsK_names fs l k) hr
theorem headD_getD (l : List Int) : l.headD 0 = l.getD 0 0 := by cases l <;> rfl
theorem tail_getD (l : List Int) (k : Nat) : l.tail.getD k 0 = l.getD (k + 1) 0 := by cases l <;> simp
theorem put_head {n : Nm} {f g : Fil} {r : Fs} : put ((n, f) :: r) n g = (n, g) :: r := by
  simp [put, nlt_irrefl]
/-- One more file. -/
theorem fsK_step : ∀ {fs : Fs} (_ : Rises fs) (l : List Int) {k : Nat} {n : Nm} {f : Fil}, fs[k]? = some (n, f) → fsK fs l (k + 1) = put (fsK fs l k) n (cutFil f (l.getD k 0)) ∧ get (fsK fs l k) n = some f
  | [], _, _, _, _, _, h => by simp at h
  | (m, g) :: r, hr, l, 0, n, f, h => by
    simp at h
    obtain ⟨rfl, rfl⟩ := h
    simp only [fsK, fsK_zero]
    rw [put_head, headD_getD]
    exact ⟨rfl, by simp [get]⟩
  | (m, g) :: r, hr, l, k + 1, n, f, h => by
    have h1 : r[k]? = some (n, f) := by simpa using h
    obtain ⟨i1, i2⟩ := fsK_step hr.2 l.tail h1
    have hm : nlt m n = true := hr.1 (n, f) (List.mem_of_getElem? h1)
    have hne : m ≠ n := by rintro rfl; rw [nlt_irrefl] at hm; cases hm
    have hnm : ¬ nlt n m = true := fun h2 => by have := nlt_trans hm h2; rw [nlt_irrefl] at this; cases this
    constructor
    · show (m, cutFil g (l.headD 0)) :: fsK r l.tail (k + 1) = put ((m, cutFil g (l.headD 0)) :: fsK r l.tail k) n _
      simp only [put]
      rw [if_neg hnm, if_neg hne, i1, tail_getD]
    · show get ((m, cutFil g (l.headD 0)) :: fsK r l.tail k) n = _
      simp only [get]
      rw [if_neg hne]
      exact i2
end Go.Proofs.YtpckloafdlkefaaGreat.Dsk
namespace Go.Proofs.YtpckloafdlkefaaGreat
set_option maxRecDepth 40000
open Go.RowKit Go.Maps Go.Shelf Dsk

def isNeg : Value → Bool
  | .int _ z => decide (z < 0)
  | _ => false
theorem any_neg (l : List Int) : (I l).any isNeg = l.any fun x => decide (x < 0) := by
  induction l with
  | nil => rfl
  | cons c r ih =>
    have : I (c :: r) = .int .i64 c :: I r := rfl
    rw [this, List.any_cons, List.any_cons, ih]
    rfl
theorem neg_any (z : Int) (W : World) : Calls Tryz.prog 43 #[.int .i64 z] W fun e w' => e = .returned (.bool (isNeg (.int .i64 z))) ∧ Below W.heap.size W w' := by
  go_enter Tryz.func43, Tryz.ntmps43
  go_wp2
  go_ret
  exact ⟨rfl, Below.refl _ _⟩
section
variable {w : World} {d M : Nat} {Dm : DataW Unit} {gb : Nm → Nat} {hb : Nm → Option Nat} {F : List Nat} {D : Dk}
/-- The disk while a crash goes through its files. -/
def Goes (w wr : World) (d M : Nat) (Dm : DataW Unit) (gb : Nm → Nat) (F : List Nat) (D : Dk) (l : List Int) (k : Nat) : Prop :=
  ∃ hb F', DM wr d M Dm gb hb F' { D with fs := fsK D.fs l k } ∧ Touch w wr F ∧ ∀ y ∈ F', y ∈ F
theorem Goes.step {wr w' : World} {l : List Int} {k : Nat} {n : Nm} {f : Fil} {hb' : Nm → Option Nat} {F' : List Nat} (h : DM wr d M Dm gb hb' F' { D with fs := fsK D.fs l k }) (ht : Touch w wr F) (hF : ∀ y ∈ F', y ∈ F) (hr : Rises D.fs) (hk : D.fs[k]? = some (n, f))
    (hf : FileAt w' (gb n) (hb' n) (cutFil f (l.getD k 0))) (htw : Touch wr w' [gb n]) : Goes w w' d M Dm gb F D l (k + 1) := by
  obtain ⟨h1, h2⟩ := fsK_step hr l hk
  have hw := h.write (fsK_rises hr l k) h2 (htw.mono (F' := gb n :: (hb' n).toList) (fun i _ hi => by rw [List.mem_singleton.1 hi]; simp)) hf (fun x hx => .inl hx)
  unfold Goes
  rw [h1]
  refine ⟨_, _, hw, ht.then htw (fun i _ hi => by rw [List.mem_singleton.1 hi]; exact hF _ (h.mem.2.2 n f h2).1), ?_⟩
  intro y hy
  rcases List.mem_append.1 hy with hy | hy
  · exact hF y hy
  · exact hF y ((h.mem.2.2 n f h2).2 y (by simpa using hy))
theorem cut_fil (f : Fil) (x : Int) (hs : f.s ≤ f.b.length) : (f.s + x.toNat % (f.b.length - f.s + 1) ≤ f.b.length) ∧ cutFil f x = ⟨f.b.take (f.s + x.toNat % (f.b.length - f.s + 1)), f.s + x.toNat % (f.b.length - f.s + 1)⟩ := by
  have hmod : x.toNat % (f.b.length - f.s + 1) < f.b.length - f.s + 1 := Nat.mod_lt _ (by omega)
  exact ⟨by omega, rfl⟩
theorem tmod_nat (x : Int) (s q : Nat) (hx : 0 ≤ x) (hs : s ≤ q) : x.tmod ((q : Int) - (s : Int) + 1) = ((x.toNat % (q - s + 1) : Nat) : Int) := by
  obtain ⟨n, rfl⟩ := Int.eq_ofNat_of_zero_le hx
  have e : (q : Int) - (s : Int) + 1 = ((q - s + 1 : Nat) : Int) := by omega
  have e2 : ((n : Nat) : Int).toNat = n := by simp
  rw [e, e2, Int.ofNat_tmod]
set_option maxHeartbeats 4000000 in
set_option maxRecDepth 20000 in
theorem crash_m (h : DM w d M Dm gb hb F D) (hw : Whole D) (hlen : D.fs.length < 1000000) (H : Nat) (A : Option Addr) (len cap : Nat) (l : List Int) (harg : Arg w F H A len cap (I l)) (hwf : ∀ x ∈ l, (Lit.int .i64 x).wf = true) :
    Calls Tryz.prog 16 #[ptr d, .slice A len cap] w fun e w' => Did0 w d F (dCrash D l) e w' := by
  obtain ⟨lo, hR, hH, hFR, hA, hlc, hcm⟩ := harg
  have hll : l.length = len := by have := hR.len; rwa [I_len] at this
  have W1 := hid (unmade_any h)
  have hmx : len ≤ 9223372036854775807 := by unfold maxLen at hcm; omega
  have W2 := hid (contains_int 43 A len cap lo H (I l) isNeg w hR hH hmx (enters_of Tryz.func43 (by kernel_rfl) rfl) (by
    intro k u hu W hb
    obtain ⟨hk, rfl⟩ := List.getElem?_eq_some_iff.1 hu
    have hk' : k < l.length := by rwa [I_len] at hk
    have : (I l)[k] = .int .i64 l[k] := by simp [I]
    rw [this]
    exact neg_any _ W))
  rw [any_neg] at W2
  have HD := hid h
  have HW := hid hw
  have HR := hid hR
  have HLL := hid hll
  have HWF := hid hwf
  clear h hw hR hll hwf hA hcm
  cases hneg : l.any (fun x => decide (x < 0)) with
  | true =>
    rw [hneg] at W2
    go_enter Tryz.func16, Tryz.ntmps16
    go_wp2_with fail
    refine W1.out.mono ?_
    rintro e w1 ⟨rfl, rfl⟩
    go_wp2_with fail
    refine W2.out.mono ?_
    rintro e w2 ⟨rfl, hb2⟩
    go_wp2_with fail
    go_ret
    unfold dCrash
    rw [if_pos hneg]
    exact ⟨rfl, F, ⟨_, _, _, _, HD.out.below hb2⟩, touch_below hb2 _, fun _ h => .inl h⟩
  | false =>
    rw [hneg] at W2
    have hnn : ∀ x ∈ l, 0 ≤ x := by
      intro x hx
      have := List.any_eq_false.1 hneg x hx
      simpa using this
    have HNN := hid hnn
    have HNEG := hid hneg
    clear hnn hneg
    go_enter Tryz.func16, Tryz.ntmps16
    go_wp2_with fail
    refine W1.out.mono ?_
    rintro e w1 ⟨rfl, rfl⟩
    go_wp2_with fail
    refine W2.out.mono ?_
    rintro e w2 ⟨rfl, hb2⟩
    have W3 := hid (names_m (HD.out.below hb2) HW.out hlen)
    have HB2 := hid hb2
    clear hb2
    go_wp2_with fail
    refine W3.out.mono ?_
    rintro e w3 ⟨v, rfl, A3, n3, c3, rfl, hR3, _, _, _, hb3⟩
    have HB3 := hid (HB2.out.trans (hb3.mono HB2.out.size))
    have HR3 := hid hR3
    have HS2 := hid HB2.out.size
    have hn3 : n3 = D.fs.length := by have := hR3.len; rw [List.length_map] at this; exact this.symm
    have HN3 := hid hn3
    have hn3' : n3 < 1000000 := by omega
    clear hb3 hR3 hn3
    go_wp2_with fail
    go_loopw [16] (fun i wr => ∃ k : Nat, k ≤ n3 ∧ i = .int .i64 k ∧ Touch w3 wr F ∧ Goes w1 wr d M Dm gb F D l k) (fun i _ => n3 - (intOf i).toNat)
    case atStart =>
      refine ⟨0, Nat.zero_le _, rfl, Touch.refl _ _, hb, F, ?_, touch_below HB3.out F, fun _ h => h⟩
      rw [fsK_zero]
      exact HD.out.below HB3.out
    case round =>
      obtain ⟨k, hk, rfl, ht3, hb', F', hDk, htk, hFk⟩ := hrel
      by_cases hlt : k < n3
      · have hkl : k < D.fs.length := by rw [← HN3.out]; exact hlt
        obtain ⟨nf, hnf⟩ : ∃ nf, D.fs[k]? = some nf := ⟨_, List.getElem?_eq_getElem hkl⟩
        obtain ⟨n, f⟩ := nf
        have hFlt : ∀ i ∈ F, i < w1.heap.size := HD.out.lt
        obtain ⟨b, off, u, rfl, _, _, hu, hcu⟩ := (HR3.out.touch ht3 (Nat.le_refl _) (fun i hi => by have := hFlt i hi; have := HS2.out; omega)).at_ hlt
        obtain rfl : u = S n := by
          have : (D.fs.map fun x => S x.1)[k]? = some (S n) := by simp [hnf]
          rw [this] at hu
          injection hu with hu
          exact hu.symm
        have hstep := fsK_step HW.out.rises l hnf
        have hmem : (n, f) ∈ D.fs := List.mem_of_getElem? hnf
        have hnl : n.length ≤ 1000 := by
          have h1 := HW.out.names _ hmem
          simp [okN] at h1
          omega
        have hlk := (hDk.look n hnl false).1 f hstep.2
        rw [if_neg (by decide)] at hlk
        have hsy : f.s ≤ f.b.length := HW.out.synced _ hmem
        have hrm : f.b.length ≤ 1099511627776 := file_room HW.out (get_of_mem HW.out.rises hmem)
        obtain ⟨Af, cf, hblk, hrow, hAf⟩ := (hDk.at_ n f hstep.2).2
        have cb := hblk.cell 0
        have csy := hblk.cell 1
        have cd := hDk.blk.cell 0
        simp at cb csy cd
        have HFA := hid (hDk.at_ n f hstep.2).2
        have HDK := hid hDk
        have HTK := hid htk
        have HFK := hid hFk
        have HT3 := hid ht3
        have HNF := hid hnf
        have HSY := hid hsy
        have HRM := hid hrm
        clear hDk htk hFk ht3 hstep hmem hblk hrow hAf hnf
        obtain ⟨sb, hsb⟩ : ∃ sb, S n = .string sb := ⟨_, rfl⟩
        rw [hsb] at hcu hlk hu
        clear hu hsb
        by_cases hkk : k < len
        · have hkl2 : k < l.length := by rw [HLL.out]; exact hkk
          obtain ⟨b2, off2, u2, rfl, _, _, hu2, hc2⟩ := (HR.out.touch HTK.out hH hFR).at_ hkk
          rw [I_get l k hkl2] at hu2
          injection hu2 with hu2
          subst hu2
          have hget : l.getD k 0 = l[k] := by rw [List.getD_eq_getElem?_getD, List.getElem?_eq_getElem hkl2]; rfl
          have hx0 : 0 ≤ l[k] := HNN.out _ (List.getElem_mem hkl2)
          have hxw := wf_i64 (HWF.out _ (List.getElem_mem hkl2))
          obtain ⟨x, hx⟩ : ∃ x, x = l[k] := ⟨_, rfl⟩
          rw [← hx] at hc2 hx0 hxw hget
          clear hx
          have hcut := cut_fil f x HSY.out
          obtain ⟨q, hq⟩ : ∃ q, q = f.b.length := ⟨_, rfl⟩
          obtain ⟨s, hs⟩ : ∃ s, s = f.s := ⟨_, rfl⟩
          have hrem := tmod_nat x f.s f.b.length hx0 HSY.out
          have hsy2 := HSY.out
          have hrm2 := HRM.out
          rw [← hq, ← hs] at hcut hrem hsy2
          rw [← hq] at hrm2 cb
          rw [← hs] at csy
          obtain ⟨r, hr⟩ : ∃ r, r = x.toNat % (q - s + 1) := ⟨_, rfl⟩
          rw [← hr] at hcut hrem
          have HHR := hid hr
          have W4 := hid (keep_any (w := wr.drew) (HFA.out.touch (touch_drew wr []) (by simp) (by simp)) (s + r) (by rw [← hq]; exact hcut.1) HRM.out)
          have hcf : cutFil f (l.getD k 0) = ⟨f.b.take (s + r), s + r⟩ := by rw [hget, hcut.2]
          have HCF := hid hcf
          have hle := hcut.1
          have o1 : IntKind.i64.wrap ((q : Int) - (s : Int)) = (q : Int) - (s : Int) := by simp [IntKind.wrap, IntKind.bits, IntKind.signed]; omega
          have o2 : IntKind.i64.wrap ((q : Int) - (s : Int) + 1) = (q : Int) - (s : Int) + 1 := by simp [IntKind.wrap, IntKind.bits, IntKind.signed]; omega
          have o3 : IntKind.i64.wrap (r : Int) = (r : Int) := by simp [IntKind.wrap, IntKind.bits, IntKind.signed]; omega
          have o4 : IntKind.i64.wrap ((s : Int) + (r : Int)) = (s : Int) + (r : Int) := by simp [IntKind.wrap, IntKind.bits, IntKind.signed]; omega
          have o5 : ¬ ((q : Int) - (s : Int) + 1 = 0) := by omega
          have e4 : ((s + r : Nat) : Int) = (s : Int) + (r : Int) := by omega
          rw [e4] at W4
          have HQ := hid hq
          have HS := hid hs
          clear hcf hcut hget hq hs hr e4
          go_wp2_with fail
          go_region
          go_wp2_with fail
          refine W4.out.mono ?_
          rintro e w5 ⟨rfl, hf5, ht5⟩
          have ht6 : Touch wr w5 [gb n] := (touch_drew wr [gb n]).then ht5 (fun _ _ h => h)
          go_wp2_with fail
          go_roundw
          case rel =>
            refine ⟨k + 1, by omega, by go_num, HT3.out.then ht6 (fun i _ hi => by rw [List.mem_singleton.1 hi]; exact HFK.out _ (HDK.out.mem.2.2 n f (fsK_step HW.out.rises l HNF.out).2).1), ?_⟩
            exact Goes.step HDK.out HTK.out HFK.out HW.out.rises HNF.out (by rw [HCF.out]; exact hf5) ht6
          case measure => simp [intOf]; omega
        · have hget : l.getD k 0 = 0 := by rw [List.getD_eq_getElem?_getD, List.getElem?_eq_none (by rw [HLL.out]; omega)]; rfl
          have hcut := cut_fil f 0 HSY.out
          have W4 := hid (keep_any HFA.out f.s HSY.out HRM.out)
          have hcf : cutFil f (l.getD k 0) = ⟨f.b.take f.s, f.s⟩ := by rw [hget, hcut.2]; simp
          have HCF := hid hcf
          have hwr : IntKind.i64.wrap ((f.s : Int) + 0) = (f.s : Int) := by simp [IntKind.wrap, IntKind.bits, IntKind.signed]; omega
          clear hcf hcut hget
          go_wp2_with fail
          refine W4.out.mono ?_
          rintro e w5 ⟨rfl, hf5, ht5⟩
          go_wp2_with fail
          go_roundw
          case rel =>
            refine ⟨k + 1, by omega, by go_num, HT3.out.then ht5 (fun i _ hi => by rw [List.mem_singleton.1 hi]; exact HFK.out _ (HDK.out.mem.2.2 n f (fsK_step HW.out.rises l HNF.out).2).1), ?_⟩
            exact Goes.step HDK.out HTK.out HFK.out HW.out.rises HNF.out (by rw [HCF.out]; exact hf5) ht5
          case measure => simp [intOf]; omega
      · obtain rfl : k = n3 := by omega
        have cz := hDk.blk.frozen 2
        have cz3 := hDk.blk.frozen 3
        have c2 := hDk.blk.cell 2
        have c3 := hDk.blk.cell 3
        simp at c2 c3
        have HDK := hid hDk
        have HTK := hid htk
        have HFK := hid hFk
        clear hDk htk hFk ht3
        go_wp2_with fail
        go_ret
        have hts : Touch wr ((wr.setCell ⟨d, 3, none⟩ (.bool false)).setCell ⟨d, 2, none⟩ (.int .i64 (-1))) [d] := touch_grown (only_set (only_set (World.grownBy.refl _ _) 3 _) 2 _) (by simp)
        have hset := HDK.out.set (fu := -1) (off := false) hts (by
          have h1 := (HDK.out.blk.set 3 (.bool false)).set 2 (.int .i64 (-1))
          simpa using h1)
        unfold dCrash
        rw [if_neg (by rw [HNEG.out]; decide)]
        rw [fsK_all D.fs l k (by rw [← HN3.out]; exact Nat.le_refl _)] at hset
        exact ⟨rfl, F', ⟨_, _, _, _, hset⟩, HTK.out.then hts (fun i _ hi => by rw [List.mem_singleton.1 hi]; exact HFK.out d HDK.out.mem.1), fun y hy => .inl (HFK.out y hy)⟩
end
end Go.Proofs.YtpckloafdlkefaaGreat
