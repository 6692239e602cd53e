/-
  Contracts: what stays of a file; Cut; Read.
  Contracts: Read and Names.
  Contract: Names, rising.
  Contract: Rename.
  Contract: Rename, whole.
  A crash, file by file: plain words.
  Contract: Crash.
-/
import Derived.Test.YtchimkkpjdbdpaaDiskB
import Derived.Test.YtchimkkpjdbdpaaDiskActs
namespace Go.Proofs.Ytchimkkpjdbdpaa
set_option maxRecDepth 40000
open Go.RowKit Go.Maps Go.Shelf Dsk

/-- The first bytes of a row of one's own. -/
theorem own_take {w : World} {base : Nat} {e : TypeId} {A : Option Addr} {cap n k : Nat} {xs : List Value} (h : w.ownsRow base e 1 (.slice A n cap) n xs) (hk : k ≤ n) : w.ownsRow base e 1 (.slice A k cap) k (xs.take k) := by
  obtain ⟨h1, h2⟩ := h
  refine ⟨by rw [List.length_take, h1]; omega, ?_⟩
  rcases h2 with ⟨h2, rfl⟩ | ⟨g, cap', cur, e1, h3, h4, h5, h6, h7, h8⟩
  · obtain rfl : k = 0 := by omega
    exact .inl ⟨h2, rfl⟩
  · injection e1 with e1 _ e3
    subst e1 e3
    refine .inr ⟨g, cap, cur, rfl, h3, h4, by omega, h6, h7, ?_⟩
    rw [← h8, List.take_take]
    congr 1
    omega
section
variable {w : World} {d M : Nat} {Dm : DataW Unit} {gb : Nm → Nat} {hb : Nm → Option Nat} {F : List Nat} {D : Dk}
set_option maxHeartbeats 1000000 in
theorem keep_any {g : Nat} {x : Option Nat} {f : Fil} (hf : FileAt w g x f) (k : Nat) (hk : k ≤ f.b.length) (hlen : f.b.length ≤ 1099511627776) :
    Calls Try.prog 60 #[ptr g, .int .i64 (k : Int)] w fun e w' => e = .returned (.tuple #[]) ∧ FileAt w' g x ⟨f.b.take k, k⟩ ∧ Touch w w' [g] := by
  obtain ⟨A, cap, hblk, hown, hx⟩ := hf
  have c0 := hblk.cell 0
  have c1 := hblk.cell 1
  simp at c0 c1
  have hz0 := hblk.frozen 0
  have hz1 := hblk.frozen 1
  have hcap := own_cap hown
  have HB := hid hblk
  have HO := hid (own_take hown hk)
  have HX := hid hx
  have hA : A = none → cap = 0 := by
    obtain ⟨A', c', e, h1, _⟩ := own_shape hown
    injection e with e1 _ e3
    subst e1 e3
    exact h1
  clear hblk hown hx
  obtain ⟨m, hm⟩ : ∃ m, m = f.b.length := ⟨_, rfl⟩
  rw [← hm] at c0 hk hlen hcap
  have HM := hid hm
  clear hm
  have hk0 : (0 : Int) ≤ (k : Int) := Int.natCast_nonneg _
  have hkc : (k : Int) ≤ (cap : Int) := by omega
  have hw : IntKind.i64.wrap (k : Int) = k := by simp [IntKind.wrap, IntKind.bits, IntKind.signed]; omega
  go_enter Try.func60, Try.ntmps60
  go_wp2_with fail
  go_end0
  have hts : Touch w ((w.setCell ⟨g, 0, none⟩ (.slice A k cap)).setCell ⟨g, 1, none⟩ (.int .i64 (k : Int))) [g] := touch_grown (only_set (only_set (World.grownBy.refl _ _) 0 _) 1 _) (by simp)
  have hl : (f.b.take k).length = k := by rw [List.length_take, ← HM.out]; omega
  refine ⟨rfl, ⟨A, cap, ?_, ?_, HX.out⟩, hts⟩
  · have h1 := (HB.out.set 0 (.slice A k cap)).set 1 (.int .i64 (k : Int))
    simp at h1
    simp only [hl]
    exact h1
  · simp only [hl, ← U_take]
    refine own_touch HO.out hts ?_
    intro y hy e
    obtain ⟨cur, hc⟩ := own_lt HO.out hy
    rw [List.mem_singleton.1 e] at hc
    exact ne_of_type HB.out hc (by decide) rfl
theorem cut1_any {g bf bn : Nat} {x : Option Nat} {f : Fil} (hf : FileAt w g x f) (k : Nat) (hk : k ≤ f.b.length) (hlen : f.b.length ≤ 1099511627776) (h1 : w.cell? ⟨bf, 0, none⟩ = some (ptr g)) (h2 : w.cell? ⟨bn, 0, none⟩ = some (.int .i64 (k : Int))) :
    Calls Try.prog 59 #[.pointer (some ⟨bf, 0, none⟩), .pointer (some ⟨bn, 0, none⟩)] w fun e w' => e = .returned (.tuple #[]) ∧ FileAt w' g x ⟨f.b.take k, k⟩ ∧ Touch w w' [g] := by
  have W1 := hid (keep_any hf k hk hlen)
  clear hf hk hlen
  go_enter Try.func59, Try.ntmps59
  go_wp2_with fail
  refine W1.out.mono ?_
  rintro e w1 ⟨rfl, h3, h4⟩
  go_wp2_with fail
  go_end0
  exact ⟨rfl, h3, h4⟩
/-- A file is no longer than the room. -/
theorem file_room (hw : Whole D) {n : Nm} {f : Fil} (hn : get D.fs n = some f) : f.b.length ≤ 1099511627776 := by
  have e5 := used_del (fs := D.fs) n
  rw [hn] at e5
  have h1 := hw.room
  have h2 := hw.top
  simp at e5
  omega
set_option maxHeartbeats 4000000 in
set_option maxRecDepth 20000 in
theorem cut_m (h : DM w d M Dm gb hb F D) (hw : Whole D) (hfu : D.fuse ≤ 9223372036854775807) (n : Nm) (k : Int) (hl : n.length ≤ 1000) :
    Calls Try.prog 29 #[ptr d, S n, .int .i64 k] w fun e w' => Did0 w d F (dCut D n k) e w' := by
  obtain ⟨w2, hw2⟩ : ∃ w2, w2 = w.alloc (.cells #[.int .i64 k] 2) := ⟨_, rfl⟩
  have hb2 : Below w.heap.size w w2 := by rw [hw2]; exact (Below.refl _ w).alloc (Nat.le_refl _) _
  have hs2 : w2.heap.size = w.heap.size + 1 := by rw [hw2]; simp
  have k0 : w2.cell? ⟨w.heap.size, 0, none⟩ = some (.int .i64 k) := by
    rw [hw2]
    exact (Blk.new w 2 #[.int .i64 k]).cell 0
  have W1 := hid (find_nil (h.below hb2) n hl)
  have HD := hid h
  have HW := hid hw
  generalize hs : S n = s at *
  have HW2 := hid hw2
  have HB2 := hid hb2
  have HS2 := hid hs2
  clear h hw hs hw2 hb2 hs2
  have HE := hid (enters_of Try.func59 (by kernel_rfl) rfl)
  go_enter Try.func29, Try.ntmps29
  go_wp2_with fail
  rw [← HW2.out]
  refine W1.out.mono ?_
  rintro e w3 ⟨rfl, hb3⟩
  have c0 := (hb3.cell (p := ⟨w.heap.size, 0, none⟩) (by have := HS2.out; show w.heap.size < _; omega)).trans k0
  have HB3 := hid (HB2.out.trans (hb3.mono (by have := HS2.out; omega)))
  have HS3 : Hid (w.heap.size + 1 ≤ w3.heap.size) := hid (by have := HS2.out; have := hb3.size; omega)
  clear hb3 k0
  by_cases h0 : ready D n = 0
  · obtain ⟨_, _, f, hf, hfile⟩ := ready_zero h0
    rw [h0]
    have HR0 := hid h0
    clear h0
    have e1 : fptr (gb n) 0 = ptr (gb n) := rfl
    rw [e1]
    obtain ⟨w4, hw4⟩ : ∃ w4, w4 = w3.alloc (.cells #[ptr (gb n)] 77) := ⟨_, rfl⟩
    have hb4 : Below w.heap.size w w4 := by rw [hw4]; exact HB3.out.alloc HB3.out.size _
    have hs4 : w4.heap.size = w3.heap.size + 1 := by rw [hw4]; simp
    have k4 : w4.cell? ⟨w3.heap.size, 0, none⟩ = some (ptr (gb n)) := by
      rw [hw4]
      exact (Blk.new w3 77 #[ptr (gb n)]).cell 0
    have k5 : w4.cell? ⟨w.heap.size, 0, none⟩ = some (.int .i64 k) := by
      rw [hw4]
      exact (World.cell?_alloc_lt w3 _ ⟨w.heap.size, 0, none⟩ (by have := HS3.out; show w.heap.size < w3.heap.size; omega)).trans c0
    have HDX := hid (HD.out.below hb4)
    obtain ⟨A, cap, hblk, _, _⟩ := (HDX.out.at_ n f hf).2
    have cf := hblk.cell 0
    simp at cf
    clear hblk
    have HF := hid hf
    have HFI := hid hfile
    have HB4 := hid hb4
    have HS4 := hid hs4
    have HW4 := hid hw4
    obtain ⟨m, hm⟩ : ∃ m, m = f.b.length := ⟨_, rfl⟩
    rw [← hm] at cf
    have HM := hid hm
    clear hf hfile hb4 hs4 hw4 hm
    have hdlt : d < w.heap.size := HD.out.lt d HD.out.mem.1
    by_cases hk : k < 0
    · have q1 : decide (k < 0) = true := by simpa using hk
      go_wp2_with fail
      rw [← HW4.out]
      go_quiet (fail)
      go_wp2_with fail
      refine (done_err HD.out HW.out (w1 := w4.drewN _) (below_drewN HB4.out _) hfu 59 _ HE.out 2 (by decide)).mono ?_
      rintro e w5 ⟨y, rfl, hdid⟩
      go_wp2_with fail
      go_ret
      unfold dCut
      rw [if_neg (by simp [HR0.out]), HFI.out, if_pos (.inl hk)]
      exact hdid
    · have q1 : decide (k < 0) = false := by simpa using hk
      by_cases hk2 : (m : Int) < k
      · have q2 : decide ((m : Int) < k) = true := by simpa using hk2
        go_wp2_with fail
        rw [← HW4.out]
        go_quiet (fail)
        go_wp2_with fail
        refine (done_err HD.out HW.out (w1 := w4.drewN _) (below_drewN HB4.out _) hfu 59 _ HE.out 2 (by decide)).mono ?_
        rintro e w5 ⟨y, rfl, hdid⟩
        go_wp2_with fail
        go_ret
        unfold dCut
        rw [if_neg (by simp [HR0.out]), HFI.out, if_pos (.inr (by rw [← HM.out]; exact hk2))]
        exact hdid
      · have q2 : decide ((m : Int) < k) = false := by simpa using hk2
        go_wp2_with fail
        rw [← HW4.out]
        go_quiet (fail)
        go_wp2_with fail
        refine (done_file HD.out HW.out n HF.out (w1 := w4.drewN _) (f' := ⟨f.b.take k.toNat, k.toNat⟩) (below_drewN HB4.out _) hfu 59 #[.pointer (some ⟨w3.heap.size, 0, none⟩), .pointer (some ⟨w.heap.size, 0, none⟩)] HE.out (fun w5 hD5 ht5 _ => ?_)).mono ?_
        · have hs := HB3.out.size
          refine (cut1_any (hD5.at_ n f HF.out).2 k.toNat (by have := HM.out; omega) (file_room HW.out HF.out) ((ht5.cell (p := ⟨w3.heap.size, 0, none⟩) (by have := HS4.out; show w3.heap.size < w4.heap.size; omega) (by simp; omega)).trans k4) (by
            rw [show ((k.toNat : Nat) : Int) = k by omega]
            exact (ht5.cell (p := ⟨w.heap.size, 0, none⟩) (by have := HS4.out; show w.heap.size < w4.heap.size; omega) (by simp; omega)).trans k5)).mono ?_
          rintro e w6 ⟨rfl, hf6, ht6⟩
          exact ⟨rfl, hb n, hf6, ht6.mono (fun i _ hi => by simp at hi; simp [hi]), fun x hx => .inl hx⟩
        · rintro e w6 ⟨y, rfl, hdid⟩
          go_wp2_with fail
          go_ret
          unfold dCut
          rw [if_neg (by simp [HR0.out]), HFI.out, if_neg (by rw [← HM.out]; omega)]
          exact hdid
  · rcases ready_ne h0 with hr | hr | hr
    · rw [hr]
      have e1 : fptr (gb n) 9 = .pointer none := rfl
      rw [e1]
      have HR := hid hr
      clear h0 hr e1
      go_wp2_with fail
      go_quiet (fail)
      go_wp2_with fail
      refine (done_err HD.out HW.out ?_ hfu 59 _ HE.out 9 (by decide)).mono ?_
      · exact below_drewN (HB3.out.alloc HB3.out.size _) _
      rintro e w5 ⟨y, rfl, hdid⟩
      go_wp2_with fail
      go_ret
      unfold dCut
      rw [if_pos (by rw [HR.out]; decide), HR.out]
      exact hdid
    · rw [hr]
      have e1 : fptr (gb n) 2 = .pointer none := rfl
      rw [e1]
      have HR := hid hr
      clear h0 hr e1
      go_wp2_with fail
      go_quiet (fail)
      go_wp2_with fail
      refine (done_err HD.out HW.out ?_ hfu 59 _ HE.out 2 (by decide)).mono ?_
      · exact below_drewN (HB3.out.alloc HB3.out.size _) _
      rintro e w5 ⟨y, rfl, hdid⟩
      go_wp2_with fail
      go_ret
      unfold dCut
      rw [if_pos (by rw [HR.out]; decide), HR.out]
      exact hdid
    · rw [hr]
      have e1 : fptr (gb n) 6 = .pointer none := rfl
      rw [e1]
      have HR := hid hr
      clear h0 hr e1
      go_wp2_with fail
      go_quiet (fail)
      go_wp2_with fail
      refine (done_err HD.out HW.out ?_ hfu 59 _ HE.out 6 (by decide)).mono ?_
      · exact below_drewN (HB3.out.alloc HB3.out.size _) _
      rintro e w5 ⟨y, rfl, hdid⟩
      go_wp2_with fail
      go_ret
      unfold dCut
      rw [if_pos (by rw [HR.out]; decide), HR.out]
      exact hdid
end
end Go.Proofs.Ytchimkkpjdbdpaa
namespace Go.Proofs.Ytchimkkpjdbdpaa
set_option maxRecDepth 40000
open Go.RowKit Go.Maps Go.Shelf Dsk

theorem gives_own {w w0 w' : World} {t : TypeId} {A : Option Addr} {n c : Nat} {xs : List Value} (h : w'.ownsRow w0.heap.size t 1 (.slice A n c) n xs) (h0 : w.heap.size ≤ w0.heap.size) (hb : Below w.heap.size w w') : Gives w xs (.slice A n c) w' := by
  refine ⟨A, n, c, rfl, (Row.of_own h).wide h0 (Nat.le_refl _), ?_, ?_, ?_, hb⟩
  · obtain ⟨A', c', e, h1, _⟩ := own_shape h
    injection e with e1 _ e3
    subst e1 e3
    exact h1
  · exact own_cap h
  · rcases h.2 with ⟨e, _⟩ | ⟨g, cap', cur, e1, _, _, _, h6, _⟩
    · injection e with _ _ e; omega
    · injection e1 with _ _ e3; omega
theorem gives_nil (w w' : World) (hb : Below w.heap.size w w') : Gives w [] (.slice none 0 0) w' :=
  ⟨none, 0, 0, rfl, Row.empty, fun _ => rfl, Nat.le_refl _, Nat.zero_le _, hb⟩
section
variable {w : World} {d M : Nat} {Dm : DataW Unit} {gb : Nm → Nat} {hb : Nm → Option Nat} {F : List Nat} {D : Dk}
set_option maxHeartbeats 2000000 in
set_option maxRecDepth 20000 in
theorem read_m (h : DM w d M Dm gb hb F D) (hw : Whole D) (n : Nm) (hl : n.length ≤ 1000) :
    Calls Try.prog 31 #[ptr d, S n] w fun e w' => ∃ v, e = .returned (.tuple #[v, .int .i64 (ready D n)]) ∧ Gives w (U (dRead D n)) v w' := by
  have W1 := hid (find_nil h n hl)
  have HD := hid h
  have HW := hid hw
  generalize hs : S n = s at *
  clear h hw hs
  go_enter Try.func31, Try.ntmps31
  go_wp2_with fail
  refine W1.out.mono ?_
  rintro e w1 ⟨rfl, hb1⟩
  have HB1 := hid hb1
  clear hb1
  by_cases h0 : ready D n = 0
  · obtain ⟨_, _, f, hf, hfile⟩ := ready_zero h0
    have hrd : dRead D n = f.b := by unfold dRead; rw [if_pos h0, hfile]
    obtain ⟨A, cap, hblk, hown, _⟩ := ((HD.out.below HB1.out).at_ n f hf).2
    have hA : A = none → cap = 0 := by
      obtain ⟨A', c', e, h1, _⟩ := own_shape hown
      injection e with e1 _ e3
      subst e1 e3
      exact h1
    have hroom := file_room HW.out hf
    have W2 := hid (clone_any A f.b.length cap 0 w1.heap.size f.b w1 (Row.of_own hown) hA (Nat.le_refl _) (by omega))
    have c0 := hblk.cell 0
    simp at c0
    have HR0 := hid h0
    have HRD := hid hrd
    rw [h0]
    have e1 : fptr (gb n) 0 = ptr (gb n) := rfl
    rw [e1]
    clear h0 hrd hfile hf hblk hown hroom e1 hA
    generalize f.b.length = m at *
    go_wp2_with fail
    refine W2.out.mono ?_
    rintro e w2 ⟨A2, n2, c2, rfl, _, _, hown2, hb2⟩
    go_wp2_with fail
    go_ret2
    rw [HR0.out, HRD.out]
    exact ⟨_, rfl, gives_own hown2 HB1.out.size (HB1.out.trans (hb2.mono HB1.out.size))⟩
  · have hrd : dRead D n = [] := by unfold dRead; rw [if_neg h0]
    have HRD := hid hrd
    clear hrd
    rcases ready_ne h0 with hr | hr | hr
    · rw [hr]
      have e1 : fptr (gb n) 9 = .pointer none := rfl
      rw [e1]
      have HR := hid hr
      clear h0 hr e1
      go_wp2_with fail
      go_ret2
      rw [HR.out, HRD.out]
      exact ⟨_, rfl, gives_nil w w1 HB1.out⟩
    · rw [hr]
      have e1 : fptr (gb n) 2 = .pointer none := rfl
      rw [e1]
      have HR := hid hr
      clear h0 hr e1
      go_wp2_with fail
      go_ret2
      rw [HR.out, HRD.out]
      exact ⟨_, rfl, gives_nil w w1 HB1.out⟩
    · rw [hr]
      have e1 : fptr (gb n) 6 = .pointer none := rfl
      rw [e1]
      have HR := hid hr
      clear h0 hr e1
      go_wp2_with fail
      go_ret2
      rw [HR.out, HRD.out]
      exact ⟨_, rfl, gives_nil w w1 HB1.out⟩
end
end Go.Proofs.Ytchimkkpjdbdpaa
namespace Go.Proofs.Ytchimkkpjdbdpaa
set_option maxRecDepth 40000
open Go.RowKit Go.Maps Go.Sort Go.Shelf Dsk

theorem lt_of_nlt : ∀ {a b : Nm}, nlt a b = true → a < b
  | [], [], h => by cases h
  | [], _ :: _, _ => List.nil_lt_cons _ _
  | _ :: _, [], h => by cases h
  | x :: r, y :: s, h => by
    simp only [nlt, Bool.or_eq_true, Bool.and_eq_true, decide_eq_true_eq, beq_iff_eq] at h
    rw [List.cons_lt_cons_iff]
    rcases h with h | ⟨rfl, h⟩
    · exact .inl (UInt8.lt_iff_toNat_lt.2 h)
    · exact .inr ⟨rfl, lt_of_nlt h⟩
theorem names_rise {fs : Fs} (h : Rises fs) : (fs.map (·.1)).Pairwise (fun x y => x ≤ y) := by
  induction fs with
  | nil => exact List.Pairwise.nil
  | cons y r ih =>
    obtain ⟨k, f⟩ := y
    refine List.Pairwise.cons ?_ (ih h.2)
    intro m hm
    obtain ⟨x, hx, rfl⟩ := List.mem_map.1 hm
    exact List.le_of_lt (lt_of_nlt (h.1 x hx))
theorem names_nodup {fs : Fs} (h : Rises fs) : (fs.map (·.1)).Nodup := by
  induction fs with
  | nil => exact List.Pairwise.nil
  | cons y r ih =>
    obtain ⟨k, f⟩ := y
    refine List.Pairwise.cons ?_ (ih h.2)
    intro m hm e
    obtain ⟨x, hx, rfl⟩ := List.mem_map.1 hm
    have := h.1 x hx
    simp only at e
    rw [← e, nlt_irrefl] at this
    cases this
theorem get_names {fs : Fs} {n : Nm} : n ∈ fs.map (·.1) ↔ (Dsk.get fs n).isSome = true := by
  induction fs with
  | nil => simp [Dsk.get]
  | cons y r ih =>
    obtain ⟨k, f⟩ := y
    simp only [List.map_cons, List.mem_cons, Dsk.get]
    by_cases e : k = n
    · subst e; simp
    · rw [if_neg e, ih]
      simp
      exact fun h => absurd h.symm e
theorem sort_names {ss ns : List Nm} (hp : ss.Perm ns) (hs : ns.Pairwise (fun x y => x ≤ y)) : ss.mergeSort (fun x y => decide (x ≤ y)) = ns := by
  refine List.Perm.eq_of_pairwise (le := fun x y => decide (x ≤ y) = true) ?_ (List.pairwise_mergeSort ?_ ?_ ss) ?_ ((List.mergeSort_perm ss _).trans hp)
  · intro a b _ _ h1 h2
    exact List.le_antisymm (by simpa using h1) (by simpa using h2)
  · intro a b c h1 h2
    simp only [decide_eq_true_eq] at *
    exact List.le_trans h1 h2
  · intro a b
    simp only [Bool.or_eq_true, decide_eq_true_eq]
    exact List.le_total a b
  · exact hs.imp (fun h => by simpa using h)
section
variable {w : World} {d M : Nat} {Dm : DataW Unit} {gb : Nm → Nat} {hb : Nm → Option Nat} {F : List Nat} {D : Dk}
theorem keys_perm (h : DM w d M Dm gb hb F D) (hr : Rises D.fs) : (strKeys Dm).Perm (D.fs.map (·.1)) := by
  obtain ⟨es, rfl, hk⟩ := h.map.keysOf
  obtain ⟨es', e, hd, _⟩ := h.map.entries keyedS
  injection e with e
  subst e
  have hstr : ∀ p ∈ es, p.1 = .string (strOf p.1) := by
    intro p hp
    obtain ⟨v, hv⟩ := hk p hp
    obtain ⟨x, _, e, _⟩ := keyOf_str Try.underlying9 hv
    rw [e]
    rfl
  rw [List.perm_ext_iff_of_nodup]
  · intro n
    rw [get_names, ← h.has, has_eq]
    simp only [strKeys, List.mem_map, List.any_eq_true]
    constructor
    · rintro ⟨p, hp, rfl⟩
      refine ⟨p, hp, ?_⟩
      rw [hstr p hp, same_key]
      simp [strOf]
    · rintro ⟨p, hp, hs⟩
      refine ⟨p, hp, ?_⟩
      rw [hstr p hp, same_key] at hs
      simpa using hs
  · show (es.map fun p => strOf p.1).Nodup
    refine List.pairwise_map.2 (hd.imp_of_mem ?_)
    intro p q hp hq hne e
    exact hne (by rw [hstr p hp, hstr q hq, e])
  · exact names_nodup hr
end
end Go.Proofs.Ytchimkkpjdbdpaa
namespace Go.Proofs.Ytchimkkpjdbdpaa
set_option maxRecDepth 40000
open Go.RowKit Go.Maps Go.Shelf Dsk

theorem put_del {fs : Fs} (hr : Rises fs) {n : Nm} {f : Fil} (h : Dsk.get fs n = some f) : put (del fs n) n f = fs :=
  rises_ext (put_rises (del_rises hr n) n f) hr fun m => by
    rw [get_put, get_del hr]
    by_cases e : m = n
    · subst e; rw [if_pos rfl, h]
    · rw [if_neg e, if_neg e]
theorem rename_found (D : Dk) (n m : Nm) : (found D [m] n ≠ 0 → dRename D n m = (found D [m] n, D)) ∧
    (found D [m] n = 0 → D.off = false ∧ ready D n = 0 ∧ dRename D n m = if (file D n).s < (file D n).b.length then (10, D) else burn D (if n = m then D.fs else put (del D.fs n) m (file D n))) := by
  unfold found wrong dRename ready
  simp only [List.cons_append, List.nil_append, List.all_cons, List.all_nil, Bool.and_true]
  cases ho : D.off <;> cases hm : okN m <;> cases hn : okN n <;> cases hg : Dsk.get D.fs n <;> simp
section
variable {w : World} {d M : Nat} {Dm : DataW Unit} {gb : Nm → Nat} {hb : Nm → Option Nat} {F : List Nat} {D : Dk}
end
end Go.Proofs.Ytchimkkpjdbdpaa
namespace Go.Proofs.Ytchimkkpjdbdpaa
set_option maxRecDepth 40000
open Go.RowKit Go.Maps Go.Shelf Dsk

theorem found_ne {D : Dk} {l : List Nm} {n : Nm} (h : found D l n ≠ 0) : found D l n = 9 ∨ found D l n = 2 ∨ found D l n = 6 := by
  unfold found wrong at h ⊢
  cases ho : D.off <;> cases hk : (l ++ [n]).all okN <;> cases hg : Dsk.get D.fs n <;> simp [ho, hk, hg] at h ⊢
section
variable {w : World} {d M : Nat} {Dm : DataW Unit} {gb : Nm → Nat} {hb : Nm → Option Nat} {F : List Nat} {D : Dk}
end
end Go.Proofs.Ytchimkkpjdbdpaa
namespace Go.Proofs.Ytchimkkpjdbdpaa.Dsk
set_option maxRecDepth 40000

/-- The files behind a crash of the first k. -/
def fsK : Fs → List Int → Nat → Fs
  | [], _, _ => []
  | x :: r, _, 0 => x :: r
  | (n, f) :: r, l, k + 1 => (n, cutFil f (l.headD 0)) :: fsK r l.tail k
theorem fsK_zero (fs : Fs) (l : List Int) : fsK fs l 0 = fs := by cases fs <;> rfl
theorem fsK_all : ∀ (fs : Fs) (l : List Int) (k : Nat), fs.length ≤ k → fsK fs l k = crashFs fs l
  | [], _, _, _ => rfl
  | (n, f) :: r, l, 0, h => by simp at h
  | (n, f) :: r, l, k + 1, h => by
    simp only [fsK, crashFs]
    rw [fsK_all r l.tail k (by simpa using h)]
theorem fsK_names : ∀ (fs : Fs) (l : List Int) (k : Nat), (fsK fs l k).map (·.1) = fs.map (·.1)
  | [], _, _ => rfl
  | x :: r, l, 0 => rfl
  | (n, f) :: r, l, k + 1 => by simp only [fsK, List.map_cons, fsK_names r l.tail k]
theorem rises_names {fs gs : Fs} (h : fs.map (·.1) = gs.map (·.1)) (hr : Rises gs) : Rises fs := by
  induction fs generalizing gs with
  | nil => trivial
  | cons x r ih =>
    cases gs with
    | nil => cases h
    | cons y s =>
      obtain ⟨n, f⟩ := x
      obtain ⟨m, g⟩ := y
      simp only [List.map_cons, List.cons.injEq] at h
      obtain ⟨rfl, h⟩ := h
      refine ⟨fun z hz => ?_, ih h hr.2⟩
      have : z.1 ∈ s.map (·.1) := by rw [← h]; exact List.mem_map_of_mem hz
      obtain ⟨u, hu, e⟩ := List.mem_map.1 this
      rw [← e]
      exact hr.1 u hu
theorem fsK_rises {fs : Fs} (hr : Rises fs) (l : List Int) (k : Nat) : Rises (fsK fs l k) := rises_names (fsK_names fs l k) hr
theorem headD_getD (l : List Int) : l.headD 0 = l.getD 0 0 := by cases l <;> rfl
theorem tail_getD (l : List Int) (k : Nat) : l.tail.getD k 0 = l.getD (k + 1) 0 := by cases l <;> simp
theorem put_head {n : Nm} {f g : Fil} {r : Fs} : put ((n, f) :: r) n g = (n, g) :: r := by
  simp [put, nlt_irrefl]
/-- One more file. -/
theorem fsK_step : ∀ {fs : Fs} (_ : Rises fs) (l : List Int) {k : Nat} {n : Nm} {f : Fil}, fs[k]? = some (n, f) → fsK fs l (k + 1) = put (fsK fs l k) n (cutFil f (l.getD k 0)) ∧ get (fsK fs l k) n = some f
  | [], _, _, _, _, _, h => by simp at h
  | (m, g) :: r, hr, l, 0, n, f, h => by
    simp at h
    obtain ⟨rfl, rfl⟩ := h
    simp only [fsK, fsK_zero]
    rw [put_head, headD_getD]
    exact ⟨rfl, by simp [get]⟩
  | (m, g) :: r, hr, l, k + 1, n, f, h => by
    have h1 : r[k]? = some (n, f) := by simpa using h
    obtain ⟨i1, i2⟩ := fsK_step hr.2 l.tail h1
    have hm : nlt m n = true := hr.1 (n, f) (List.mem_of_getElem? h1)
    have hne : m ≠ n := by rintro rfl; rw [nlt_irrefl] at hm; cases hm
    have hnm : ¬ nlt n m = true := fun h2 => by have := nlt_trans hm h2; rw [nlt_irrefl] at this; cases this
    constructor
    · show (m, cutFil g (l.headD 0)) :: fsK r l.tail (k + 1) = put ((m, cutFil g (l.headD 0)) :: fsK r l.tail k) n _
      simp only [put]
      rw [if_neg hnm, if_neg hne, i1, tail_getD]
    · show get ((m, cutFil g (l.headD 0)) :: fsK r l.tail k) n = _
      simp only [get]
      rw [if_neg hne]
      exact i2
end Go.Proofs.Ytchimkkpjdbdpaa.Dsk
namespace Go.Proofs.Ytchimkkpjdbdpaa
set_option maxRecDepth 40000
open Go.RowKit Go.Maps Go.Shelf Dsk

def isNeg : Value → Bool
  | .int _ z => decide (z < 0)
  | _ => false
theorem any_neg (l : List Int) : (I l).any isNeg = l.any fun x => decide (x < 0) := by
  induction l with
  | nil => rfl
  | cons c r ih =>
    have : I (c :: r) = .int .i64 c :: I r := rfl
    rw [this, List.any_cons, List.any_cons, ih]
    rfl
section
variable {w : World} {d M : Nat} {Dm : DataW Unit} {gb : Nm → Nat} {hb : Nm → Option Nat} {F : List Nat} {D : Dk}
/-- The disk while a crash goes through its files. -/
def Goes (w wr : World) (d M : Nat) (Dm : DataW Unit) (gb : Nm → Nat) (F : List Nat) (D : Dk) (l : List Int) (k : Nat) : Prop :=
  ∃ hb F', DM wr d M Dm gb hb F' { D with fs := fsK D.fs l k } ∧ Touch w wr F ∧ ∀ y ∈ F', y ∈ F
theorem Goes.step {wr w' : World} {l : List Int} {k : Nat} {n : Nm} {f : Fil} {hb' : Nm → Option Nat} {F' : List Nat} (h : DM wr d M Dm gb hb' F' { D with fs := fsK D.fs l k }) (ht : Touch w wr F) (hF : ∀ y ∈ F', y ∈ F) (hr : Rises D.fs) (hk : D.fs[k]? = some (n, f))
    (hf : FileAt w' (gb n) (hb' n) (cutFil f (l.getD k 0))) (htw : Touch wr w' [gb n]) : Goes w w' d M Dm gb F D l (k + 1) := by
  obtain ⟨h1, h2⟩ := fsK_step hr l hk
  have hw := h.write (fsK_rises hr l k) h2 (htw.mono (F' := gb n :: (hb' n).toList) (fun i _ hi => by rw [List.mem_singleton.1 hi]; simp)) hf (fun x hx => .inl hx)
  unfold Goes
  rw [h1]
  refine ⟨_, _, hw, ht.then htw (fun i _ hi => by rw [List.mem_singleton.1 hi]; exact hF _ (h.mem.2.2 n f h2).1), ?_⟩
  intro y hy
  rcases List.mem_append.1 hy with hy | hy
  · exact hF y hy
  · exact hF y ((h.mem.2.2 n f h2).2 y (by simpa using hy))
theorem cut_fil (f : Fil) (x : Int) (hs : f.s ≤ f.b.length) : (f.s + x.toNat % (f.b.length - f.s + 1) ≤ f.b.length) ∧ cutFil f x = ⟨f.b.take (f.s + x.toNat % (f.b.length - f.s + 1)), f.s + x.toNat % (f.b.length - f.s + 1)⟩ := by
  have hmod : x.toNat % (f.b.length - f.s + 1) < f.b.length - f.s + 1 := Nat.mod_lt _ (by omega)
  exact ⟨by omega, rfl⟩
theorem tmod_nat (x : Int) (s q : Nat) (hx : 0 ≤ x) (hs : s ≤ q) : x.tmod ((q : Int) - (s : Int) + 1) = ((x.toNat % (q - s + 1) : Nat) : Int) := by
  obtain ⟨n, rfl⟩ := Int.eq_ofNat_of_zero_le hx
  have e : (q : Int) - (s : Int) + 1 = ((q - s + 1 : Nat) : Int) := by omega
  have e2 : ((n : Nat) : Int).toNat = n := by simp
  rw [e, e2, Int.ofNat_tmod]
end
end Go.Proofs.Ytchimkkpjdbdpaa
