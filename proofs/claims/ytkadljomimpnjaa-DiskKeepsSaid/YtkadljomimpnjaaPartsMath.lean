/-
  Plain words for DiskParts: what is appended in two parts is as at once; what is done to one file changes no other one.
-/
import Derived.Test.YtkadljomimpnjaaDiskAt
namespace Go.Proofs.Ytkadljomimpnjaa.Dsk

theorem burn_size (D : Dk) (fs : Fs) : (burn D fs).2.size = D.size := by unfold burn; split <;> rfl
theorem act_size (D : Dk) (a : Ac) : (act D a).2.size = D.size := by
  cases a with
  | app n b => simp only [act, dAppend]; split <;> (try split) <;> (try split) <;> first | rfl | exact burn_size _ _
  | syn n => simp only [act, dSync]; split <;> first | rfl | exact burn_size _ _
  | ren n m => simp only [act, dRename]; split <;> (try split) <;> (try split) <;> (try split) <;> (try split) <;> first | rfl | exact burn_size _ _
  | rem n => simp only [act, dDelete]; split <;> first | rfl | exact burn_size _ _
  | cut n k => simp only [act, dCut]; split <;> (try split) <;> first | rfl | exact burn_size _ _
  | fus k => simp only [act, dFuse]; split <;> rfl
  | cra l => simp only [act, dCrash]; split <;> rfl
/-- A disk with power and without a fuse. -/
structure On (D : Dk) : Prop where
  off : D.off = false
  fuse : D.fuse = -1
theorem on_crash (D : Dk) : (dCrash D []).1 = 0 ∧ On (dCrash D []).2 := ⟨rfl, rfl, rfl⟩
theorem burn_on {D : Dk} (h : On D) (fs : Fs) : burn D fs = (0, { D with fs := fs }) := by
  unfold burn
  rw [if_neg (by rw [h.fuse]; decide), if_neg (by rw [h.fuse]; decide)]
theorem append_on {D : Dk} (h : On D) {n : Nm} (hn : okN n = true) (b : List UInt8) : dAppend D n b = if D.size < used D.fs + b.length then (7, D) else (0, { D with fs := put D.fs n ⟨(file D n).b ++ b, (file D n).s⟩ }) := by
  unfold dAppend
  rw [if_neg (by rw [h.off]; decide), if_neg (by rw [hn]; decide), burn_on h]
theorem put_put (fs : Fs) (n : Nm) (f g : Fil) : put (put fs n f) n g = put fs n g := by
  induction fs with
  | nil => simp [put, nlt_irrefl]
  | cons x r ih =>
    obtain ⟨m, y⟩ := x
    simp only [put]
    split
    · simp [put, nlt_irrefl]
    · rename_i h1
      split
      · simp [put, nlt_irrefl]
      · rename_i h2
        simp only [put]
        rw [if_neg h1, if_neg h2, ih]
theorem used_app {D : Dk} (hw : Whole D) (n : Nm) (b : List UInt8) (s : Nat) : used (put D.fs n ⟨(file D n).b ++ b, s⟩) = used D.fs + b.length := by
  have h1 := used_put hw.rises n ⟨(file D n).b ++ b, s⟩
  have h2 := file_used (D := D) n
  simp only [List.length_append] at h1
  omega
theorem file_put (D : Dk) (fs : Fs) (n : Nm) (f : Fil) : file { D with fs := put fs n f } n = f := by
  unfold file
  show (get (put fs n f) n).getD _ = f
  rw [get_put, if_pos rfl]
  rfl
/-- In two parts. -/
theorem append_parts {D : Dk} (h : On D) (hw : Whole D) {n : Nm} (hn : okN n = true) (b : List UInt8) (k : Nat) (hr : ¬ D.size < used D.fs + b.length) :
    (dAppend D n (b.take k)).1 = 0 ∧ dAppend (dAppend D n (b.take k)).2 n (b.drop k) = dAppend D n b := by
  have hl : (b.take k).length + (b.drop k).length = b.length := by rw [← List.length_append, List.take_append_drop]
  have h1 : ¬ D.size < used D.fs + (b.take k).length := by omega
  have e1 : dAppend D n (b.take k) = (0, { D with fs := put D.fs n ⟨(file D n).b ++ b.take k, (file D n).s⟩ }) := by rw [append_on h hn, if_neg h1]
  rw [e1]
  refine ⟨rfl, ?_⟩
  have ho : On { D with fs := put D.fs n ⟨(file D n).b ++ b.take k, (file D n).s⟩ } := ⟨h.off, h.fuse⟩
  rw [append_on ho hn, append_on h hn, if_neg hr]
  have hu := used_app hw n (b.take k) (file D n).s
  rw [if_neg (by show ¬ D.size < _; simp only [hu]; omega)]
  rw [file_put, put_put]
  show (0, _) = (0, _)
  rw [List.append_assoc, List.take_append_drop]
/-- Only the file n may be another. -/
structure Only (n : Nm) (D E : Dk) : Prop where
  on : On E
  others : ∀ m, m ≠ n → get E.fs m = get D.fs m
theorem ready_on {E : Dk} (h : On E) {n : Nm} (hn : okN n = true) (hg : get E.fs n ≠ none) : ready E n = 0 := by
  unfold ready
  rw [if_neg (by rw [h.off]; decide), if_neg (by rw [hn]; decide), if_neg hg]
theorem only_put {n : Nm} {D E : Dk} (h : Only n D E) (f : Fil) : Only n D { E with fs := put E.fs n f } ∧ get ({ E with fs := put E.fs n f } : Dk).fs n ≠ none := by
  refine ⟨⟨⟨h.on.off, h.on.fuse⟩, fun m hm => ?_⟩, ?_⟩
  · show get (put E.fs n f) m = _
    rw [get_put, if_neg hm, h.others m hm]
  · show get (put E.fs n f) n ≠ none
    rw [get_put, if_pos rfl]
    exact fun e => by cases e
theorem only_sync {n : Nm} {D E : Dk} (hn : okN n = true) (h : Only n D E) (hg : get E.fs n ≠ none) : Only n D (dSync E n).2 ∧ get (dSync E n).2.fs n ≠ none := by
  unfold dSync
  rw [if_neg (by rw [ready_on h.on hn hg]; decide), burn_on h.on]
  exact only_put h _
theorem only_cut {n : Nm} {D E : Dk} (hn : okN n = true) (h : Only n D E) (hg : get E.fs n ≠ none) : Only n D (dCut E n 0).2 ∧ get (dCut E n 0).2.fs n ≠ none := by
  unfold dCut
  rw [if_neg (by rw [ready_on h.on hn hg]; decide), if_neg (by omega), burn_on h.on]
  exact only_put h _
theorem only_del {n : Nm} {D E : Dk} (hn : okN n = true) (h : Only n D E) (hr : Rises E.fs) (hg : get E.fs n ≠ none) : Only n D (dDelete E n).2 ∧ get (dDelete E n).2.fs n = none := by
  unfold dDelete
  rw [if_neg (by rw [ready_on h.on hn hg]; decide), burn_on h.on]
  refine ⟨⟨⟨h.on.off, h.on.fuse⟩, fun m hm => ?_⟩, ?_⟩
  · show get (del E.fs n) m = _
    rw [get_del hr, if_neg hm, h.others m hm]
  · show get (del E.fs n) n = none
    rw [get_del hr, if_pos rfl]
theorem only_read {n m : Nm} {D E : Dk} (hD : On D) (h : Only n D E) (hm : m ≠ n) : ready E m = ready D m ∧ dRead E m = dRead D m := by
  have h1 : ready E m = ready D m := by unfold ready; rw [h.on.off, hD.off, h.others m hm]
  refine ⟨h1, ?_⟩
  unfold dRead file
  rw [h1, h.others m hm]
theorem size_none {E : Dk} {n : Nm} (h : get E.fs n = none) : dSize E n = -1 := by unfold dSize; rw [h]
/-- All of DiskParts' tail. -/
theorem parts_tail {D : Dk} (h : On D) (hw : Whole D) (b : List UInt8) (hr : ¬ D.size < used D.fs + b.length) :
    (dAppend D [97] b).1 = 0 ∧ ((used (dAppend D [97] b).2.fs : Nat) : Int) = used D.fs + b.length ∧
      ready (dDelete (dCut (dSync (dAppend D [97] b).2 [97]).2 [97] 0).2 [97]).2 [98] = ready D [98] ∧
      dRead (dDelete (dCut (dSync (dAppend D [97] b).2 [97]).2 [97] 0).2 [97]).2 [98] = dRead D [98] ∧
      dSize (dDelete (dCut (dSync (dAppend D [97] b).2 [97]).2 [97] 0).2 [97]).2 [97] = -1 := by
  have hn : okN [97] = true := by decide
  have e1 : dAppend D [97] b = (0, { D with fs := put D.fs [97] ⟨(file D [97]).b ++ b, (file D [97]).s⟩ }) := by rw [append_on h hn, if_neg hr]
  have hwx : Whole (dAppend D [97] b).2 := act_whole hw (.app [97] b)
  have h0 : Only [97] D D := ⟨h, fun _ _ => rfl⟩
  have h1 := only_put h0 ⟨(file D [97]).b ++ b, (file D [97]).s⟩
  have hu := used_app hw [97] b (file D [97]).s
  rw [e1] at hwx ⊢
  have h2 := only_sync hn h1.1 h1.2
  have w2 := act_whole hwx (.syn [97])
  have h3 := only_cut hn h2.1 h2.2
  have w3 := act_whole w2 (.cut [97] 0)
  have h4 := only_del hn h3.1 w3.rises h3.2
  have h5 := only_read h h4.1 (m := [98]) (by decide)
  refine ⟨rfl, ?_, h5.1, h5.2, size_none h4.2⟩
  show ((used (put D.fs [97] _) : Nat) : Int) = _
  rw [hu]
  omega
end Go.Proofs.Ytkadljomimpnjaa.Dsk
