/-
  Plain words of DiskKeeps: what is told of the file at a place; what a crash leaves, place by place; once more nothing changes.
-/
import Derived.Test.YtkadljomimpnjaaDiskAt
namespace Go.Proofs.Ytkadljomimpnjaa.Dsk

structure Told (D : Dk) (n : Nm) (f : Fil) : Prop where
  ready : ready D n = 0
  read : dRead D n = f.b
  synced : dSynced D n = f.s
  size : dSize D n = f.b.length
  low : f.s ≤ f.b.length
  name : n.length ≤ 1000
  few : (f.b.length : Int) ≤ 1099511627776
theorem used_mem {fs : Fs} {x : Nm × Fil} (h : x ∈ fs) : x.2.b.length ≤ used fs := by
  induction fs with
  | nil => cases h
  | cons y r ih =>
    obtain ⟨m, g⟩ := y
    show _ ≤ g.b.length + used r
    rcases List.mem_cons.1 h with rfl | h
    · show g.b.length ≤ _
      omega
    · have := ih h
      omega
theorem told_at {D : Dk} (h : Whole D) (ho : D.off = false) {i : Nat} {n : Nm} {f : Fil} (hx : D.fs[i]? = some (n, f)) : Told D n f := by
  have hm := List.mem_of_getElem? hx
  have hg := get_of_mem h.rises hm
  have hk := h.names _ hm
  have hr : ready D n = 0 := by
    unfold Dsk.ready
    rw [if_neg (by simp [ho]), if_neg (by simp [hk]), if_neg (by simp [hg])]
  have hl : n.length ≤ 16 := by
    unfold okN at hk
    simp at hk
    exact hk.2.2
  have hu := used_mem hm
  have h1 := h.room
  have h2 := h.top
  refine ⟨hr, ?_, ?_, ?_, h.synced _ hm, by omega, by simp only at hu; omega⟩
  · unfold dRead file
    rw [if_pos hr, hg]
    rfl
  · unfold dSynced
    rw [hg]
  · unfold dSize
    rw [hg]
theorem crash_at (fs : Fs) (l : List Int) (i : Nat) : (crashFs fs l)[i]? = (fs[i]?).map fun x => (x.1, cutFil x.2 (l.getD i 0)) := by
  induction fs generalizing l i with
  | nil => simp [crashFs]
  | cons y r ih =>
    obtain ⟨m, g⟩ := y
    match i with
    | 0 => cases l <;> simp [crashFs]
    | i + 1 =>
      simp only [crashFs, List.getElem?_cons_succ]
      rw [ih]
      cases l <;> simp
theorem crash_names (fs : Fs) (l : List Int) : (crashFs fs l).map (·.1) = fs.map (·.1) := by
  induction fs generalizing l with
  | nil => rfl
  | cons y r ih =>
    obtain ⟨m, g⟩ := y
    simp only [crashFs, List.map_cons]
    rw [ih]
theorem cut_low {f : Fil} (h : f.s ≤ f.b.length) (k : Int) : ∃ m, cutFil f k = ⟨f.b.take m, m⟩ ∧ f.s ≤ m ∧ m ≤ f.b.length := by
  refine ⟨_, rfl, Nat.le_add_right _ _, ?_⟩
  have := Nat.mod_lt k.toNat (show 0 < f.b.length - f.s + 1 by omega)
  omega
theorem cut_whole {f : Fil} (h : f.s = f.b.length) : cutFil f 0 = f := by
  have e : f.s + (0 : Int).toNat % (f.b.length - f.s + 1) = f.b.length := by
    rw [h]
    simp
  unfold cutFil
  rw [e, List.take_length]
  cases f
  simp at h
  rw [h]
theorem crash_again (fs : Fs) (l : List Int) (h : ∀ x ∈ fs, x.2.s ≤ x.2.b.length) : crashFs (crashFs fs l) [] = crashFs fs l := by
  induction fs generalizing l with
  | nil => rfl
  | cons y r ih =>
    obtain ⟨m, g⟩ := y
    show (m, cutFil (cutFil g (l.headD 0)) 0) :: crashFs (crashFs r l.tail) [] = (m, cutFil g (l.headD 0)) :: crashFs r l.tail
    rw [ih l.tail (fun x hx => h x (List.mem_cons_of_mem _ hx))]
    obtain ⟨j, e, _, hj⟩ := cut_low (h (m, g) (List.mem_cons_self)) (l.headD 0)
    rw [cut_whole]
    rw [e]
    show j = (g.b.take j).length
    rw [List.length_take]
    simp only at hj
    omega
theorem crash_bad {D : Dk} {l : List Int} (h : l.any (fun x => decide (x < 0)) = true) : dCrash D l = (2, D) := by unfold dCrash; rw [if_pos h]
theorem crash_good {D : Dk} {l : List Int} (h : l.any (fun x => decide (x < 0)) = false) : dCrash D l = (0, ⟨D.size, crashFs D.fs l, -1, false⟩) := by unfold dCrash; rw [if_neg (by simp [h])]
theorem crash_still (size : Int) (fs : Fs) (l : List Int) (h : ∀ x ∈ fs, x.2.s ≤ x.2.b.length) : dCrash ⟨size, crashFs fs l, -1, false⟩ [] = (0, ⟨size, crashFs fs l, -1, false⟩) := by
  rw [crash_good rfl]
  show (0, (⟨size, crashFs (crashFs fs l) [], -1, false⟩ : Dk)) = _
  rw [crash_again fs l h]
end Go.Proofs.Ytkadljomimpnjaa.Dsk
