/-
  What each act of a disk answers and leaves, in plain words; that a disk stays whole.
-/
import Derived.Test.YtpckloafdlkefaaGreatDiskMath
namespace Go.Proofs.YtpckloafdlkefaaGreat.Dsk
set_option maxRecDepth 40000

def okB (c : UInt8) : Bool := (decide (97 ≤ c.toNat) && decide (c.toNat ≤ 122)) || (decide (48 ≤ c.toNat) && decide (c.toNat ≤ 57))
def okN (n : Nm) : Bool := n.all okB && (decide (1 ≤ n.length) && decide (n.length ≤ 16))
def file (D : Dk) (n : Nm) : Fil := (get D.fs n).getD ⟨[], 0⟩
/-- An operation that has no other error. -/
def burn (D : Dk) (fs : Fs) : Int × Dk :=
  if D.fuse = 0 then (9, { D with off := true }) else (0, { D with fs := fs, fuse := if 0 < D.fuse then D.fuse - 1 else D.fuse })
def ready (D : Dk) (n : Nm) : Int := if D.off then 9 else if okN n = false then 2 else if get D.fs n = none then 6 else 0
def dAppend (D : Dk) (n : Nm) (b : List UInt8) : Int × Dk :=
  if D.off then (9, D) else if okN n = false then (2, D) else if D.size < used D.fs + b.length then (7, D)
  else burn D (put D.fs n ⟨(file D n).b ++ b, (file D n).s⟩)
def dSync (D : Dk) (n : Nm) : Int × Dk := if ready D n ≠ 0 then (ready D n, D) else burn D (put D.fs n ⟨(file D n).b, (file D n).b.length⟩)
def dRename (D : Dk) (n m : Nm) : Int × Dk :=
  if D.off then (9, D) else if okN m = false then (2, D) else if ready D n ≠ 0 then (ready D n, D)
  else if (file D n).s < (file D n).b.length then (10, D) else burn D (if n = m then D.fs else put (del D.fs n) m (file D n))
def dDelete (D : Dk) (n : Nm) : Int × Dk := if ready D n ≠ 0 then (ready D n, D) else burn D (del D.fs n)
def dCut (D : Dk) (n : Nm) (k : Int) : Int × Dk :=
  if ready D n ≠ 0 then (ready D n, D) else if k < 0 ∨ ((file D n).b.length : Int) < k then (2, D)
  else burn D (put D.fs n ⟨(file D n).b.take k.toNat, k.toNat⟩)
def dFuse (D : Dk) (k : Int) : Int × Dk := if k < -1 then (2, D) else (0, { D with fuse := k })
def cutFil (f : Fil) (k : Int) : Fil := ⟨f.b.take (f.s + k.toNat % (f.b.length - f.s + 1)), f.s + k.toNat % (f.b.length - f.s + 1)⟩
def crashFs : Fs → List Int → Fs
  | [], _ => []
  | (n, f) :: r, l => (n, cutFil f (l.headD 0)) :: crashFs r l.tail
def dCrash (D : Dk) (l : List Int) : Int × Dk :=
  if l.any (fun x => decide (x < 0)) then (2, D) else (0, { size := D.size, fs := crashFs D.fs l, fuse := -1, off := false })
def dRead (D : Dk) (n : Nm) : List UInt8 := if ready D n = 0 then (file D n).b else []
def dSize (D : Dk) (n : Nm) : Int := match get D.fs n with | some f => f.b.length | none => -1
def dSynced (D : Dk) (n : Nm) : Int := match get D.fs n with | some f => f.s | none => -1

/-- The acts of a script. -/
inductive Ac where
  | app (n : Nm) (b : List UInt8)
  | syn (n : Nm)
  | ren (n m : Nm)
  | rem (n : Nm)
  | cut (n : Nm) (k : Int)
  | fus (k : Int)
  | cra (l : List Int)
def act (D : Dk) : Ac → Int × Dk
  | .app n b => dAppend D n b
  | .syn n => dSync D n
  | .ren n m => dRename D n m
  | .rem n => dDelete D n
  | .cut n k => dCut D n k
  | .fus k => dFuse D k
  | .cra l => dCrash D l

/-- A disk is whole. -/
structure Whole (D : Dk) : Prop where
  rises : Rises D.fs
  names : ∀ x ∈ D.fs, okN x.1 = true
  synced : ∀ x ∈ D.fs, x.2.s ≤ x.2.b.length
  room : (used D.fs : Int) ≤ D.size
  top : D.size ≤ 1099511627776
  fuse : -1 ≤ D.fuse

theorem ready_zero {D : Dk} {n : Nm} (h : ready D n = 0) : D.off = false ∧ okN n = true ∧ ∃ f, get D.fs n = some f ∧ file D n = f := by
  unfold ready at h
  split at h
  · cases h
  · rename_i h1
    split at h
    · cases h
    · rename_i h2
      split at h
      · cases h
      · rename_i h3
        refine ⟨by simpa using h1, by simpa using h2, ?_⟩
        cases hg : get D.fs n with
        | none => exact absurd hg h3
        | some f => exact ⟨f, rfl, by simp [file, hg]⟩
theorem file_none {D : Dk} {n : Nm} (h : get D.fs n = none) : file D n = ⟨[], 0⟩ := by simp [file, h]
theorem file_synced {D : Dk} (h : Whole D) (n : Nm) : (file D n).s ≤ (file D n).b.length := by
  cases hg : get D.fs n with
  | none => simp [file, hg]
  | some f => simpa [file, hg] using h.synced _ (get_mem hg)
theorem file_used {D : Dk} (n : Nm) : (file D n).b.length = ((get D.fs n).map (·.b.length)).getD 0 := by
  cases hg : get D.fs n <;> simp [file, hg]
theorem burn_whole {D : Dk} (h : Whole D) {fs : Fs} (h1 : Rises fs) (h2 : ∀ x ∈ fs, okN x.1 = true) (h3 : ∀ x ∈ fs, x.2.s ≤ x.2.b.length) (h4 : (used fs : Int) ≤ D.size) : Whole (burn D fs).2 := by
  unfold burn
  split
  · exact ⟨h.rises, h.names, h.synced, h.room, h.top, h.fuse⟩
  · refine ⟨h1, h2, h3, h4, h.top, ?_⟩
    have := h.fuse
    show -1 ≤ (if 0 < D.fuse then D.fuse - 1 else D.fuse)
    split <;> omega
theorem put_whole {D : Dk} (h : Whole D) (n : Nm) (f : Fil) (hn : okN n = true) (hf : f.s ≤ f.b.length) (hu : (used D.fs : Int) + f.b.length ≤ D.size + (file D n).b.length) : Whole (burn D (put D.fs n f)).2 := by
  refine burn_whole h (put_rises h.rises n f) (fun x hx => ?_) (fun x hx => ?_) ?_
  · rcases put_mem hx with rfl | hx
    · exact hn
    · exact h.names x hx
  · rcases put_mem hx with rfl | hx
    · exact hf
    · exact h.synced x hx
  · have := used_put h.rises n f
    have := file_used (D := D) n
    omega
theorem act_whole {D : Dk} (h : Whole D) (a : Ac) : Whole (act D a).2 := by
  have hs := fun n => file_synced h n
  cases a with
  | app n b =>
    simp only [act, dAppend]
    split
    · exact h
    · split
      · exact h
      · rename_i hn
        split
        · exact h
        · refine put_whole h n _ (by simpa using hn) ?_ ?_
          · have := hs n; simp; omega
          · simp; omega
  | syn n =>
    simp only [act, dSync]
    split
    · exact h
    · rename_i hr
      obtain ⟨_, hn, _⟩ := ready_zero (by simpa using hr)
      refine put_whole h n _ hn (Nat.le_refl _) ?_
      have := h.room
      simp; omega
  | ren n m =>
    simp only [act, dRename]
    split
    · exact h
    · split
      · exact h
      · rename_i hm
        split
        · exact h
        · rename_i hr
          obtain ⟨_, hn, f, hg, hf⟩ := ready_zero (by simpa using hr)
          split
          · exact h
          · split
            · exact burn_whole h h.rises h.names h.synced h.room
            · refine burn_whole h (put_rises (del_rises h.rises n) m _) (fun x hx => ?_) (fun x hx => ?_) ?_
              · rcases put_mem hx with rfl | hx
                · simpa using hm
                · exact h.names x (del_mem hx)
              · rcases put_mem hx with rfl | hx
                · exact hs n
                · exact h.synced x (del_mem hx)
              · have h1 := used_put (del_rises h.rises n) m (file D n)
                have h2 := used_del (fs := D.fs) n
                have h3 := file_used (D := D) n
                have h4 := h.room
                omega
  | rem n =>
    simp only [act, dDelete]
    split
    · exact h
    · refine burn_whole h (del_rises h.rises n) (fun x hx => h.names x (del_mem hx)) (fun x hx => h.synced x (del_mem hx)) ?_
      have h2 := used_del (fs := D.fs) n
      have h4 := h.room
      omega
  | cut n k =>
    simp only [act, dCut]
    split
    · exact h
    · rename_i hr
      obtain ⟨_, hn, f, hg, hf⟩ := ready_zero (by simpa using hr)
      split
      · exact h
      · rename_i hk
        have h4 := h.room
        refine put_whole h n _ hn ?_ ?_
        · simp [List.length_take]; omega
        · simp [List.length_take]; omega
  | fus k =>
    simp only [act, dFuse]
    split
    · exact h
    · exact ⟨h.rises, h.names, h.synced, h.room, h.top, by show -1 ≤ k; omega⟩
  | cra l =>
    simp only [act, dCrash]
    split
    · exact h
    · have key : ∀ (fs : Fs) (l : List Int), Rises fs → (∀ x ∈ fs, okN x.1 = true) → (∀ x ∈ fs, x.2.s ≤ x.2.b.length) →
          (∀ x ∈ crashFs fs l, ∃ y ∈ fs, x.1 = y.1) ∧ Rises (crashFs fs l) ∧ (∀ x ∈ crashFs fs l, okN x.1 = true) ∧ (∀ x ∈ crashFs fs l, x.2.s ≤ x.2.b.length) ∧ used (crashFs fs l) ≤ used fs := by
        intro fs
        induction fs with
        | nil => intro l _ _ _; exact ⟨(fun x hx => by cases hx), trivial, (fun x hx => by cases hx), (fun x hx => by cases hx), Nat.le_refl _⟩
        | cons y r ih =>
          intro l h1 h2 h3
          obtain ⟨k, f⟩ := y
          obtain ⟨i0, i1, i2, i3, i4⟩ := ih l.tail h1.2 (fun x hx => h2 x (List.mem_cons_of_mem _ hx)) (fun x hx => h3 x (List.mem_cons_of_mem _ hx))
          have hf : f.s ≤ f.b.length := h3 (k, f) List.mem_cons_self
          have hmod : (l.headD 0).toNat % (f.b.length - f.s + 1) < f.b.length - f.s + 1 := Nat.mod_lt _ (by omega)
          refine ⟨?_, ⟨?_, i1⟩, ?_, ?_, ?_⟩
          · intro x hx
            rcases List.mem_cons.1 hx with rfl | hx
            · exact ⟨(k, f), List.mem_cons_self, rfl⟩
            · obtain ⟨y, hy, e⟩ := i0 x hx
              exact ⟨y, List.mem_cons_of_mem _ hy, e⟩
          · intro x hx
            obtain ⟨y, hy, e⟩ := i0 x hx
            rw [e]
            exact h1.1 y hy
          · intro x hx
            rcases List.mem_cons.1 hx with rfl | hx
            · exact h2 (k, f) List.mem_cons_self
            · exact i2 x hx
          · intro x hx
            rcases List.mem_cons.1 hx with rfl | hx
            · simp only [cutFil, List.length_take]; omega
            · exact i3 x hx
          · simp only [crashFs, used, cutFil, List.length_take]; omega
      obtain ⟨_, i1, i2, i3, i4⟩ := key D.fs l h.rises h.names h.synced
      have h4 := h.room
      exact ⟨i1, i2, i3, by show ((used (crashFs D.fs l) : Nat) : Int) ≤ D.size; omega, h.top, by show (-1 : Int) ≤ -1; omega⟩
end Go.Proofs.YtpckloafdlkefaaGreat.Dsk
