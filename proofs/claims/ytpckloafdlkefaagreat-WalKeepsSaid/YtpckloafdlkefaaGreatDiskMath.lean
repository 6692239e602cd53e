/-
  A disk, in plain words: files by rising names, their bytes, how many of them are synced, the room, the fuse, the power; what each act answers and leaves; what follows.
-/
namespace Go.Proofs.YtpckloafdlkefaaGreat.Dsk
set_option maxRecDepth 40000

abbrev Nm := List UInt8
/-- Byte by byte. -/
def nlt : Nm → Nm → Bool
  | [], [] => false
  | [], _ :: _ => true
  | _ :: _, [] => false
  | a :: r, b :: s => decide (a.toNat < b.toNat) || (a == b && nlt r s)
theorem nlt_irrefl (a : Nm) : nlt a a = false := by
  induction a with
  | nil => rfl
  | cons x r ih => simp [nlt, ih]
theorem nlt_trans {a b c : Nm} (h : nlt a b = true) (h2 : nlt b c = true) : nlt a c = true := by
  induction a generalizing b c with
  | nil => cases b with
    | nil => simp [nlt] at h
    | cons y s => cases c with
      | nil => simp [nlt] at h2
      | cons z t => rfl
  | cons x r ih => cases b with
    | nil => simp [nlt] at h
    | cons y s => cases c with
      | nil => simp [nlt] at h2
      | cons z t =>
        simp only [nlt, Bool.or_eq_true, Bool.and_eq_true, decide_eq_true_eq, beq_iff_eq] at h h2 ⊢
        rcases h with h | ⟨rfl, h⟩
        · rcases h2 with h2 | ⟨rfl, h2⟩
          · left; omega
          · left; exact h
        · rcases h2 with h2 | ⟨rfl, h2⟩
          · left; exact h2
          · right; exact ⟨rfl, ih h h2⟩
theorem nlt_total (a b : Nm) (h : nlt a b = false) (hne : a ≠ b) : nlt b a = true := by
  induction a generalizing b with
  | nil => cases b with
    | nil => exact absurd rfl hne
    | cons => simp [nlt] at h
  | cons x r ih => cases b with
    | nil => rfl
    | cons y s =>
      simp only [nlt, Bool.or_eq_false_iff, Bool.and_eq_false_imp, decide_eq_false_iff_not, beq_iff_eq] at h
      simp only [nlt, Bool.or_eq_true, Bool.and_eq_true, decide_eq_true_eq, beq_iff_eq]
      by_cases e : x = y
      · subst e
        right
        exact ⟨rfl, ih s (h.2 rfl) (fun e2 => hne (by rw [e2]))⟩
      · left
        have : x.toNat ≠ y.toNat := fun h3 => e (UInt8.toNat_inj.1 h3)
        omega

/-- A file: its bytes, how many of them are synced. -/
structure Fil where
  b : List UInt8
  s : Nat
  deriving DecidableEq
abbrev Fs := List (Nm × Fil)
/-- A disk: its room, files, fuse (-1: none), whether the power is gone. -/
structure Dk where
  size : Int
  fs : Fs
  fuse : Int
  off : Bool
  deriving DecidableEq

def get : Fs → Nm → Option Fil
  | [], _ => none
  | (m, f) :: r, n => if m = n then some f else get r n
def put : Fs → Nm → Fil → Fs
  | [], n, f => [(n, f)]
  | (m, g) :: r, n, f => if nlt n m then (n, f) :: (m, g) :: r else if m = n then (n, f) :: r else (m, g) :: put r n f
def del : Fs → Nm → Fs
  | [], _ => []
  | (m, g) :: r, n => if m = n then r else (m, g) :: del r n
def used : Fs → Nat
  | [] => 0
  | (_, f) :: r => f.b.length + used r
/-- The names rise. -/
def Rises : Fs → Prop
  | [] => True
  | (m, _) :: r => (∀ x ∈ r, nlt m x.1 = true) ∧ Rises r

theorem get_put (fs : Fs) (n m : Nm) (f : Fil) : get (put fs n f) m = if m = n then some f else get fs m := by
  induction fs with
  | nil =>
    simp only [put, get]
    by_cases h : m = n
    · subst h; simp
    · rw [if_neg h, if_neg (fun e => h e.symm)]
  | cons x r ih =>
    obtain ⟨k, g⟩ := x
    simp only [put]
    by_cases h1 : nlt n k = true
    · rw [if_pos h1]
      simp only [get]
      by_cases h : m = n
      · subst h; simp
      · rw [if_neg (fun e => h e.symm), if_neg h]
    · rw [if_neg h1]
      by_cases h2 : k = n
      · subst h2
        rw [if_pos rfl]
        simp only [get]
        by_cases h : m = k
        · subst h; simp
        · rw [if_neg (fun e => h e.symm), if_neg h, if_neg (fun e => h e.symm)]
      · rw [if_neg h2]
        simp only [get]
        by_cases h : k = m
        · subst h
          rw [if_pos rfl, if_neg h2, if_pos rfl]
        · rw [if_neg h, ih, if_neg h]
theorem get_mem {fs : Fs} {n : Nm} {f : Fil} (h : get fs n = some f) : (n, f) ∈ fs := by
  induction fs with
  | nil => cases h
  | cons x r ih =>
    obtain ⟨k, g⟩ := x
    simp only [get] at h
    by_cases hk : k = n
    · rw [if_pos hk] at h
      injection h with h
      subst h; subst hk
      exact List.mem_cons_self
    · rw [if_neg hk] at h
      exact List.mem_cons_of_mem _ (ih h)
theorem get_of_mem {fs : Fs} (hr : Rises fs) {n : Nm} {f : Fil} (h : (n, f) ∈ fs) : get fs n = some f := by
  induction fs with
  | nil => cases h
  | cons x r ih =>
    obtain ⟨k, g⟩ := x
    simp only [get]
    rcases List.mem_cons.1 h with h | h
    · injection h with h1 h2
      subst h1; subst h2
      rw [if_pos rfl]
    · have := hr.1 (n, f) h
      by_cases hk : k = n
      · subst hk
        rw [nlt_irrefl] at this
        cases this
      · rw [if_neg hk]
        exact ih hr.2 h
theorem put_mem {fs : Fs} {n : Nm} {f : Fil} {x : Nm × Fil} (h : x ∈ put fs n f) : x = (n, f) ∨ x ∈ fs := by
  induction fs with
  | nil => simp [put] at h; exact .inl h
  | cons y r ih =>
    obtain ⟨k, g⟩ := y
    simp only [put] at h
    split at h
    · rcases List.mem_cons.1 h with h | h
      · exact .inl h
      · exact .inr h
    · split at h
      · rcases List.mem_cons.1 h with h | h
        · exact .inl h
        · exact .inr (List.mem_cons_of_mem _ h)
      · rcases List.mem_cons.1 h with h | h
        · exact .inr (by rw [h]; exact List.mem_cons_self)
        · rcases ih h with h | h
          · exact .inl h
          · exact .inr (List.mem_cons_of_mem _ h)
theorem put_rises {fs : Fs} (hr : Rises fs) (n : Nm) (f : Fil) : Rises (put fs n f) := by
  induction fs with
  | nil => simp [put, Rises]
  | cons y r ih =>
    obtain ⟨k, g⟩ := y
    simp only [put]
    split
    · rename_i h1
      refine ⟨fun x hx => ?_, hr⟩
      rcases List.mem_cons.1 hx with hx | hx
      · rw [hx]; exact h1
      · exact nlt_trans h1 (hr.1 x hx)
    · rename_i h1
      split
      · rename_i h2
        subst h2
        exact ⟨hr.1, hr.2⟩
      · rename_i h2
        refine ⟨fun x hx => ?_, ih hr.2⟩
        rcases put_mem hx with hx | hx
        · rw [hx]
          exact nlt_total n k (by simpa using h1) (fun e => h2 e.symm)
        · exact hr.1 x hx
theorem get_none {fs : Fs} {n : Nm} (h : ∀ x ∈ fs, x.1 ≠ n) : get fs n = none := by
  induction fs with
  | nil => rfl
  | cons y r ih =>
    simp only [get]
    rw [if_neg (h y List.mem_cons_self)]
    exact ih fun x hx => h x (List.mem_cons_of_mem _ hx)
theorem used_put {fs : Fs} (hr : Rises fs) (n : Nm) (f : Fil) : used (put fs n f) + ((get fs n).map (·.b.length)).getD 0 = used fs + f.b.length := by
  induction fs with
  | nil => simp [put, used, get]
  | cons y r ih =>
    obtain ⟨k, g⟩ := y
    simp only [put]
    split
    · rename_i h1
      have hn : get ((k, g) :: r) n = none := get_none fun x hx => by
        rcases List.mem_cons.1 hx with hx | hx
        · rw [hx]; intro e; subst e; rw [nlt_irrefl] at h1; cases h1
        · intro e; subst e; have := nlt_trans h1 (hr.1 x hx); rw [nlt_irrefl] at this; cases this
      rw [hn]
      simp [used]
      omega
    · split
      · rename_i h2
        subst h2
        simp [used, get]
        omega
      · rename_i h1 h2
        have := ih hr.2
        simp only [used, get]
        rw [if_neg h2]
        omega
theorem del_mem {fs : Fs} {n : Nm} {x : Nm × Fil} (h : x ∈ del fs n) : x ∈ fs := by
  induction fs with
  | nil => cases h
  | cons y r ih =>
    obtain ⟨k, g⟩ := y
    simp only [del] at h
    split at h
    · exact List.mem_cons_of_mem _ h
    · rcases List.mem_cons.1 h with h | h
      · rw [h]; exact List.mem_cons_self
      · exact List.mem_cons_of_mem _ (ih h)
theorem del_rises {fs : Fs} (hr : Rises fs) (n : Nm) : Rises (del fs n) := by
  induction fs with
  | nil => trivial
  | cons y r ih =>
    obtain ⟨k, g⟩ := y
    simp only [del]
    split
    · exact hr.2
    · exact ⟨fun x hx => hr.1 x (del_mem hx), ih hr.2⟩
theorem get_del {fs : Fs} (hr : Rises fs) (n m : Nm) : get (del fs n) m = if m = n then none else get fs m := by
  induction fs with
  | nil => simp [del, get]
  | cons y r ih =>
    obtain ⟨k, g⟩ := y
    simp only [del]
    split
    · rename_i h
      subst h
      by_cases hm : m = k
      · subst hm
        rw [if_pos rfl]
        exact get_none fun x hx e => by have := hr.1 x hx; rw [e, nlt_irrefl] at this; cases this
      · rw [if_neg hm]
        simp only [get]
        rw [if_neg (fun e => hm e.symm)]
    · rename_i h
      simp only [get]
      by_cases hk : k = m
      · subst hk
        rw [if_pos rfl, if_neg h, if_pos rfl]
      · rw [if_neg hk, ih hr.2, if_neg hk]
theorem used_del {fs : Fs} (n : Nm) : used (del fs n) + ((get fs n).map (·.b.length)).getD 0 = used fs := by
  induction fs with
  | nil => rfl
  | cons y r ih =>
    obtain ⟨k, g⟩ := y
    simp only [del, get]
    split
    · simp [used]; omega
    · simp only [used]; omega
/-- Two that rise and have the same files are the same. -/
theorem rises_ext {fs gs : Fs} (hr : Rises fs) (hs : Rises gs) (h : ∀ n, get fs n = get gs n) : fs = gs := by
  induction fs generalizing gs with
  | nil => cases gs with
    | nil => rfl
    | cons y s => have := h y.1; simp [get] at this
  | cons x r ih => cases gs with
    | nil => have := h x.1; simp [get] at this
    | cons y s =>
      obtain ⟨k, f⟩ := x
      obtain ⟨m, g⟩ := y
      have hkm : k = m := by
        by_cases e : k = m
        · exact e
        · exfalso
          have h1 : get ((m, g) :: s) k = some f := by rw [← h k]; simp [get]
          have h2 : get ((k, f) :: r) m = some g := by rw [h m]; simp [get]
          have h3 := get_mem h1
          have h4 := get_mem h2
          rcases List.mem_cons.1 h3 with h3 | h3
          · injection h3 with h3; exact e h3
          · rcases List.mem_cons.1 h4 with h4 | h4
            · injection h4 with h4; exact e h4.symm
            · have := nlt_trans (hs.1 _ h3) (hr.1 _ h4)
              rw [nlt_irrefl] at this; cases this
      subst hkm
      have hf : f = g := by have := h k; simpa [get] using this
      subst hf
      congr 1
      refine ih hr.2 hs.2 fun n => ?_
      by_cases e : k = n
      · subst e
        rw [get_none (fs := r) fun x hx e => by have := hr.1 x hx; rw [e, nlt_irrefl] at this; cases this]
        rw [get_none (fs := s) fun x hx e => by have := hs.1 x hx; rw [e, nlt_irrefl] at this; cases this]
      · have := h n
        simp only [get] at this
        rwa [if_neg e, if_neg e] at this
end Go.Proofs.YtpckloafdlkefaaGreat.Dsk
