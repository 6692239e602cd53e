/-
  A crash, file by file: plain words.
-/
import Derived.Test.YtkadljomimpnjaaDiskActs
namespace Go.Proofs.Ytkadljomimpnjaa.Dsk

/-- The files behind a crash of the first k. -/
def fsK : Fs → List Int → Nat → Fs
  | [], _, _ => []
  | x :: r, _, 0 => x :: r
  | (n, f) :: r, l, k + 1 => (n, cutFil f (l.headD 0)) :: fsK r l.tail k
theorem fsK_zero (fs : Fs) (l : List Int) : fsK fs l 0 = fs := by cases fs <;> rfl
theorem fsK_all : ∀ (fs : Fs) (l : List Int) (k : Nat), fs.length ≤ k → fsK fs l k = crashFs fs l
  | [], _, _, _ => rfl
  | (n, f) :: r, l, 0, h => by simp at h
  | (n, f) :: r, l, k + 1, h => by
    simp only [fsK, crashFs]
    rw [fsK_all r l.tail k (by simpa using h)]
theorem fsK_names : ∀ (fs : Fs) (l : List Int) (k : Nat), (fsK fs l k).map (·.1) = fs.map (·.1)
  | [], _, _ => rfl
  | x :: r, l, 0 => rfl
  | (n, f) :: r, l, k + 1 => by simp only [fsK, List.map_cons, fsK_names r l.tail k]
theorem rises_names {fs gs : Fs} (h : fs.map (·.1) = gs.map (·.1)) (hr : Rises gs) : Rises fs := by
  induction fs generalizing gs with
  | nil => trivial
  | cons x r ih =>
    cases gs with
    | nil => cases h
    | cons y s =>
      obtain ⟨n, f⟩ := x
      obtain ⟨m, g⟩ := y
      simp only [List.map_cons, List.cons.injEq] at h
      obtain ⟨rfl, h⟩ := h
      refine ⟨fun z hz => ?_, ih h hr.2⟩
      have : z.1 ∈ s.map (·.1) := by rw [← h]; exact List.mem_map_of_mem hz
      obtain ⟨u, hu, e⟩ := List.mem_map.1 this
      rw [← e]
      exact hr.1 u hu
theorem fsK_rises {fs : Fs} (hr : Rises fs) (l : List Int) (k : Nat) : Rises (fsK fs l k) := rises_names (fsK_names fs l k) hr
theorem headD_getD (l : List Int) : l.headD 0 = l.getD 0 0 := by cases l <;> rfl
theorem tail_getD (l : List Int) (k : Nat) : l.tail.getD k 0 = l.getD (k + 1) 0 := by cases l <;> simp
theorem put_head {n : Nm} {f g : Fil} {r : Fs} : put ((n, f) :: r) n g = (n, g) :: r := by
  simp [put, nlt_irrefl]
/-- One more file. -/
theorem fsK_step : ∀ {fs : Fs} (_ : Rises fs) (l : List Int) {k : Nat} {n : Nm} {f : Fil}, fs[k]? = some (n, f) → fsK fs l (k + 1) = put (fsK fs l k) n (cutFil f (l.getD k 0)) ∧ get (fsK fs l k) n = some f
  | [], _, _, _, _, _, h => by simp at h
  | (m, g) :: r, hr, l, 0, n, f, h => by
    simp at h
    obtain ⟨rfl, rfl⟩ := h
    simp only [fsK, fsK_zero]
    rw [put_head, headD_getD]
    exact ⟨rfl, by simp [get]⟩
  | (m, g) :: r, hr, l, k + 1, n, f, h => by
    have h1 : r[k]? = some (n, f) := by simpa using h
    obtain ⟨i1, i2⟩ := fsK_step hr.2 l.tail h1
    have hm : nlt m n = true := hr.1 (n, f) (List.mem_of_getElem? h1)
    have hne : m ≠ n := by rintro rfl; rw [nlt_irrefl] at hm; cases hm
    have hnm : ¬ nlt n m = true := fun h2 => by have := nlt_trans hm h2; rw [nlt_irrefl] at this; cases this
    constructor
    · show (m, cutFil g (l.headD 0)) :: fsK r l.tail (k + 1) = put ((m, cutFil g (l.headD 0)) :: fsK r l.tail k) n _
      simp only [put]
      rw [if_neg hnm, if_neg hne, i1, tail_getD]
    · show get ((m, cutFil g (l.headD 0)) :: fsK r l.tail k) n = _
      simp only [get]
      rw [if_neg hne]
      exact i2
end Go.Proofs.Ytkadljomimpnjaa.Dsk
