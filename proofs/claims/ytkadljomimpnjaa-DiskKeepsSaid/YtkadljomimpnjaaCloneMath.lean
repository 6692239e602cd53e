/-
  The files that a range over a map is through with: plain words.
-/
import Derived.Test.YtkadljomimpnjaaDiskUsed
namespace Go.Proofs.Ytkadljomimpnjaa
open Go.Maps Dsk

def outF (left : Lit → Bool) (fs : Fs) : Fs := fs.filter fun x => !left (.string x.1)
theorem outF_rises {left : Lit → Bool} {fs : Fs} (hr : Rises fs) : Rises (outF left fs) := by
  induction fs with
  | nil => trivial
  | cons x r ih =>
    obtain ⟨n, f⟩ := x
    unfold outF
    rw [List.filter_cons]
    split
    · exact ⟨fun y hy => hr.1 y (List.mem_filter.1 hy).1, ih hr.2⟩
    · exact ih hr.2
theorem outF_get {left : Lit → Bool} {fs : Fs} (m : Nm) : Dsk.get (outF left fs) m = if left (.string m) then none else Dsk.get fs m := by
  induction fs with
  | nil => cases left (.string m) <;> rfl
  | cons x r ih =>
    obtain ⟨n, f⟩ := x
    unfold outF at ih ⊢
    rw [List.filter_cons]
    by_cases e : n = m
    · subst e
      cases hl : left (.string n) with
      | true =>
        rw [hl] at ih
        simpa using ih
      | false => simp [Dsk.get]
    · split
      · simp only [Dsk.get]
        rw [if_neg e, if_neg e]
        exact ih
      · simp only [Dsk.get]
        rw [if_neg e]
        exact ih
theorem outF_step {left : Lit → Bool} {fs : Fs} (hr : Rises fs) {n : Nm} {f : Fil} (hn : Dsk.get fs n = some f) : outF (fun z => left z && !z.sameKey (.string n)) fs = put (outF left fs) n f :=
  rises_ext (outF_rises hr) (put_rises (outF_rises hr) n f) fun m => by
    rw [get_put, outF_get, outF_get, same_key]
    by_cases e : m = n
    · subst e; simp [hn]
    · simp [e]
theorem outF_all {left : Lit → Bool} {fs : Fs} (h : ∀ kl, left kl = false) : outF left fs = fs := by
  unfold outF
  rw [List.filter_eq_self]
  intro x _
  rw [h]; rfl
theorem outF_none {left : Lit → Bool} {fs : Fs} (h : ∀ n f, (n, f) ∈ fs → left (.string n) = true) : outF left fs = [] := by
  unfold outF
  rw [List.filter_eq_nil_iff]
  intro x hx
  rw [h x.1 x.2 hx]; decide
/-- A map that is made with a hint. -/
theorem makeMap_hint (n : Nat) (w : World) : (Instr.makeMap 59 (some (.int .i64 (n : Int)))).run Try.prog w = .ok (.map (some w.heap.size)) (w.alloc (.map #[] 0)) := by
  simp [Instr.makeMap, asIntOf, go_sem]
end Go.Proofs.Ytkadljomimpnjaa
