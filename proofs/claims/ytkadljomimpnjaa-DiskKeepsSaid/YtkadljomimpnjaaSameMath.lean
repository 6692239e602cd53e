/-
  Two disks' files are the same: plain words; how many entries a map of files has.
-/
import Derived.Test.YtkadljomimpnjaaDiskUsed
namespace Go.Proofs.Ytkadljomimpnjaa
open Go.RowKit Go.Maps Go.WideElems Go.WideMaps Go.ChangeMaps Go.MapKept Go.WideShapes Dsk

theorem rises_nodup {fs : Fs} (hr : Rises fs) : (fs.map (·.1)).Nodup := by
  induction fs with
  | nil => exact List.nodup_nil
  | cons x r ih =>
    rw [List.map_cons, List.nodup_cons]
    refine ⟨fun hm => ?_, ih hr.2⟩
    obtain ⟨y, hy, e⟩ := List.mem_map.1 hm
    have := hr.1 y hy
    rw [e, nlt_irrefl] at this
    cases this
theorem get_isSome {fs : Fs} (n : Nm) : (Dsk.get fs n).isSome = true ↔ n ∈ fs.map (·.1) := by
  induction fs with
  | nil => simp [Dsk.get]
  | cons x r ih =>
    obtain ⟨m, f⟩ := x
    simp only [Dsk.get, List.map_cons, List.mem_cons]
    by_cases e : m = n
    · simp [e]
    · rw [if_neg e, ih]
      constructor
      · exact .inr
      · rintro (h | h)
        · exact absurd h.symm e
        · exact h
set_option maxRecDepth 20000 in
/-- The keys of a map of files are names. -/
theorem owns_names {w : World} {M n : Nat} {Dm : DataW Unit} (h : w.ownsMap Try.prog 9 ptrElem M n Dm) : ∃ es, Dm = .map es ∧ es.Pairwise (fun p q => p.1 ≠ q.1) ∧ ∀ p ∈ es, ∃ m : Nm, p.1 = .string m := by
  obtain ⟨es, clock, _, F, _, rfl⟩ := h
  refine ⟨_, rfl, ((sorted_perm _).pairwise_iff (fun {_ _} hne => Ne.symm hne)).2 (Maps.fit_apart keyedS F), fun p hp => ?_⟩
  obtain ⟨x, hx, rfl⟩ := List.mem_map.1 (mem_sorted.1 hp)
  obtain ⟨y, hy⟩ := F.reads x hx
  rw [rg_of hy]
  have hk := rd_key hy
  obtain ⟨m, hm⟩ := inv_key _ _ hk
  rw [hm] at hk
  exact ⟨m, key_lit hk⟩
def nmOf : Lit → Nm
  | .string n => n
  | _ => []
theorem size_files {w : World} {M n : Nat} {Dm : DataW Unit} {fs : Fs} (h : w.ownsMap Try.prog 9 ptrElem M n Dm) (hh : ∀ m, Maps.has Dm (.string m) = (Dsk.get fs m).isSome) (hr : Rises fs) : Maps.size Dm = fs.length := by
  obtain ⟨es, rfl, hp, hs⟩ := owns_names h
  rw [size_eq]
  have hnd : (es.map fun p => nmOf p.1).Nodup := by
    unfold List.Nodup
    rw [List.pairwise_map]
    refine hp.imp_of_mem ?_
    intro a b ha hb hne e
    obtain ⟨m, hm⟩ := hs a ha
    obtain ⟨k, hk⟩ := hs b hb
    rw [hm, hk] at e
    have e : m = k := e
    exact hne (by rw [hm, hk, e])
  have hmem : ∀ m, m ∈ (es.map fun p => nmOf p.1) ↔ m ∈ fs.map (·.1) := by
    intro m
    rw [← get_isSome, ← hh, has_eq, List.any_eq_true, List.mem_map]
    constructor
    · rintro ⟨p, hp, e⟩
      obtain ⟨k, hk⟩ := hs p hp
      refine ⟨p, hp, ?_⟩
      rw [hk] at e ⊢
      rw [same_key]
      exact decide_eq_true e
    · rintro ⟨p, hp, e⟩
      obtain ⟨k, hk⟩ := hs p hp
      rw [hk, same_key] at e
      exact ⟨p, hp, by rw [hk]; exact of_decide_eq_true e⟩
  have := ((List.perm_ext_iff_of_nodup hnd (rises_nodup hr)).2 hmem).length_eq
  simpa using this
/-- As many files, and all of the one are the other's. -/
theorem fs_eq {fs gs : Fs} (hr : Rises fs) (hs : Rises gs) (hl : fs.length = gs.length) (h : ∀ n f, Dsk.get fs n = some f → Dsk.get gs n = some f) : fs = gs := by
  induction fs generalizing gs with
  | nil => exact (List.eq_nil_of_length_eq_zero hl.symm).symm
  | cons x r ih =>
    obtain ⟨n, f⟩ := x
    have hn : Dsk.get gs n = some f := h n f (by simp [Dsk.get])
    have hrn : ∀ m g, Dsk.get r m = some g → m ≠ n := fun m g hm e => by
      have := hr.1 _ (get_mem hm)
      rw [e, nlt_irrefl] at this
      cases this
    have hd := del_len_some hn
    have e := ih hr.2 (del_rises hs n) (by simp at hl; omega) (fun m g hm => by
      have hne := hrn m g hm
      rw [get_del hs, if_neg hne]
      refine h m g ?_
      simp only [Dsk.get]
      rw [if_neg (fun e => hne e.symm), hm])
    refine rises_ext hr hs fun m => ?_
    simp only [Dsk.get]
    by_cases em : n = m
    · subst em; rw [if_pos rfl, hn]
    · rw [if_neg em, e, get_del hs, if_neg (fun e => em e.symm)]
end Go.Proofs.Ytkadljomimpnjaa
