/-
  SlotLow in plain words: two slots in which the same are taken, and the row of those that are there.
-/
import Derived.Test.YtamglgampeoepaaDoorSlotNames
namespace Go.Proofs.YtamglgampeoepaaDoor
set_option maxRecDepth 40000
open Go.RowKit Go.Joins

structure Alike (s t : Sts) (L : List Int) : Prop where
  same : ∀ i, has s i = has t i
  nd : L.Nodup
  mem : ∀ i : Nat, (i : Int) ∈ L ↔ has s i = true
  nn : ∀ x ∈ L, 0 ≤ x
  c1 : cnt s = L.length
  c2 : cnt t = L.length
section
variable {s t : Sts} {L : List Int} {n : Nat} {u v : List Int}
theorem alike_nil : Alike [] [] [] := ⟨fun _ => rfl, List.nodup_nil, fun i => by simp [has], fun x hx => (by cases hx), rfl, rfl⟩
theorem Alike.low (h : Alike s t L) (hn : Low s n) : Low t n := ⟨by rw [← h.same]; exact hn.1, fun i hi => by rw [← h.same]; exact hn.2 i hi⟩
theorem Alike.le (h : Alike s t L) (hn : Low s n) : n ≤ L.length := by rw [← h.c1]; exact hn.cnt_le
theorem Alike.put (h : Alike s t L) (hn : Low s n) : Alike (putS s n u) (putS t n v) (L ++ [(n : Int)]) := by
  have ht := h.low hn
  refine ⟨fun i => by rw [has_put hn.le, has_put ht.le, h.same], ?_, fun i => ?_, fun x hx => ?_, ?_, ?_⟩
  · rw [List.nodup_append]
    refine ⟨h.nd, by simp, fun a ha b hb e => ?_⟩
    simp at hb
    subst hb
    subst e
    have := (h.mem n).1 ha
    rw [hn.1] at this
    cases this
  · rw [List.mem_append, h.mem, has_put hn.le]
    simp
    constructor
    · rintro (h1 | h1)
      · exact .inr h1
      · exact .inl (by omega)
    · rintro (h1 | h1)
      · exact .inr (by omega)
      · exact .inl h1
  · rcases List.mem_append.1 hx with h1 | h1
    · exact h.nn x h1
    · simp at h1; omega
  · rw [cnt_put hn.1, h.c1]; simp
  · rw [cnt_put ht.1, h.c2]; simp
theorem take_drop_mem {k : Nat} (hk : k < L.length) (hd : L.Nodup) (x : Int) : x ∈ L.take k ++ L.drop (k + 1) ↔ x ∈ L ∧ x ≠ L[k] := by
  have e : L = L.take k ++ L[k] :: L.drop (k + 1) := by rw [← List.drop_eq_getElem_cons hk, List.take_append_drop]
  have hd2 := hd
  rw [e, List.nodup_append] at hd2
  obtain ⟨_, d2, d3⟩ := hd2
  rw [List.nodup_cons] at d2
  constructor
  · intro hx
    rcases List.mem_append.1 hx with h1 | h1
    · exact ⟨List.mem_of_mem_take h1, d3 x h1 _ List.mem_cons_self⟩
    · exact ⟨List.mem_of_mem_drop h1, fun h2 => d2.1 (by rw [← h2]; exact h1)⟩
  · rintro ⟨hx, hne⟩
    rw [e] at hx
    rcases List.mem_append.1 hx with h1 | h1
    · exact List.mem_append_left _ h1
    · rcases List.mem_cons.1 h1 with h2 | h2
      · exact absurd h2 hne
      · exact List.mem_append_right _ h2
theorem Alike.at_ (h : Alike s t L) {k : Nat} (hk : k < L.length) : ∃ m : Nat, L[k] = (m : Int) ∧ has s m = true ∧ has t m = true := by
  have h0 := h.nn L[k] (List.getElem_mem hk)
  obtain ⟨m, hm⟩ : ∃ m : Nat, L[k] = (m : Int) := ⟨L[k].toNat, by omega⟩
  have h1 := (h.mem m).1 (by rw [← hm]; exact List.getElem_mem hk)
  exact ⟨m, hm, h1, by rw [← h.same]; exact h1⟩
theorem Alike.free (h : Alike s t L) {k m : Nat} (hk : k < L.length) (hm : L[k] = (m : Int)) : Alike (freeS s m) (freeS t m) (L.take k ++ L.drop (k + 1)) := by
  have h1 := (h.mem m).1 (by rw [← hm]; exact List.getElem_mem hk)
  have h2 := h1
  rw [h.same] at h2
  have hl : (L.take k ++ L.drop (k + 1)).length + 1 = L.length := by rw [List.length_append, List.length_take, List.length_drop]; omega
  refine ⟨fun i => by rw [has_free, has_free, h.same], ?_, fun i => ?_, fun x hx => ?_, ?_, ?_⟩
  · have hd := h.nd
    rw [show L = L.take k ++ L[k] :: L.drop (k + 1) by rw [← List.drop_eq_getElem_cons hk, List.take_append_drop], List.nodup_append] at hd
    rw [List.nodup_append]
    obtain ⟨d1, d2, d3⟩ := hd
    exact ⟨d1, (List.nodup_cons.1 d2).2, fun a ha b hb => d3 a ha b (List.mem_cons_of_mem _ hb)⟩
  · rw [take_drop_mem hk h.nd, h.mem, has_free, hm]
    simp
    intro _
    omega
  · exact h.nn x ((take_drop_mem hk h.nd x).1 hx).1
  · have := cnt_free h1; have := h.c1; omega
  · have := cnt_free h2; have := h.c2; omega
theorem freed_no {m : Nat} : hasI (freeS s m) (m : Int) = false := by rw [hasI_nat, has_free]; simp
end
section
variable {w W W' : World} {g g' : Nat} {F F' : List Nat} {s s' : SSt}
/-- Slots beside others that were written. -/
theorem sl_beside (L : Sl w W g F s) (ht : Touch W W' F') (hd : ∀ b ∈ F, b ∉ F') (hn : ∀ b ∈ F', w.heap.size ≤ b) : Sl w W' g F s :=
  ⟨L.at_.touch ht hd, L.new, L.below.trans (ht.below L.below.size hn)⟩
theorem sl_free (L : Sl w W g F s) (n : Nat) (hh : has s.st n = true) : Calls Tryd.prog 17 #[ptr g, .int .i64 (n : Int)] W fun e W' => e = .returned (.int .i64 0) ∧ ∃ F', Sl w W' g F' { s with st := freeS s.st n } ∧ Touch W W' F ∧ ∀ b ∈ F', b ∈ F ∨ W.heap.size ≤ b := by
  refine (free_ok L.at_ n hh).mono ?_
  rintro e W' ⟨rfl, hS⟩
  exact ⟨rfl, L.did hS⟩
end
end Go.Proofs.YtamglgampeoepaaDoor
