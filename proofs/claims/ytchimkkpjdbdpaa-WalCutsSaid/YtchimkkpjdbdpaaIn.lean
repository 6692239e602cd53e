/-
  Bytes, numbers and slices of bytes that came in.
-/
import Derived.Test.YtchimkkpjdbdpaaListsOf
import Derived.ProofKit
import Derived.OpenShut
import Derived.Deep.Slices
import Derived.Lib.SmallJoins
namespace Go.Proofs.Ytchimkkpjdbdpaa
set_option maxRecDepth 40000
open Go.RowKit Go.ChangeShapes Go.WideShapes Go.Deep Go.Joins

section
variable {Hx : Type} {enc : TypeId × Value → Hx} {w : World}
theorem bytes_read {fuel : Nat} {v : Value} {x : DataW Hx × List MemPlace} (h : DataW.trod enc Try.prog w 0 (fun _ => true) true fuel 34 [v] = some x) :
    ∃ a len cap l, v = .slice a len cap ∧ Row w 0 w.heap.size a len (U l) ∧ (a = none → cap = 0) ∧ len ≤ cap ∧ cap ≤ maxLen := by
  rcases open_ints Try.underlying34 Try.underlying5 (by kernel_rfl) h with ⟨hcs, _⟩ | ⟨x, l, c, zs, hcs, _, hl, hm, hz, _, hcell, hwz⟩
  · simp at hcs
    subst hcs
    obtain ⟨l, h1⟩ := row_in (w := w) (a := none) (len := 0) (cap := 0) (zs := []) (.inl ⟨rfl, rfl, rfl, rfl⟩)
    exact ⟨none, 0, 0, l, rfl, h1⟩
  · simp at hcs
    subst hcs
    obtain ⟨l, h1⟩ := row_in (.inr ⟨_, rfl, hl, hm, by simpa using hz, hcell, hwz⟩)
    exact ⟨_, _, _, l, rfl, h1⟩
set_option maxRecDepth 20000 in
/-- A slice of slices of bytes that came in. -/
theorem lists_read {fuel : Nat} {v : Value} {x : DataW Hx × List MemPlace} (h : DataW.trod enc Try.prog w 0 (fun _ => true) true fuel 51 [v] = some x) :
    ∃ a len cap ls vs, v = .slice a len cap ∧ BL w 0 w.heap.size a len ls vs ∧ (a = none → cap = 0) ∧ len ≤ cap ∧ cap ≤ maxLen := by
  rcases open_slice Try.underlying51 h with ⟨hcs, _⟩ | ⟨a, len, cap, m, n, D, Pl, hcs, _, hl, hm, hmm, _, hx⟩
  · simp at hcs
    subst hcs
    exact ⟨none, 0, 0, [], [], rfl, ⟨Row.empty, rfl, (fun k l h => by simp at h)⟩, fun _ => rfl, Nat.le_refl _, Nat.zero_le _⟩
  · simp at hcs
    subst hcs
    have ce : Try.prog.cellsOf 34 = 1 := by kernel_rfl
    have hlm : len ≤ m := by rw [hmm]; split <;> omega
    have each : ∀ i, i < len → ∃ q : Value × List UInt8, w.cell? (a.add i) = some q.1 ∧ ∃ B k c, q.1 = .slice B k c ∧ Row w 0 w.heap.size B k (U q.2) ∧ (B = none → c = 0) ∧ k ≤ c ∧ c ≤ maxLen := by
      intro i hi
      obtain ⟨cs', h1, h2⟩ := hx i (by omega)
      rw [ce] at h1
      obtain ⟨_, hlen, hcell⟩ := World.cells?_some h1
      match cs', hlen with
      | [u], _ =>
        obtain ⟨B, k, c, l, rfl, r⟩ := bytes_read h2
        have := hcell 0 (by simp)
        rw [add_add] at this
        simp at this
        exact ⟨(.slice B k c, l), this, B, k, c, rfl, r⟩
    obtain ⟨f, hf⟩ := choose_lt each
    refine ⟨some a, len, cap, (List.range len).map fun i => (f i).2, (List.range len).map fun i => (f i).1, rfl, ⟨⟨by simp, ?_⟩, by simp, ?_⟩, (fun e => by cases e), hl, hm⟩
    · intro hpos
      obtain ⟨b, off, spot⟩ := a
      have h0 := (hf 0 hpos).1
      have hs : spot = none := by simpa [Addr.add] using World.cell?_spot h0
      subst hs
      have hlt := World.block_lt_of_cell? w _ h0
      rw [addr_add] at hlt
      refine ⟨b, off, rfl, Nat.zero_le _, hlt, fun j u hu => ?_⟩
      have hj : j < len := by have := (List.getElem?_eq_some_iff.1 hu).1; simpa using this
      have e : (f j).1 = u := by simpa [hj] using hu
      have := (hf j hj).1
      rw [addr_add] at this
      rw [this, e]
    · intro k l hk
      have hj : k < len := by have := (List.getElem?_eq_some_iff.1 hk).1; simpa using this
      have e : (f k).2 = l := by simpa [hj] using hk
      obtain ⟨_, B, m', c, e1, r1, r2, r3, r4⟩ := hf k hj
      rw [e] at r1
      exact ⟨B, m', c, by simp [hj, e1], r1, r2, r3, r4⟩
theorem bytes_in {a : Option Addr} {len cap : Nat} {d : DataW Hx} {p : List MemPlace} (h : DataW.Trod enc Try.prog w 0 (fun _ => true) true 34 (.slice a len cap) d p) :
    ∃ l, Row w 0 w.heap.size a len (U l) ∧ (a = none → cap = 0) ∧ len ≤ cap ∧ cap ≤ maxLen := by
  obtain ⟨fuel, hf⟩ := h
  obtain ⟨_, _, _, l, e, r⟩ := bytes_read (v := .slice a len cap) (by simpa [Value.cells] using hf)
  injection e with e1 e2 e3
  subst e1 e2 e3
  exact ⟨l, r⟩
theorem lists_in {a : Option Addr} {len cap : Nat} {d : DataW Hx} {p : List MemPlace} (h : DataW.Trod enc Try.prog w 0 (fun _ => true) true 51 (.slice a len cap) d p) :
    ∃ l, ∃ vs, BL w 0 w.heap.size a len l vs ∧ (a = none → cap = 0) ∧ len ≤ cap ∧ cap ≤ maxLen := by
  obtain ⟨fuel, hf⟩ := h
  obtain ⟨_, _, _, l, vs, e, r⟩ := lists_read (v := .slice a len cap) (by simpa [Value.cells] using hf)
  injection e with e1 e2 e3
  subst e1 e2 e3
  exact ⟨l, vs, r⟩
end
end Go.Proofs.Ytchimkkpjdbdpaa
