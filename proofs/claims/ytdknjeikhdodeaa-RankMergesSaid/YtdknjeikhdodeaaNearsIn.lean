/-
  Slices of pairs that came in, as a list.
-/
import Derived.Test.YtdknjeikhdodeaaPairs
namespace Go.Proofs.Ytdknjeikhdodeaa
open Go.RowKit Go.Sort

theorem nears_of {w : World} {x : Addr} {len : Nat} {V0 V1 : Nat → Value} (h : ∀ i, i < len → w.cell? (x.add (i * 2)) = some (V0 i) ∧ w.cell? (x.add (i * 2 + 1)) = some (V1 i) ∧ (∃ n, V0 i = .int .i64 n ∧ (Lit.int .i64 n).wf = true) ∧ ∃ n, V1 i = .int .i64 n ∧ (Lit.int .i64 n).wf = true) :
    ∃ l, Nears w 0 w.heap.size (some x) len l ∧ ∀ p ∈ l, (Lit.int .i64 p.1).wf = true ∧ (Lit.int .i64 p.2).wf = true := by
  refine ⟨(List.range len).map fun i => (intOf (V0 i), intOf (V1 i)), ⟨by simp, fun hn => ?_⟩, fun p hp => ?_⟩
  · obtain ⟨h0, _⟩ := h 0 hn
    obtain ⟨b, off, spot⟩ := x
    have hs : spot = none := by simpa [Addr.add] using World.cell?_spot h0
    subst hs
    refine ⟨b, off, rfl, Nat.zero_le _, ?_, fun j hj => ?_⟩
    · have := World.block_lt_of_cell? w _ h0
      rwa [addr_add] at this
    · have hj : j < len := by simpa using hj
      obtain ⟨e1, e2, ⟨n0, f0, _⟩, n1, f1, _⟩ := h j hj
      rw [addr_add] at e1 e2
      have e : ((List.range len).map fun i => (intOf (V0 i), intOf (V1 i))).getD j (0, 0) = (n0, n1) := by
        simp [List.getD_eq_getElem?_getD, hj, f0, f1, intOf]
      rw [e, e1, Nat.add_assoc, e2, f0, f1]
      exact ⟨rfl, rfl⟩
  · simp only [List.mem_map, List.mem_range] at hp
    obtain ⟨i, hi, rfl⟩ := hp
    obtain ⟨_, _, ⟨n0, f0, hw0⟩, n1, f1, hw⟩ := h i hi
    rw [f0, f1]
    exact ⟨hw0, hw⟩
end Go.Proofs.Ytdknjeikhdodeaa
