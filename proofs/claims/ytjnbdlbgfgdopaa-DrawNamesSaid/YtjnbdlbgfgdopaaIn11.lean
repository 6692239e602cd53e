/-
  Numbers that came in, of 64 bits with a sign and without.
-/
import Derived.Test.YtjnbdlbgfgdopaaCells
import Derived.Test.YtjnbdlbgfgdopaaProg
import Derived.ProofKit
import Derived.OpenShut
import Derived.Deep.Slices
import Derived.Lib.SmallJoins
namespace Go.Proofs.Ytjnbdlbgfgdopaa
set_option maxRecDepth 40000
open Go.RowKit Go.ChangeShapes Go.WideShapes Go.Deep Go.Joins

section
variable {Hx : Type} {enc : TypeId × Value → Hx} {w : World}
theorem nums_in {K : IntKind} {t e : TypeId} (ht : Try.prog.underlying t = some (.slice e)) (he : Try.prog.underlying e = some (.int K)) (hz : Try.prog.cellsOf e = 1) {a : Option Addr} {len cap : Nat} {d : DataW Hx} {p : List MemPlace} (h : DataW.Trod enc Try.prog w 0 (fun _ => true) true t (.slice a len cap) d p) :
    ∃ l, Row w 0 w.heap.size a len (IK K l) ∧ (∀ n ∈ l, (Lit.int K n).wf = true) ∧ (a = none → cap = 0) ∧ len ≤ cap ∧ cap ≤ maxLen := by
  obtain ⟨fuel, hf⟩ := h
  have hf : DataW.trod enc Try.prog w 0 (fun _ => true) true fuel t [.slice a len cap] = some (d, p) := by simpa [Value.cells] using hf
  rcases open_ints ht he hz hf with ⟨hcs, _⟩ | ⟨x, l, c, zs, hcs, _, hl, hm, hz, _, hcell, hwz⟩
  · simp at hcs
    obtain ⟨h1, h2, h3⟩ := hcs
    exact rowk_in (zs := []) (.inl ⟨h1, h2, h3, rfl⟩)
  · simp at hcs
    obtain ⟨h1, h2, h3⟩ := hcs
    subst h1 h2 h3
    exact rowk_in (.inr ⟨_, rfl, hl, hm, by simpa using hz, hcell, hwz⟩)
theorem ints_in {a : Option Addr} {len cap : Nat} {d : DataW Hx} {p : List MemPlace} (h : DataW.Trod enc Try.prog w 0 (fun _ => true) true 22 (.slice a len cap) d p) :
    ∃ l, Row w 0 w.heap.size a len (IK .i64 l) ∧ (∀ n ∈ l, (Lit.int .i64 n).wf = true) ∧ (a = none → cap = 0) ∧ len ≤ cap ∧ cap ≤ maxLen :=
  nums_in Try.underlying22 Try.underlying3 (by kernel_rfl) h
theorem words_in {a : Option Addr} {len cap : Nat} {d : DataW Hx} {p : List MemPlace} (h : DataW.Trod enc Try.prog w 0 (fun _ => true) true 28 (.slice a len cap) d p) :
    ∃ l, Row w 0 w.heap.size a len (IK .u64 l) ∧ (∀ n ∈ l, (Lit.int .u64 n).wf = true) ∧ (a = none → cap = 0) ∧ len ≤ cap ∧ cap ≤ maxLen :=
  nums_in Try.underlying28 Try.underlying27 (by kernel_rfl) h
end
end Go.Proofs.Ytjnbdlbgfgdopaa
