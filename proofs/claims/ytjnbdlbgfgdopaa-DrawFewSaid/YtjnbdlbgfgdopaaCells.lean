/-
  Slices of whole numbers of any width that read as a list; a row of the call's own is a slice; what numbers of a width are. No condition but those that each theorem writes out.
-/
import Derived.Test.YtjnbdlbgfgdopaaWords
namespace Go.Proofs.Ytjnbdlbgfgdopaa
set_option maxRecDepth 40000
open Go.RowKit

/-- Whole numbers of a width as cells. -/
def IK (K : IntKind) (l : List Int) : List Value := l.map (Value.int K)
theorem IK_len (K : IntKind) (l : List Int) : (IK K l).length = l.length := by simp [IK]
theorem IK_get (K : IntKind) (l : List Int) (k : Nat) (h : k < l.length) : (IK K l)[k]? = some (.int K l[k]) := by simp [IK, h]
theorem IK_one (K : IntKind) (l : List Int) : ∀ u ∈ IK K l, u.oneCell' = true := by
  intro u hu
  simp only [IK, List.mem_map] at hu
  obtain ⟨c, _, rfl⟩ := hu
  rfl
theorem IK_append (K : IntKind) (l m : List Int) : IK K (l ++ m) = IK K l ++ IK K m := by simp [IK]
theorem rowk_in {K : IntKind} {w : World} {a : Option Addr} {len cap : Nat} {zs : List Int}
    (h : (a = none ∧ len = 0 ∧ cap = 0 ∧ zs = []) ∨ ∃ x, a = some x ∧ len ≤ cap ∧ cap ≤ maxLen ∧ zs.length = cap ∧ (∀ i, i < zs.length → w.cell? (x.add i) = some (.int K (zs.getD i 0))) ∧ ∀ n ∈ zs, (Lit.int K n).wf = true) :
    ∃ l : List Int, Row w 0 w.heap.size a len (IK K l) ∧ (∀ n ∈ l, (Lit.int K n).wf = true) ∧ (a = none → cap = 0) ∧ len ≤ cap ∧ cap ≤ maxLen := by
  rcases h with ⟨rfl, rfl, rfl, _⟩ | ⟨x, rfl, hl, hm, hz, hc, hw⟩
  · exact ⟨[], Row.empty, (fun n hn => by cases hn), fun _ => rfl, Nat.le_refl _, Nat.zero_le _⟩
  · refine ⟨zs.take len, ⟨by simp [IK]; omega, fun hn => ?_⟩, fun n hn => hw n (List.mem_of_mem_take hn), (fun h => by cases h), hl, hm⟩
    obtain ⟨b, off, spot⟩ := x
    have h0 := hc 0 (by omega)
    have hs : spot = none := by simpa [Addr.add] using World.cell?_spot h0
    subst hs
    refine ⟨b, off, rfl, Nat.zero_le _, ?_, fun j u hu => ?_⟩
    · have := World.block_lt_of_cell? w _ h0
      rwa [addr_add] at this
    · have hj : j < len := by
        have := (List.getElem?_eq_some_iff.1 hu).1
        simp [IK] at this
        omega
      have hj' : j < zs.length := by omega
      have := hc j hj'
      rw [addr_add] at this
      rw [this, ← hu]
      simp [IK, hj, hj']
theorem wf_i32 {n : Int} (h : (Lit.int .i32 n).wf = true) : -2147483648 ≤ n ∧ n ≤ 2147483647 := by
  simpa [Lit.wf, IntKind.min, IntKind.max, IntKind.signed, IntKind.bits] using h
theorem wf_u8 {n : Int} (h : (Lit.int .u8 n).wf = true) : 0 ≤ n ∧ n ≤ 255 := by
  simpa [Lit.wf, IntKind.min, IntKind.max, IntKind.signed, IntKind.bits] using h
theorem wf_u16 {n : Int} (h : (Lit.int .u16 n).wf = true) : 0 ≤ n ∧ n ≤ 65535 := by
  simpa [Lit.wf, IntKind.min, IntKind.max, IntKind.signed, IntKind.bits] using h
theorem wf_u32 {n : Int} (h : (Lit.int .u32 n).wf = true) : 0 ≤ n ∧ n ≤ 4294967295 := by
  simpa [Lit.wf, IntKind.min, IntKind.max, IntKind.signed, IntKind.bits] using h
theorem wf_i8 {n : Int} (h : (Lit.int .i8 n).wf = true) : -128 ≤ n ∧ n ≤ 127 := by
  simpa [Lit.wf, IntKind.min, IntKind.max, IntKind.signed, IntKind.bits] using h
theorem wf_i16 {n : Int} (h : (Lit.int .i16 n).wf = true) : -32768 ≤ n ∧ n ≤ 32767 := by
  simpa [Lit.wf, IntKind.min, IntKind.max, IntKind.signed, IntKind.bits] using h
theorem own_slice {w : World} {base : Nat} {e : TypeId} {v : Value} {n : Nat} {xs : List Value} (h : w.ownsRow base e 1 v n xs) : ∃ A c, v = .slice A n c := by
  rcases h.2 with ⟨rfl, rfl⟩ | ⟨g, cap, cur, rfl, _, _, hc, _⟩
  · exact ⟨none, 0, rfl⟩
  · exact ⟨_, cap, rfl⟩
end Go.Proofs.Ytjnbdlbgfgdopaa
