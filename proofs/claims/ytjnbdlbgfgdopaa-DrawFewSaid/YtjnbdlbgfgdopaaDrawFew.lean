/-
  The walk of DrawFew: picks hang on no draw behind the last one that is needed, and on each draw by its rest alone.
-/
import Derived.Test.YtjnbdlbgfgdopaaDrawKit
namespace Go.Proofs.Ytjnbdlbgfgdopaa
set_option maxRecDepth 40000
set_option linter.unusedVariables false
open Go.RowKit

/-- A place of a row of one's own: what is read there, and what is there once it is written. -/
theorem own_at {K : IntKind} {et : TypeId} {w : World} {base n : Nat} {v : Value} {l : List Int} {j : Nat} (h : w.ownsRow base et 1 v n (IK K l)) (hj : j < n) :
    ∃ g c, v = .slice (some ⟨g, 0, none⟩) n c ∧ base ≤ g ∧ g < w.heap.size ∧ n ≤ c ∧ w.cell? ⟨g, j, none⟩ = some (.int K (l.getD j 0)) ∧ w.frozen? ⟨g, j, none⟩ = false ∧ ∀ x, (w.setCell ⟨g, j, none⟩ (.int K x)).ownsRow base et 1 v n (IK K (l.set j x)) := by
  obtain ⟨h1, h2⟩ := h
  rw [IK_len, Nat.mul_one] at h1
  rcases h2 with ⟨_, h0⟩ | ⟨g, cap, cur, rfl, hb, hg, hnc, hcm, hcs, ht⟩
  · omega
  rw [Nat.mul_one] at hcs ht
  have hc : cur[j]? = some (.int K (l.getD j 0)) := by
    have := congrArg (fun z => z[j]?) ht
    simp only [List.getElem?_take, if_pos hj] at this
    rw [← Array.getElem?_toList, this, IK_get _ _ _ (by omega), List.getD_eq_getElem?_getD, List.getElem?_eq_getElem (by omega)]
    rfl
  have hB : Blk w g et cur := hg
  refine ⟨g, cap, rfl, hb, hB.lt, hnc, by rw [hB.cell]; exact hc, hB.frozen j, fun x => ⟨by rw [IK_len, Nat.mul_one, List.length_set]; exact h1, .inr ⟨g, cap, _, rfl, hb, hB.set j (.int K x), hnc, hcm, by simp; omega, ?_⟩⟩⟩
  rw [Nat.mul_one, Array.toList_setIfInBounds]
  unfold IK at ht ⊢
  rw [List.map_set, ← ht, List.take_set]
/-- The first i numbers changed by f. -/
def mixL (f : Nat → Int → Int) (l : List Int) (i : Nat) : List Int := l.mapIdx fun j x => if j < i then f j x else x
theorem mix_len (f : Nat → Int → Int) (l : List Int) (i : Nat) : (mixL f l i).length = l.length := by simp [mixL]
theorem mix_get (f : Nat → Int → Int) (l : List Int) (i j : Nat) : (mixL f l i)[j]? = (l[j]?).map fun x => if j < i then f j x else x := by simp [mixL]
theorem mix_none (f : Nat → Int → Int) (l : List Int) : mixL f l 0 = l := by
  apply List.ext_getElem?
  intro j
  rw [mix_get]
  cases l[j]? <;> simp
theorem mix_at (f : Nat → Int → Int) (l : List Int) (i : Nat) : (mixL f l i).getD i 0 = l.getD i 0 := by
  rw [List.getD_eq_getElem?_getD, List.getD_eq_getElem?_getD, mix_get]
  cases l[i]? <;> simp
theorem mix_succ (f : Nat → Int → Int) (l : List Int) (i : Nat) : (mixL f l i).set i (f i (l.getD i 0)) = mixL f l (i + 1) := by
  apply List.ext_getElem?
  intro j
  rw [List.getElem?_set, mix_len, mix_get, mix_get]
  by_cases e : i = j
  · subst e
    rw [if_pos rfl, List.getD_eq_getElem?_getD]
    by_cases h : i < l.length
    · rw [if_pos h, List.getElem?_eq_getElem h]; simp
    · rw [if_neg h, List.getElem?_eq_none (by omega)]; rfl
  · rw [if_neg e]
    cases l[j]? with
    | none => rfl
    | some x =>
      simp only [Option.map_some]
      by_cases h : j < i
      · rw [if_pos h, if_pos (by omega)]
      · rw [if_neg h, if_neg (by omega)]
def lowF (_ : Nat) (x : Int) : Int := x % 1099511627776
def moreF (n : Nat) (j : Nat) (x : Int) : Int := x % 1099511627776 + ((n - j : Nat) : Int) * ((j + 1 : Nat) : Int)
theorem dr_at {l : List Int} {i : Nat} (h : i < l.length) : dr l i = l.getD i 0 := by
  unfold dr
  rw [Nat.mod_eq_of_lt h, List.getD_eq_getElem?_getD]
theorem low_same {l B : List Int} {n k : Nat} (hl : l.length = k) (hk : k ≤ n) : pks (mixL lowF l k ++ B) n k = pks (mixL lowF l k) n k := by
  refine pks_congr hk fun i hi => ?_
  rw [dr_at (by rw [List.length_append, mix_len]; omega), dr_at (by rw [mix_len]; omega), List.getD_eq_getElem?_getD, List.getD_eq_getElem?_getD, List.getElem?_append_left (by rw [mix_len]; omega)]
theorem more_same {l : List Int} {n k : Nat} (hl : l.length = k) (hk : k ≤ n) : pks (mixL lowF l k) n k = pks (mixL (moreF n) l k) n k := by
  refine pks_congr hk fun i hi => ?_
  rw [dr_at (by rw [mix_len]; omega), dr_at (by rw [mix_len]; omega), List.getD_eq_getElem?_getD, List.getD_eq_getElem?_getD, mix_get, mix_get, List.getElem?_eq_getElem (by omega)]
  simp only [Option.map_some, Option.getD_some, if_pos hi]
  unfold lowF moreF
  obtain ⟨x, hx⟩ := Int.eq_ofNat_of_zero_le (Int.emod_nonneg (l[i]'(by omega)) (show (1099511627776 : Int) ≠ 0 by omega))
  rw [hx, ← Int.natCast_mul, ← Int.natCast_add, Int.toNat_natCast, Int.toNat_natCast, Nat.add_mul_mod_self_left]
theorem mix_wf {f : Nat → Int → Int} {l : List Int} {k : Nat} (hl : l.length = k) (hf : ∀ j x, j < k → x ∈ l → 0 ≤ f j x ∧ f j x ≤ 18446744073709551615) : ∀ x ∈ mixL f l k, 0 ≤ x ∧ x ≤ 18446744073709551615 := by
  intro x hx
  obtain ⟨j, hj⟩ := List.getElem?_of_mem hx
  rw [mix_get] at hj
  cases h : l[j]? with
  | none => rw [h] at hj; cases hj
  | some y =>
    have hjl : j < k := by rw [← hl]; exact (List.getElem?_eq_some_iff.1 h).1
    rw [h] at hj
    simp only [Option.map_some, if_pos hjl, Option.some.injEq] at hj
    rw [← hj]
    exact hf j y hjl (List.mem_of_getElem? h)
theorem low_wf {l : List Int} {k : Nat} (hl : l.length = k) : ∀ x ∈ mixL lowF l k, 0 ≤ x ∧ x ≤ 18446744073709551615 :=
  mix_wf hl fun j x _ _ => by unfold lowF; omega
theorem more_wf {l : List Int} {n k : Nat} (hl : l.length = k) (hk : k ≤ n) (hn : n ≤ 60) : ∀ x ∈ mixL (moreF n) l k, 0 ≤ x ∧ x ≤ 18446744073709551615 :=
  mix_wf hl fun j x hj _ => by
    unfold moreF
    have h1 : (n - j) * (j + 1) ≤ 60 * 60 := Nat.mul_le_mul (by omega) (by omega)
    rw [← Int.natCast_mul]
    omega
end Go.Proofs.Ytjnbdlbgfgdopaa
