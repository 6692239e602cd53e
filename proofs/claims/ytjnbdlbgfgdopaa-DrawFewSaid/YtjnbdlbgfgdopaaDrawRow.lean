/-
  A map of one's own from numbers to numbers, as the row that is turned: what is looked up, what a change of two places leaves; the contracts of at and swap.
-/
import Derived.Test.YtjnbdlbgfgdopaaDrawMath
import Derived.Test.YtjnbdlbgfgdopaaCells
import Derived.Test.YtjnbdlbgfgdopaaTouch
import Derived.Maps.OwnSet
import Derived.Maps.Views
import Derived.WideKeyEntry
import Derived.ProofKit
import Derived.Handy
namespace Go.Proofs.Ytjnbdlbgfgdopaa
set_option maxRecDepth 40000
open Go.RowKit Go.Maps Go.ChangeShapes Go.WideShapes

theorem keyedI : Keyed Try.prog 3 := int_keyed Try.underlying3
theorem zeroI (w : World) : (zeroValue 3).run Try.prog w = .ok (.int .i64 0) w := by kernel_rfl
abbrev keyI (x : Int) : Lit := .int .i64 x
theorem keyI_at {x : Int} (hx : (Lit.int .i64 x).wf = true) : keyOf Try.prog 3 (.int .i64 x) = some (keyI x) := keyOf_int_mk Try.underlying3 hx
theorem keyI_ne {x y : Int} (h : x ≠ y) : keyI x ≠ keyI y := fun e => h (by injection e)
theorem wfI {x : Nat} (h : x < 4611686018427387904) : (Lit.int .i64 (x : Int)).wf = true := by
  have h1 : IntKind.i64.min ≤ (x : Int) := Int.le_trans (show IntKind.i64.min ≤ 0 by decide) (by omega)
  have h2 : (x : Int) ≤ IntKind.i64.max := Int.le_trans (show (x : Int) ≤ 4611686018427387904 by omega) (by decide)
  simp only [Lit.wf, h1, h2, decide_true, Bool.and_self]
/-- What is written at an entry that bears a stamp. -/
theorem stamp_at {w : World} {b clock j st : Nat} {es : Array MapEntry} {t : TypeId} {val : Value} (hb : w.heap[b]? = some (.map es clock)) (hi : es.findIdx? (fun e => ((e.born : Nat) : Int) == ((st : Nat) : Int)) = some j) :
    (Instr.entryStore t (.map (some b)) (.int .i64 st) val).run Try.prog w = .ok () (Go.ChangeMaps.setBlock w b (.map (es.modify j fun e => { e with val := val }) clock)) := by
  simp [Instr.entryStore, MapKept.run_getObj_map hb, asInt, asIntOf, hi, MapKept.run_setObj_map _ hb, Result.andThen, Go.ChangeMaps.setBlock]
theorem twice_set (w : World) (b : Nat) (x y : Obj) : Go.ChangeMaps.setBlock (Go.ChangeMaps.setBlock w b x) b y = Go.ChangeMaps.setBlock w b y := by
  simp [Go.ChangeMaps.setBlock]
/-- An entry that is laid and then written is what a store at once is. -/
theorem entry_store {t k e : TypeId} {R : Value → Option (DataW Unit × List MemPlace)} {w w' : World} {b clock : Nat} {es : Array MapEntry} {z key val : Value} {kl : Lit} (K : Keyed Try.prog k) (ht : Try.prog.underlying t = some (.map k e)) (hz : ∀ u : World, (zeroValue e).run Try.prog u = .ok z u)
    (hb : w.heap[b]? = some (.map es clock)) (Ft : Go.WideElems.Fit Try.prog k R es clock) (hkey : keyOf Try.prog k key = some kl) (hup : (Instr.mapUpdate t (.map (some b)) key val).run Try.prog w = .ok () w') :
    ∃ v0 st w2, (Instr.mapEntry t (.map (some b)) key).run Try.prog w = .ok (.tuple #[v0, .int .i64 ((st : Nat) : Int)]) w2 ∧ (Instr.entryStore t (.map (some b)) (.int .i64 ((st : Nat) : Int)) val).run Try.prog w2 = .ok () w' := by
  have hs := Ft.stamped
  rcases K.find w hkey es.toList Ft.keys with ⟨hno, _⟩ | ⟨j, e0, hyes, hat, hk0⟩
  · -- the key is new
    have e1 : (Instr.mapEntry t (.map (some b)) key).run Try.prog w = .ok (.tuple #[z, .int .i64 (clock : Int)]) (Go.ChangeMaps.setBlock w b (.map (es.push ⟨key, z, clock⟩) (clock + 1))) := by
      simp [Instr.mapEntry, run_underlying ht, MapKept.run_getObj_map hb, K.check w false hkey, hno, hz, goInt, MapKept.run_setObj_map _ hb, Result.andThen, Go.ChangeMaps.setBlock]
    have e2 : w' = Go.ChangeMaps.setBlock w b (.map (es.push ⟨key, val, clock⟩) (clock + 1)) := by
      simp [Instr.mapUpdate, run_underlying ht, MapKept.run_getObj_map hb, K.check w false hkey, hno, MapKept.run_setObj_map _ hb, Result.andThen] at hup
      rw [← hup]; rfl
    have hidx : (es.push ⟨key, z, clock⟩).findIdx? (fun e => ((e.born : Nat) : Int) == ((clock : Nat) : Int)) = some es.size := by
      have hno : ∀ x ∈ es.toList, (((x.born : Nat) : Int) == ((clock : Nat) : Int)) = false := fun x hx => by
        have := hs.1 x hx
        simp only [beq_eq_false_iff_ne, ne_eq]
        omega
      have h1 : es.toList.findIdx? (fun e => ((e.born : Nat) : Int) == ((clock : Nat) : Int)) = none := List.findIdx?_eq_none_iff.2 hno
      rw [Go.WideElems.findIdx_arr, Array.toList_push, List.findIdx?_append, h1]
      simp
    refine ⟨z, clock, _, e1, ?_⟩
    rw [stamp_at (Go.ChangeMaps.heap_setBlock_same hb _) hidx, twice_set, e2]
    have h3 : (es.push ⟨key, z, clock⟩).modify es.size (fun e => { e with val := val }) = es.push ⟨key, val, clock⟩ := by
      apply Array.ext'
      rw [Array.toList_modify, Array.toList_push, Array.toList_push, ← Array.length_toList]
      exact Go.WideElems.modify_last _ _ _
    rw [h3]
  · -- the key is there
    have hj : es[j]? = some e0 := by simpa using hat
    have hkeep : es.modify j (fun e => { e with key := key }) = es := by
      apply Array.ext'
      rw [Array.toList_modify, Go.ChangeMaps.modify_eq_set _ _ _ _ hat]
      subst hk0
      exact Go.WideElems.set_self _ _ _ hat
    have e1 : (Instr.mapEntry t (.map (some b)) key).run Try.prog w = .ok (.tuple #[e0.val, .int .i64 (e0.born : Int)]) (Go.ChangeMaps.setBlock w b (.map es clock)) := by
      simp [Instr.mapEntry, run_underlying ht, MapKept.run_getObj_map hb, K.check w false hkey, hyes, hj, hk0, K.stays w hkey, hkeep, goInt, MapKept.run_setObj_map _ hb, Result.andThen, Go.ChangeMaps.setBlock]
    have e2 : w' = Go.ChangeMaps.setBlock w b (.map (es.modify j (fun e' => { e' with key := key, val := val })) clock) := by
      simp [Instr.mapUpdate, run_underlying ht, MapKept.run_getObj_map hb, K.check w false hkey, hyes, hj, hk0, K.stays w hkey, MapKept.run_setObj_map _ hb, Result.andThen] at hup
      rw [← hup]; rfl
    have hidx : es.findIdx? (fun e => ((e.born : Nat) : Int) == ((e0.born : Nat) : Int)) = some j := by
      rw [Go.WideElems.findIdx_arr]
      exact Go.WideElems.findIdx_born hs.2.1 hat
    refine ⟨e0.val, e0.born, _, e1, ?_⟩
    rw [stamp_at (Go.ChangeMaps.heap_setBlock_same hb _) hidx, twice_set, e2]
    have h3 : es.modify j (fun e => { e with val := val }) = es.modify j (fun e' => { e' with key := key, val := val }) := by
      apply Array.ext'
      rw [Array.toList_modify, Array.toList_modify, Go.ChangeMaps.modify_eq_set _ _ _ _ hat, Go.ChangeMaps.modify_eq_set _ _ _ _ hat, ← hk0]
    rw [h3]
/-- Block M is a map of at most k entries that has for each number what f tells. -/
def MI (w : World) (M k : Nat) (f : Int → Option Int) : Prop :=
  ∃ D : DataW Unit, w.ownsMap Try.prog 3 (plainElem Try.prog 3) M k D ∧ ∀ x, (Lit.int .i64 x).wf = true → Maps.has D (keyI x) = (f x).isSome ∧ D.atKey (keyI x) (.lit (.int .i64 0)) = .lit (.int .i64 ((f x).getD 0))
section
variable {w w' : World} {M k : Nat} {f : Int → Option Int} {F : List Nat}
theorem mi_new (w : World) : MI (w.alloc (.map #[] 0)) w.heap.size 0 (fun _ => none) := ⟨.map [], World.ownsMap_made _ _ _ _, fun _ _ => ⟨rfl, rfl⟩⟩
theorem MI.lt (h : MI w M k f) : M < w.heap.size := by
  obtain ⟨D, hD, _⟩ := h
  exact hD.lt
theorem MI.touch (h : MI w M k f) (ht : Touch w w' F) (hM : M ∉ F) : MI w' M k f := by
  obtain ⟨D, ⟨es, clock, hb, r⟩, hf⟩ := h
  exact ⟨D, ⟨es, clock, (ht.block M (Array.getElem?_eq_some_iff.1 hb).1 hM).trans hb, r⟩, hf⟩
theorem MI.look (h : MI w M k f) {x : Int} (hx : (Lit.int .i64 x).wf = true) : (Instr.lookup 45 (.map (some M)) (.int .i64 x) true).run Try.prog w = .ok (.tuple #[.int .i64 ((f x).getD 0), .bool (f x).isSome]) w := by
  obtain ⟨D, hD, hf⟩ := h
  obtain ⟨v, ps, hrun, hat⟩ := hD.look_ok keyedI Try.underlying45 (zeroI _) (plainElem_int (H := Unit) (a := 0) Try.underlying3 (by decide)) (keyI_at hx)
  obtain ⟨h1, h2⟩ := hf x hx
  rw [h2] at hat
  obtain ⟨c, rfl, hc, _⟩ := plainElem_int_inv Try.underlying3 hat
  simp only [Prod.mk.injEq] at hc
  obtain ⟨hc, _⟩ := hc
  injection hc with hc
  injection hc with _ hc
  rw [hrun, h1, ← hc]
theorem MI.putD {D : DataW Unit} (hm : IsMap D) {x v : Int} (hx : (Lit.int .i64 x).wf = true) (hf : ∀ x, (Lit.int .i64 x).wf = true → Maps.has D (keyI x) = (f x).isSome ∧ D.atKey (keyI x) (.lit (.int .i64 0)) = .lit (.int .i64 ((f x).getD 0))) :
    ∀ y, (Lit.int .i64 y).wf = true → Maps.has (D.put (keyI x) (.lit (.int .i64 v))) (keyI y) = ((fun z => if z = x then some v else f z) y).isSome ∧ (D.put (keyI x) (.lit (.int .i64 v))).atKey (keyI y) (.lit (.int .i64 0)) = .lit (.int .i64 (((fun z => if z = x then some v else f z) y).getD 0)) := by
  intro y hy
  have hkl := keyedI.key (keyI_at hx)
  by_cases e : y = x
  · subst e
    rw [has_put_same hm hkl, atKey_put_same hm hkl]
    simp
  · rw [has_put_other (keyI_ne e), atKey_put_other (keyI_ne e)]
    simp only [if_neg e]
    exact hf y hy
theorem MI.put (h : MI w M k f) (hk : k < 1000000) {x v : Int} (hx : (Lit.int .i64 x).wf = true) (hv : (Lit.int .i64 v).wf = true) :
    ∃ w', (Instr.mapUpdate 45 (.map (some M)) (.int .i64 x) (.int .i64 v)).run Try.prog w = .ok () w' ∧ MI w' M (k + 1) (fun z => if z = x then some v else f z) ∧ w.grownBy w' (some M) := by
  obtain ⟨D, hD, hf⟩ := h
  obtain ⟨w', hrun, hD', hg'⟩ := hD.update (d := .lit (.int .i64 v)) (ps := []) keyedI Try.underlying45 (by unfold maxLen; omega) (keyI_at hx) (plainElem_int Try.underlying3 hv)
  exact ⟨w', hrun, ⟨_, hD', MI.putD hD.isMap hx hf⟩, hg'⟩
/-- The same by an entry that is laid and then written. -/
theorem MI.store (h : MI w M k f) (hk : k < 1000000) {x v : Int} (hx : (Lit.int .i64 x).wf = true) (hv : (Lit.int .i64 v).wf = true) :
    ∃ (v0 : Value) (st : Nat) (w2 w4 : World), (Instr.mapEntry 45 (.map (some M)) (.int .i64 x)).run Try.prog w = .ok (.tuple #[v0, .int .i64 st]) w2 ∧
      (Instr.entryStore 45 (.map (some M)) (.int .i64 st) (.int .i64 v)).run Try.prog w2 = .ok () w4 ∧ MI w4 M (k + 1) (fun z => if z = x then some v else f z) ∧ w.grownBy w4 (some M) := by
  obtain ⟨D, hD, hf⟩ := h
  have hm := hD.isMap
  have hkey := keyI_at hx
  obtain ⟨w', hup, hD', hg'⟩ := hD.update (d := .lit (.int .i64 v)) (ps := []) keyedI Try.underlying45 (by unfold maxLen; omega) hkey (plainElem_int Try.underlying3 hv)
  obtain ⟨es, clock, hb, Ft, _⟩ := hD
  obtain ⟨v0, st, w2, h1, h2⟩ := entry_store keyedI Try.underlying45 zeroI hb Ft hkey hup
  exact ⟨v0, st, w2, w', h1, h2, ⟨_, hD', MI.putD hm hx hf⟩, hg'⟩
end
/-- Block M is the row that is turned: a number that the map has not stands at its own place. -/
def RM (w : World) (M k : Nat) (g : Nat → Nat) : Prop := ∃ f, MI w M k f ∧ ∀ x : Nat, x < 4611686018427387904 → (f x).getD (x : Int) = (g x : Int)
theorem rm_new (w : World) : RM (w.alloc (.map #[] 0)) w.heap.size 0 (fun x => x) := ⟨_, mi_new w, fun _ _ => rfl⟩
theorem RM.lt {w : World} {M k : Nat} {g : Nat → Nat} (h : RM w M k g) : M < w.heap.size := by
  obtain ⟨f, h, _⟩ := h
  exact h.lt
theorem RM.touch {w w' : World} {M k : Nat} {g : Nat → Nat} {F : List Nat} (h : RM w M k g) (ht : Touch w w' F) (hM : M ∉ F) : RM w' M k g := by
  obtain ⟨f, h, h2⟩ := h
  exact ⟨f, h.touch ht hM, h2⟩
theorem at_any (M k : Nat) (g : Nat → Nat) (i : Nat) (w : World) (h : RM w M k g) (hi : i < 4611686018427387904) :
    Calls Try.prog 26 #[.map (some M), .int .i64 i] w fun e w' => e = .returned (.int .i64 (g i : Nat)) ∧ w' = w := by
  obtain ⟨f, h, h2⟩ := h
  have e := h2 i hi
  have hrun := h.look (wfI hi)
  cases hf : f (i : Int) with
  | none =>
    rw [hf] at hrun e
    have hrun : (Instr.lookup 45 (.map (some M)) (.int .i64 i) true).run Try.prog w = .ok (.tuple #[.int .i64 0, .bool false]) w := hrun
    have E : Hid ((i : Int) = (g i : Int)) := e
    clear e h2 hf h
    go_enter Try.func26, Try.ntmps26
    go_wp2
    go_ret
    exact ⟨by rw [E.out]; rfl, rfl⟩
  | some v =>
    rw [hf] at hrun e
    have hrun : (Instr.lookup 45 (.map (some M)) (.int .i64 i) true).run Try.prog w = .ok (.tuple #[.int .i64 v, .bool true]) w := hrun
    have E : Hid (v = (g i : Int)) := e
    clear e h2 hf h
    go_enter Try.func26, Try.ntmps26
    go_wp2
    go_ret
    exact ⟨by rw [E.out]; rfl, rfl⟩
theorem swap_any (M k : Nat) (g : Nat → Nat) (i j : Nat) (w : World) (h : RM w M k g) (hk : k < 100000) (hi : i < 4611686018427387904) (hj : j < 4611686018427387904) (hgi : g i < 4611686018427387904) (hgj : g j < 4611686018427387904) :
    Calls Try.prog 25 #[.map (some M), .int .i64 i, .int .i64 j] w fun e w' => e = .returned (.tuple #[]) ∧ RM w' M (k + 2) (swp g i j) ∧ w.grownBy w' (some M) := by
  have cj := at_any M k g j w h hj
  have ci := at_any M k g i w h hi
  obtain ⟨f, h1, h2⟩ := h
  obtain ⟨v0, st, w2, w4, r1, r2, h4, g4⟩ := h1.store (by omega) (wfI hi) (wfI hgj)
  obtain ⟨w5, r5, h5, g5⟩ := h4.put (by omega) (wfI hj) (wfI hgi)
  have H : Hid (RM w5 M (k + 2) (swp g i j)) := by
    refine ⟨_, h5, fun x hx => ?_⟩
    unfold swp
    by_cases e1 : x = j
    · subst e1; simp
    · have e1' : (x : Int) ≠ (j : Int) := fun e => e1 (Int.ofNat_inj.1 e)
      by_cases e2 : x = i
      · subst e2; simp only [if_neg e1, if_neg e1']; simp
      · have e2' : (x : Int) ≠ (i : Int) := fun e => e2 (Int.ofNat_inj.1 e)
        simp only [if_neg e1, if_neg e1', if_neg e2, if_neg e2']
        exact h2 x hx
  have G : Hid (w.grownBy w5 (some M)) := g4.trans g5
  clear h1 h2 h4 h5 g4 g5
  go_enter Try.func25, Try.ntmps25
  go_wp2_with fail
  refine cj.mono ?_
  rintro e w' ⟨rfl, rfl⟩
  go_wp2_with fail
  refine ci.mono ?_
  rintro e w' ⟨rfl, rfl⟩
  go_wp2
  go_returns
  exact ⟨rfl, H.out, G.out⟩
end Go.Proofs.Ytjnbdlbgfgdopaa
