/-
  A map keyed by pairs, of numbers, that the call itself made: what is looked up, what a store at an entry leaves. No condition but those that each theorem writes out.
-/
import Derived.Test.YtdknjeikhdodeaaNearsIn
import Derived.Test.YtdknjeikhdodeaaTop
import Derived.Maps.OwnOps
import Derived.Maps.Views
import Derived.WideKeyEntry
import Derived.DeepKeys4
import Derived.MapViews
import Derived.Lib.SmallJoins
namespace Go.Proofs.Ytdknjeikhdodeaa
open Go.RowKit Go.Sort Go.ChangeShapes Go.WideShapes Go.Maps

theorem laid29 : laidOutB Try.prog = true := by kernel_rfl
theorem row29 : (29 : TypeId) < Try.prog.types.size := of_decide_eq_true (by kernel_rfl)
theorem wide29 : (match Try.prog.underlying 29 with | some (.array _ _) | some (.struct _) => true | _ => false) = true := by rw [Try.underlying29]
theorem deep29 : Try.prog.keyTypeAt (Try.prog.types.size + 1) 29 = true := by kernel_rfl
theorem law29 : Go.WideMaps.KeyLaw Try.prog 29 := deep_law_laid laid29 (m := 2) (by omega) row29 (by kernel_rfl) wide29
theorem keyed29 : Keyed Try.prog 29 := Keyed.of_law law29
theorem formed29 {c0 c1 : Value} : (Value.agg #[c0, c1]).formed Try.prog 29 = true := by
  have h : Try.prog.cellsOf 29 = 2 := by kernel_rfl
  simp [Value.formed, Try.underlying29, h]
theorem zero3 (w : World) : (zeroValue 3).run Try.prog w = .ok (.int .i64 0) w := by kernel_rfl
/-- A pair within 64 bits. -/
def WF (x : Int × Int) : Prop := (Lit.int .i64 x.1).wf = true ∧ (Lit.int .i64 x.2).wf = true
/-- What a pair reads as, as a key. -/
def kl (x : Int × Int) : Lit := (DataW.agg [.lit (.int .i64 x.1), .lit (.int .i64 x.2)] : DataW Unit).asKey
theorem key_pt (w : World) {x : Int × Int} (hx : WF x) : keyOf Try.prog 29 (.agg #[.int .i64 x.1, .int .i64 x.2]) = some (kl x) := by
  have h0 : ∃ n, DataW.trod (fun _ => ()) Try.prog w 0 (fun _ => true) true n 2 [.int .i64 x.1] = some (.lit (.int .i64 x.1), []) := shut_int Try.underlying2 hx.1
  have h1 : ∃ n, DataW.trod (fun _ => ()) Try.prog w 0 (fun _ => true) true n 2 [.int .i64 x.2] = some (.lit (.int .i64 x.2), []) := shut_int Try.underlying2 hx.2
  have ht := Go.Joins.shut_agg2 (enc := fun _ => ()) (w := w) (base := 0) (spare := fun _ => true) (held := true) Try.underlying29 (by kernel_rfl) (by kernel_rfl) h0 h1
  exact (keyOf_asKey deep29 wide29 formed29 ht).1
theorem kl_ne (w : World) {x y : Int × Int} (hx : WF x) (hy : WF y) (h : x ≠ y) : kl x ≠ kl y := by
  intro e
  have h1 := key_pt w hx
  have h2 := key_pt w hy
  rw [← e] at h2
  have := keyed29.inj h1 h2
  injection this with this
  injection this with this
  injection this with e1 this
  injection this with e2 _
  injection e1 with _ e1
  injection e2 with _ e2
  exact h (Prod.ext e1 e2)
/-- Block M is a map of at most n entries in which each pair has the number f tells. -/
def Left (w : World) (M n : Nat) (f : Int × Int → Int) : Prop :=
  ∃ D : DataW Unit, w.ownsMap Try.prog 29 (plainElem Try.prog 3) M n D ∧ ∀ x, WF x → D.atKey (kl x) (.lit (.int .i64 0)) = .lit (.int .i64 (f x))
theorem left_new (w : World) : Left (w.alloc (.map #[] 0)) w.heap.size 0 (fun _ => 0) := ⟨.map [], World.ownsMap_made _ _ _ _, fun _ _ => rfl⟩
theorem Left.lt {w : World} {M n : Nat} {f : Int × Int → Int} (h : Left w M n f) : M < w.heap.size := by
  obtain ⟨D, hD, _⟩ := h
  exact hD.lt
theorem Left.touch {w w' : World} {M n : Nat} {f : Int × Int → Int} {F : List Nat} (h : Left w M n f) (ht : Touch w w' F) (hM : M ∉ F) : Left w' M n f := by
  obtain ⟨D, ⟨es, clock, hb, r⟩, hf⟩ := h
  exact ⟨D, ⟨es, clock, (ht.block M (Array.getElem?_eq_some_iff.1 hb).1 hM).trans hb, r⟩, hf⟩
theorem Left.look {w : World} {M n : Nat} {f : Int × Int → Int} (h : Left w M n f) {x : Int × Int} (hx : WF x) : (Instr.lookup 47 (.map (some M)) (.agg #[.int .i64 x.1, .int .i64 x.2]) false).run Try.prog w = .ok (.int .i64 (f x)) w := by
  obtain ⟨D, hD, hf⟩ := h
  obtain ⟨c, hrun, hat, _⟩ := hD.lookup_int keyed29 Try.underlying47 Try.underlying3 (zero3 _) (key_pt w hx)
  rw [hf x hx] at hat
  injection hat with hat
  injection hat with _ hat
  rw [hat]
  exact hrun
theorem Left.store {w : World} {M n : Nat} {f : Int × Int → Int} (h : Left w M n f) (hn : n < 1000000) {x : Int × Int} (hx : WF x) {v : Int} (hv : (Lit.int .i64 v).wf = true) :
    ∃ (v0 : Value) (st : Nat) (w2 w4 : World), (Instr.mapEntry 47 (.map (some M)) (.agg #[.int .i64 x.1, .int .i64 x.2])).run Try.prog w = .ok (.tuple #[v0, .int .i64 st]) w2 ∧
      (Instr.entryStore 47 (.map (some M)) (.int .i64 st) (.int .i64 v)).run Try.prog w2 = .ok () w4 ∧ Left w4 M (n + 1) (fun y => if y = x then v else f y) ∧ w.grownBy w4 (some M) := by
  obtain ⟨D, hD, hf⟩ := h
  have hkey := key_pt w hx
  obtain ⟨w', hup, hD', hg'⟩ := hD.update (d := .lit (.int .i64 v)) (ps := []) keyed29 Try.underlying47 (by unfold maxLen; omega) hkey (plainElem_int Try.underlying3 hv)
  obtain ⟨es, clock, hb, F, _⟩ := hD
  obtain ⟨v0, st, es1, clock1, h1, _, h2⟩ := Go.WideElems.entry_then_store law29 Try.underlying47 (z := .int .i64 0) zero3 hb F hkey
  obtain ⟨es', clock', h3, h4⟩ := h2 (Go.ChangeMaps.setBlock w M (.map es1 clock1)) (.int .i64 v) (Go.ChangeMaps.heap_setBlock_same hb _)
  rw [h4] at hup
  injection hup with _ hup
  subst hup
  have hb1 := Go.ChangeMaps.heap_setBlock_same hb (.map es1 clock1)
  have e1 : (Go.ChangeMaps.setBlock (Go.ChangeMaps.setBlock w M (.map es1 clock1)) M (.map es' clock')).heap[M]? = (Go.ChangeMaps.setBlock w M (.map es' clock')).heap[M]? := by
    rw [Go.ChangeMaps.heap_setBlock_same hb1, Go.ChangeMaps.heap_setBlock_same hb]
  refine ⟨v0, st, _, _, h1, h3, ⟨D.put (kl x) (.lit (.int .i64 v)), ?_, fun y hy => ?_⟩, ⟨rfl, rfl, rfl, by simp [Go.ChangeMaps.setBlock], fun i hi hne => ?_⟩⟩
  · obtain ⟨es2, clock2, hb2, r2⟩ := hD'
    exact ⟨es2, clock2, e1.trans hb2, r2⟩
  · have hm : IsMap D := by
      obtain ⟨_, _, _, _, _, e⟩ := (⟨es, clock, hb, F, ‹_›⟩ : w.ownsMap Try.prog 29 (plainElem Try.prog 3) M n D)
      exact ⟨_, e⟩
    by_cases e : y = x
    · subst e
      rw [atKey_put_same hm (keyed29.key hkey)]
      simp
    · rw [atKey_put_other (kl_ne w hy hx e)]
      simp only [if_neg e]
      exact hf y hy
  · rw [Go.ChangeMaps.heap_setBlock_other hb1 _ (fun e => hne (by rw [e])), Go.ChangeMaps.heap_setBlock_other hb _ (fun e => hne (by rw [e]))]
/-- Laying an entry changes nothing that is looked up. -/
theorem Left.entry {w w2 : World} {M n : Nat} {f : Int × Int → Int} (h : Left w M n f) (hn : n < 1000000) {x : Int × Int} (hx : WF x) {v : Value} (hrun : (Instr.mapEntry 47 (.map (some M)) (.agg #[.int .i64 x.1, .int .i64 x.2])).run Try.prog w = .ok v w2) : Left w2 M (n + 1) f ∧ w.grownBy w2 (some M) := by
  have h0 := h
  obtain ⟨D, hD, hf⟩ := h
  have hkey := key_pt w hx
  have ht := Try.underlying47
  obtain ⟨w', hup, hD', hg'⟩ := hD.update (d := .lit (.int .i64 0)) (ps := []) keyed29 ht (by unfold maxLen; omega) hkey (plainElem_int (a := 0) Try.underlying3 (by decide))
  have hlook := h0.look hx
  obtain ⟨es, clock, hb, F, hs, hDe⟩ := hD
  rcases keyed29.find w hkey es.toList F.keys with ⟨h1, h2⟩ | ⟨j, e0, h1, h2, h3⟩
  · have e1 : (Instr.mapEntry 47 (.map (some M)) (.agg #[.int .i64 x.1, .int .i64 x.2])).run Try.prog w = .ok (.tuple #[.int .i64 0, goInt clock]) w' := by
      simp [Instr.mapUpdate, run_underlying ht, MapKept.run_getObj_map hb, keyed29.check w false hkey, h1, MapKept.run_setObj_map _ hb, Result.andThen] at hup
      simp [Instr.mapEntry, run_underlying ht, MapKept.run_getObj_map hb, keyed29.check w false hkey, h1, MapKept.run_setObj_map _ hb, Result.andThen, hup]
    rw [e1] at hrun
    injection hrun with _ hrun
    subst hrun
    have hm : IsMap D := ⟨_, hDe⟩
    have hfx : f x = 0 := by
      simp [Instr.lookup, run_underlying ht, MapKept.run_getObj_map hb, keyed29.check w es.isEmpty hkey, h1, Result.andThen] at hlook
      exact hlook.symm
    refine ⟨⟨_, hD', fun y hy => ?_⟩, hg'⟩
    by_cases e : y = x
    · subst e
      rw [atKey_put_same hm (keyed29.key hkey), hfx]
    · rw [atKey_put_other (kl_ne w hy hx e)]
      exact hf y hy
  · have hj : es[j]? = some e0 := by simpa using h2
    have hsame : es.modify j (fun e => { e with key := .agg #[.int .i64 x.1, .int .i64 x.2] }) = es := by
      apply Array.ext'
      rw [Array.toList_modify, Go.ChangeMaps.modify_eq_set _ _ _ _ h2, show ({ e0 with key := .agg #[.int .i64 x.1, .int .i64 x.2] } : MapEntry) = e0 by rw [← h3]]
      exact Go.WideElems.set_self _ _ _ h2
    have e1 : w2 = Go.ChangeMaps.setBlock w M (.map es clock) := by
      simp [Instr.mapEntry, run_underlying ht, MapKept.run_getObj_map hb, keyed29.check w false hkey, h1, hj, h3, keyed29.stays w hkey, hsame, MapKept.run_setObj_map _ hb, Result.andThen] at hrun
      rw [← hrun.2]
      rfl
    subst e1
    refine ⟨⟨D, ⟨es, clock, Go.ChangeMaps.heap_setBlock_same hb _, F, by omega, hDe⟩, hf⟩, ⟨rfl, rfl, rfl, by simp [Go.ChangeMaps.setBlock], fun i hi hne => Go.ChangeMaps.heap_setBlock_other hb _ (fun e => hne (by rw [e]))⟩⟩
end Go.Proofs.Ytdknjeikhdodeaa
