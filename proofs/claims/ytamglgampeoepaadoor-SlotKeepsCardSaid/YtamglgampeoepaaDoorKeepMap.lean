/-
  A map of one's own, from numbers to slices of numbers: what is looked up, stored and deleted in it.
-/
import Derived.Test.YtamglgampeoepaaDoorSlotLive
import Derived.Maps.OwnSet
import Derived.Maps.Views
namespace Go.Proofs.YtamglgampeoepaaDoor
set_option maxRecDepth 40000
open Go.RowKit Go.Maps Go.Joins

theorem keyedI : Keyed Tryd.prog 3 := int_keyed Tryd.underlying3
/-- How a slice reads as an element: by its block, its length and its capacity. -/
def sliceElem : Value → Option (DataW Unit × List MemPlace)
  | .slice none 0 0 => some (.nil, [])
  | .slice (some ⟨b, 0, none⟩) n c => some (.agg [.lit (.int .i64 (b : Int)), .lit (.int .i64 (n : Int)), .lit (.int .i64 (c : Int))], [])
  | _ => none
def sEnc (b n c : Nat) : DataW Unit := .agg [.lit (.int .i64 (b : Int)), .lit (.int .i64 (n : Int)), .lit (.int .i64 (c : Int))]
theorem slice_elem (b n c : Nat) : sliceElem (.slice (some ⟨b, 0, none⟩) n c) = some (sEnc b n c, []) := rfl
theorem slice_isnil {v : Value} {ps : List MemPlace} (h : sliceElem v = some (.nil, ps)) : v = .slice none 0 0 := by
  unfold sliceElem at h
  split at h
  · rfl
  · injection h with h; injection h with h _; cases h
  · cases h
theorem slice_is {v : Value} {b n c : Nat} {ps : List MemPlace} (h : sliceElem v = some (sEnc b n c, ps)) : v = .slice (some ⟨b, 0, none⟩) n c := by
  unfold sliceElem sEnc at h
  split at h
  · injection h with h; injection h with h _; cases h
  · injection h with h
    injection h with h _
    injection h with h
    injection h with h1 h
    injection h with h2 h
    injection h with h3 h
    injection h1 with h1
    injection h2 with h2
    injection h3 with h3
    injection h1 with _ h1
    injection h2 with _ h2
    injection h3 with _ h3
    rw [Int.ofNat_inj.1 h1, Int.ofNat_inj.1 h2, Int.ofNat_inj.1 h3]
  · cases h
abbrev key (n : Nat) : Lit := .int .i64 (n : Int)
theorem key_at {n : Nat} (hn : n < 1000) : keyOf Tryd.prog 3 (.int .i64 (n : Int)) = some (key n) := keyOf_int_mk Tryd.underlying3 (by have h1 : IntKind.i64.min ≤ (n : Int) := Int.le_trans (show IntKind.i64.min ≤ 0 by decide) (by omega); have h2 : (n : Int) ≤ IntKind.i64.max := Int.le_trans (show (n : Int) ≤ 1000 by omega) (by decide); simp only [Lit.wf, h1, h2, decide_true, Bool.and_self])
theorem key_ne {m n : Nat} (h : m ≠ n) : key m ≠ key n := by
  intro e
  injection e with _ e
  omega
/-- What is kept for a slot. -/
def Kept9 (w : World) (lo : Nat) (D : DataW Unit) (M : Nat) (B : List Nat) (n : Nat) : Option (List Int) → Prop
  | none => D.atKey (key n) .nil = .nil
  | some l => ∃ b c, D.atKey (key n) .nil = sEnc b l.length c ∧ w.ownsRow lo 39 1 (.slice (some ⟨b, 0, none⟩) l.length c) l.length (IK .i16 l) ∧ b ∈ B ∧ b ≠ M
/-- Block M is a map that has the slots' vectors, each in memory of its own; all its blocks are in B. -/
def KM (w : World) (lo M k : Nat) (B : List Nat) (st : Sts) : Prop :=
  M ∈ B ∧ (∀ b ∈ B, lo ≤ b ∧ b < w.heap.size) ∧ ∃ D : DataW Unit, w.ownsMap Tryd.prog 3 sliceElem M k D ∧ Tidy D ∧ Maps.size D = cnt st ∧ ∀ n, n < 1000 → Maps.has D (key n) = has st n ∧ Kept9 w lo D M B n (st[n]?.getD none)
section
variable {w w' : World} {lo M k : Nat} {B F : List Nat} {st : Sts}
theorem km_new (w : World) (lo : Nat) (hlo : lo ≤ w.heap.size) : KM (w.alloc (.map #[] 0)) lo w.heap.size 0 [w.heap.size] [] :=
  ⟨List.mem_singleton.2 rfl, fun b hb => by rw [List.mem_singleton] at hb; simp; omega, .map [], World.ownsMap_made _ _ _ _, tidy_empty, rfl, fun n _ => ⟨rfl, rfl⟩⟩
theorem Kept9.touch {D : DataW Unit} {n : Nat} {o : Option (List Int)} (h : Kept9 w lo D M B n o) (ht : Touch w w' F) (hF : ∀ b ∈ B, b ∉ F) : Kept9 w' lo D M B n o := by
  cases o with
  | none => exact h
  | some l =>
    obtain ⟨b, c, h1, h2, h3, h4⟩ := h
    exact ⟨b, c, h1, own_touched h2 ht (fun e he => by injection he with he; rw [← he]; exact hF b h3), h3, h4⟩
theorem KM.touch (h : KM w lo M k B st) (ht : Touch w w' F) (hF : ∀ b ∈ B, b ∉ F) : KM w' lo M k B st := by
  obtain ⟨h1, h2, D, ⟨es, clock, hb, r⟩, h4, h5, h6⟩ := h
  exact ⟨h1, fun b hb => ⟨(h2 b hb).1, Nat.lt_of_lt_of_le (h2 b hb).2 ht.size⟩, D, ⟨es, clock, (ht.block M (h2 M h1).2 (hF M h1)).trans hb, r⟩, h4, h5, fun n hn => ⟨(h6 n hn).1, (h6 n hn).2.touch ht hF⟩⟩
theorem KM.below (h : KM w lo M k B st) (hb : Below w.heap.size w w') : KM w' lo M k B st := h.touch (touch_below hb []) (fun _ _ h => by cases h)
theorem KM.more (h : KM w lo M k B st) {k' : Nat} (hk : k ≤ k') : KM w lo M k' B st := by
  obtain ⟨h1, h2, D, h3, r⟩ := h
  exact ⟨h1, h2, D, h3.mono hk, r⟩
theorem zeroS (w : World) : (zeroValue 32).run Tryd.prog w = .ok (.slice none 0 0) w := by kernel_rfl
/-- What is looked up. -/
def Looked (w : World) (lo : Nat) (B : List Nat) (v : Value) : Option (List Int) → Prop
  | none => v = .slice none 0 0
  | some l => ∃ b c, v = .slice (some ⟨b, 0, none⟩) l.length c ∧ w.ownsRow lo 39 1 v l.length (IK .i16 l) ∧ b ∈ B
theorem KM.look (h : KM w lo M k B st) {n : Nat} (hn : n < 1000) : ∃ v, (Instr.lookup 55 (.map (some M)) (.int .i64 (n : Int)) false).run Tryd.prog w = .ok v w ∧ Looked w lo B v (st[n]?.getD none) := by
  obtain ⟨h1, h2, D, h3, h4, h5, h6⟩ := h
  obtain ⟨v, ps, hrun, hv⟩ := h3.lookup keyedI Tryd.underlying55 (zeroS _) (zd := .nil) (zp := []) rfl (key_at hn)
  refine ⟨v, hrun, ?_⟩
  have h7 := (h6 n hn).2
  revert h7
  generalize st[n]?.getD none = o
  intro h7
  cases o with
  | none =>
    rw [show D.atKey (key n) .nil = .nil from h7] at hv
    exact slice_isnil hv
  | some l =>
    obtain ⟨b, c, a1, a2, a3, a4⟩ := h7
    rw [a1] at hv
    have := slice_is hv
    subst this
    exact ⟨b, c, rfl, a2, a3⟩
theorem KM.len (h : KM w lo M k B st) : (Builtin.len_ #[55] 3 #[.map (some M)]).run Tryd.prog w = .ok (.int .i64 (cnt st : Int)) w := by
  obtain ⟨h1, h2, D, h3, h4, h5, h6⟩ := h
  rw [← h5]
  exact h3.len Tryd.underlying55 _
theorem getD_put {n : Nat} {v : List Int} (hn : n ≤ st.length) (i : Nat) : (putS st n v)[i]?.getD none = if i = n then some v else st[i]?.getD none := by
  unfold putS
  by_cases h : n < st.length
  · rw [if_pos h, List.getElem?_set]
    by_cases e : n = i
    · subst e
      rw [if_pos rfl, if_pos h, if_pos rfl]; rfl
    · rw [if_neg e, if_neg (Ne.symm e)]
  · rw [if_neg h, List.getElem?_append]
    have : n = st.length := by omega
    by_cases e : i = n
    · rw [if_neg (by omega), e, if_pos rfl, this]; simp
    · rw [if_neg e]
      by_cases hi : i < st.length
      · rw [if_pos hi]
      · rw [if_neg hi, List.getElem?_eq_none (by simp; omega), List.getElem?_eq_none (by omega)]
theorem getD_free {n : Nat} (i : Nat) : (freeS st n)[i]?.getD none = if i = n then none else st[i]?.getD none := by
  unfold freeS
  rw [List.getElem?_set]
  by_cases e : n = i
  · subst e
    rw [if_pos rfl, if_pos rfl]
    by_cases h : n < st.length
    · rw [if_pos h]; rfl
    · rw [if_neg h]; rfl
  · rw [if_neg e, if_neg (Ne.symm e)]
theorem KM.put (h : KM w lo M k B st) (hk : k < 1000000) {n : Nat} (hn : n < 1000) (hh : has st n = false) (hle : n ≤ st.length) {b c : Nat} {l : List Int} (ho : w.ownsRow lo 39 1 (.slice (some ⟨b, 0, none⟩) l.length c) l.length (IK .i16 l)) (hbM : b ≠ M) :
    ∃ w', (Instr.mapUpdate 55 (.map (some M)) (.int .i64 (n : Int)) (.slice (some ⟨b, 0, none⟩) l.length c)).run Tryd.prog w = .ok () w' ∧ KM w' lo M (k + 1) (b :: B) (putS st n l) ∧ w.grownBy w' (some M) := by
  obtain ⟨h1, h2, D, h3, h4, h5, h6⟩ := h
  obtain ⟨w', hrun, hD', hg'⟩ := h3.update keyedI Tryd.underlying55 (by unfold maxLen; omega) (key_at hn) (slice_elem b l.length c)
  have ht : Touch w w' [M] := touch_grown hg' (fun x hx => by injection hx with hx; rw [← hx]; exact List.mem_singleton.2 rfl)
  have hkl := keyedI.key (key_at hn)
  have hb := ho.lt b rfl
  refine ⟨w', hrun, ⟨List.mem_cons_of_mem _ h1, fun x hx => ?_, _, hD', h4.put hkl _, ?_, fun i hi => ?_⟩, hg'⟩
  · rcases List.mem_cons.1 hx with e | hx
    · rw [e]; exact ⟨hb.1, Nat.lt_of_lt_of_le hb.2 ht.size⟩
    · exact ⟨(h2 x hx).1, Nat.lt_of_lt_of_le (h2 x hx).2 ht.size⟩
  · rw [size_put h4, (h6 n hn).1, hh, cnt_put hh, h5]; rfl
  · rw [has_put hle, getD_put hle]
    by_cases e : i = n
    · subst e
      rw [if_pos rfl]
      refine ⟨by rw [has_put_same h4.isMap hkl]; simp, b, c, atKey_put_same h4.isMap hkl _ _, own_touched ho ht (fun e he => ?_), List.mem_cons_self, hbM⟩
      injection he with he
      rw [← he]
      exact fun hm => hbM (List.mem_singleton.1 hm)
    · rw [if_neg e]
      refine ⟨by rw [has_put_other (key_ne e), (h6 i hi).1]; simp [e], ?_⟩
      have h7 := (h6 i hi).2
      revert h7
      generalize st[i]?.getD none = o
      intro h7
      cases o with
      | none =>
        show (D.put (key n) _).atKey (key i) .nil = .nil
        rw [atKey_put_other (key_ne e)]
        exact h7
      | some l' =>
        obtain ⟨b', c', a1, a2, a3, a4⟩ := h7
        refine ⟨b', c', by rw [atKey_put_other (key_ne e)]; exact a1, own_touched a2 ht (fun x hx => ?_), List.mem_cons_of_mem _ a3, a4⟩
        injection hx with hx
        rw [← hx]
        exact fun hm => a4 (List.mem_singleton.1 hm)
theorem KM.del (h : KM w lo M k B st) {n : Nat} (hn : n < 1000) :
    ∃ w', (Builtin.delete_ #[55, 3] 0 #[.map (some M), .int .i64 (n : Int)]).run Tryd.prog w = .ok (.tuple #[]) w' ∧ KM w' lo M k B (freeS st n) ∧ Touch w w' [M] := by
  obtain ⟨h1, h2, D, h3, h4, h5, h6⟩ := h
  obtain ⟨w', hrun, hD', hturn⟩ := h3.drop keyedI Tryd.underlying55 (key_at hn) 0
  have ht : Touch w w' [M] := by
    obtain ⟨es, clock, es', clock', hb, rfl⟩ := hturn
    exact touch_grown (row := some M) ⟨rfl, rfl, rfl, by simp [Go.ChangeMaps.setBlock], fun i hi hne => Go.ChangeMaps.heap_setBlock_other hb _ (fun e => hne (by rw [e]))⟩ (fun x hx => by injection hx with hx; rw [← hx]; exact List.mem_singleton.2 rfl)
  refine ⟨w', hrun, ⟨h1, fun x hx => ⟨(h2 x hx).1, Nat.lt_of_lt_of_le (h2 x hx).2 ht.size⟩, _, hD', h4.del _, ?_, fun i hi => ?_⟩, ht⟩
  · have h7 := size_del h4 (k := key n)
    rw [(h6 n hn).1] at h7
    cases hh : has st n with
    | true =>
      rw [hh] at h7
      have := cnt_free hh
      simp at h7
      omega
    | false =>
      rw [hh] at h7
      have e : freeS st n = st := by
        apply List.ext_getElem?
        intro i
        unfold freeS
        rw [List.getElem?_set]
        by_cases e : n = i
        · subst e
          rw [if_pos rfl]
          by_cases hl : n < st.length
          · rw [if_pos hl, has_none hh hl]
          · rw [if_neg hl, List.getElem?_eq_none (by omega)]
        · rw [if_neg e]
      rw [e]
      simp at h7
      omega
  · rw [has_free, getD_free]
    by_cases e : i = n
    · subst e
      rw [if_pos rfl]
      exact ⟨by rw [has_del_same]; simp, atKey_del_same _⟩
    · rw [if_neg e]
      refine ⟨by rw [has_del_other (key_ne e), (h6 i hi).1]; simp [e], ?_⟩
      have h7 := (h6 i hi).2
      revert h7
      generalize st[i]?.getD none = o
      intro h7
      cases o with
      | none =>
        show (D.del (key n)).atKey (key i) .nil = .nil
        rw [atKey_del_other (key_ne e)]
        exact h7
      | some l' =>
        obtain ⟨b', c', a1, a2, a3, a4⟩ := h7
        refine ⟨b', c', by rw [atKey_del_other (key_ne e)]; exact a1, own_touched a2 ht (fun x hx => ?_), a3, a4⟩
        injection hx with hx
        rw [← hx]
        exact fun hm => a4 (List.mem_singleton.1 hm)
end
end Go.Proofs.YtamglgampeoepaaDoor
