/-
  Contract: Names, rising.
-/
import Derived.Test.YtkadljomimpnjaaDiskRead
namespace Go.Proofs.Ytkadljomimpnjaa
open Go.RowKit Go.Maps Go.Sort Go.Shelf Dsk

theorem lt_of_nlt : ∀ {a b : Nm}, nlt a b = true → a < b
  | [], [], h => by cases h
  | [], _ :: _, _ => List.nil_lt_cons _ _
  | _ :: _, [], h => by cases h
  | x :: r, y :: s, h => by
    simp only [nlt, Bool.or_eq_true, Bool.and_eq_true, decide_eq_true_eq, beq_iff_eq] at h
    rw [List.cons_lt_cons_iff]
    rcases h with h | ⟨rfl, h⟩
    · exact .inl (UInt8.lt_iff_toNat_lt.2 h)
    · exact .inr ⟨rfl, lt_of_nlt h⟩
theorem names_rise {fs : Fs} (h : Rises fs) : (fs.map (·.1)).Pairwise (fun x y => x ≤ y) := by
  induction fs with
  | nil => exact List.Pairwise.nil
  | cons y r ih =>
    obtain ⟨k, f⟩ := y
    refine List.Pairwise.cons ?_ (ih h.2)
    intro m hm
    obtain ⟨x, hx, rfl⟩ := List.mem_map.1 hm
    exact List.le_of_lt (lt_of_nlt (h.1 x hx))
theorem names_nodup {fs : Fs} (h : Rises fs) : (fs.map (·.1)).Nodup := by
  induction fs with
  | nil => exact List.Pairwise.nil
  | cons y r ih =>
    obtain ⟨k, f⟩ := y
    refine List.Pairwise.cons ?_ (ih h.2)
    intro m hm e
    obtain ⟨x, hx, rfl⟩ := List.mem_map.1 hm
    have := h.1 x hx
    simp only at e
    rw [← e, nlt_irrefl] at this
    cases this
theorem get_names {fs : Fs} {n : Nm} : n ∈ fs.map (·.1) ↔ (Dsk.get fs n).isSome = true := by
  induction fs with
  | nil => simp [Dsk.get]
  | cons y r ih =>
    obtain ⟨k, f⟩ := y
    simp only [List.map_cons, List.mem_cons, Dsk.get]
    by_cases e : k = n
    · subst e; simp
    · rw [if_neg e, ih]
      simp
      exact fun h => absurd h.symm e
theorem sort_names {ss ns : List Nm} (hp : ss.Perm ns) (hs : ns.Pairwise (fun x y => x ≤ y)) : ss.mergeSort (fun x y => decide (x ≤ y)) = ns := by
  refine List.Perm.eq_of_pairwise (le := fun x y => decide (x ≤ y) = true) ?_ (List.pairwise_mergeSort ?_ ?_ ss) ?_ ((List.mergeSort_perm ss _).trans hp)
  · intro a b _ _ h1 h2
    exact List.le_antisymm (by simpa using h1) (by simpa using h2)
  · intro a b c h1 h2
    simp only [decide_eq_true_eq] at *
    exact List.le_trans h1 h2
  · intro a b
    simp only [Bool.or_eq_true, decide_eq_true_eq]
    exact List.le_total a b
  · exact hs.imp (fun h => by simpa using h)
section
variable {w : World} {d M : Nat} {Dm : DataW Unit} {gb : Nm → Nat} {hb : Nm → Option Nat} {F : List Nat} {D : Dk}
theorem keys_perm (h : DM w d M Dm gb hb F D) (hr : Rises D.fs) : (strKeys Dm).Perm (D.fs.map (·.1)) := by
  obtain ⟨es, rfl, hk⟩ := h.map.keysOf
  obtain ⟨es', e, hd, _⟩ := h.map.entries keyedS
  injection e with e
  subst e
  have hstr : ∀ p ∈ es, p.1 = .string (strOf p.1) := by
    intro p hp
    obtain ⟨v, hv⟩ := hk p hp
    obtain ⟨x, _, e, _⟩ := keyOf_str Try.underlying9 hv
    rw [e]
    rfl
  rw [List.perm_ext_iff_of_nodup]
  · intro n
    rw [get_names, ← h.has, has_eq]
    simp only [strKeys, List.mem_map, List.any_eq_true]
    constructor
    · rintro ⟨p, hp, rfl⟩
      refine ⟨p, hp, ?_⟩
      rw [hstr p hp, same_key]
      simp [strOf]
    · rintro ⟨p, hp, hs⟩
      refine ⟨p, hp, ?_⟩
      rw [hstr p hp, same_key] at hs
      simpa using hs
  · show (es.map fun p => strOf p.1).Nodup
    refine List.pairwise_map.2 (hd.imp_of_mem ?_)
    intro p q hp hq hne e
    exact hne (by rw [hstr p hp, hstr q hq, e])
  · exact names_nodup hr
set_option maxHeartbeats 1000000 in
set_option maxRecDepth 20000 in
theorem names_m (h : DM w d M Dm gb hb F D) (hw : Whole D) (hlen : D.fs.length < 1000000) : Calls Try.prog 23 #[ptr d] w fun e w' => ∃ v, e = .returned v ∧ Gives w (D.fs.map fun x => S x.1) v w' := by
  have W1 := hid (unmade_any h)
  have hc := h.blk.cell 0
  simp at hc
  have W2 := hid (callsIn_wide.1 (maps_keys (some M) w))
  have hsz := h.map.size_le
  have W3 := hid (callsIn_wide.1 (sorted_keys M D.fs.length Dm ptrElem w h.map (by unfold maxLen; omega) (by omega)))
  have HP := hid (keys_perm h hw.rises)
  have HW := hid hw
  clear h hw hsz
  go_enter Try.func23, Try.ntmps23
  go_wp2_with fail
  refine W1.out.mono ?_
  rintro e w1 ⟨rfl, rfl⟩
  go_wp2_with fail
  refine W2.out.mono ?_
  rintro e w2 ⟨rfl, rfl⟩
  go_wp2_with fail
  refine W3.out.mono ?_
  rintro e w3 ⟨v, ss, rfl, hperm, hown, hnil, hb⟩
  go_wp2_with fail
  go_ret
  have hsort := sort_names (hperm.trans HP.out) (names_rise HW.out.rises)
  rw [hsort] at hown
  have hl : ss.length = (D.fs.map (·.1)).length := (hperm.trans HP.out).length_eq
  obtain ⟨A, c, rfl, _, _⟩ := own_shape hown
  refine ⟨_, rfl, ?_⟩
  have e1 : (D.fs.map (·.1)).map encStr = D.fs.map fun x => S x.1 := by rw [List.map_map]; rfl
  rw [e1] at hown
  exact gives_own hown (by simp) (((Below.refl _ w1).alloc (Nat.le_refl _) _).trans (hb.mono (by simp)))
end
end Go.Proofs.Ytkadljomimpnjaa
