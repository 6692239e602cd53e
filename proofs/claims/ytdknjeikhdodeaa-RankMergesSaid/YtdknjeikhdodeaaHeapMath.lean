/-
  A heap in a list: two places changed about, moved up, moved down; the first is the farthest. Plain lists.
-/
import Derived.Test.YtdknjeikhdodeaaRankMath
namespace Go.Proofs.Ytdknjeikhdodeaa

/-- Places i and j changed about. -/
def swp (l : List (Int × Int)) (i j : Nat) : List (Int × Int) := (l.set i (l.getD j (0, 0))).set j (l.getD i (0, 0))
theorem swp_len (l : List (Int × Int)) (i j : Nat) : (swp l i j).length = l.length := by simp [swp]
theorem swp_get (l : List (Int × Int)) (i j t : Nat) (hi : i < l.length) (hj : j < l.length) : (swp l i j).getD t (0, 0) = if t = j then l.getD i (0, 0) else if t = i then l.getD j (0, 0) else l.getD t (0, 0) := by
  unfold swp
  simp only [List.getD_eq_getElem?_getD, List.getElem?_set, List.length_set]
  by_cases h1 : j = t
  · subst h1; simp [hj]
  · by_cases h2 : i = t
    · subst h2; simp [h1, Ne.symm h1, hi]
    · simp [h1, h2, Ne.symm h1, Ne.symm h2]
theorem swp_perm (l : List (Int × Int)) (i j : Nat) (hi : i < l.length) (hj : j < l.length) : (swp l i j).Perm l := by
  have h := Array.swap_perm (xs := l.toArray) (i := i) (j := j) (by simpa using hi) (by simpa using hj)
  have h2 := h.toList
  have e : (l.toArray.swap i j (by simpa using hi) (by simpa using hj)).toList = swp l i j := by
    rw [Array.toList_swap]
    simp [swp, hi, hj, List.getD_eq_getElem?_getD]
  rw [e] at h2
  exact h2

/-- None is farther than the one it hangs on. -/
def Hp (l : List (Int × Int)) : Prop := ∀ j, 0 < j → j < l.length → nle (l.getD j (0, 0)) (l.getD ((j - 1) / 2) (0, 0))
/-- But for the one at i, which may be too far; those that hang on it are no farther than what it hangs on. -/
def HpUp (l : List (Int × Int)) (i : Nat) : Prop := (∀ j, 0 < j → j < l.length → j ≠ i → nle (l.getD j (0, 0)) (l.getD ((j - 1) / 2) (0, 0))) ∧ (0 < i → ∀ c, 0 < c → c < l.length → (c - 1) / 2 = i → nle (l.getD c (0, 0)) (l.getD ((i - 1) / 2) (0, 0)))
/-- But for the one at i, which may be too near. -/
def HpDown (l : List (Int × Int)) (i : Nat) : Prop := (∀ j, 0 < j → j < l.length → (j - 1) / 2 ≠ i → nle (l.getD j (0, 0)) (l.getD ((j - 1) / 2) (0, 0))) ∧ (0 < i → ∀ c, 0 < c → c < l.length → (c - 1) / 2 = i → nle (l.getD c (0, 0)) (l.getD ((i - 1) / 2) (0, 0)))

theorem hp_top {l : List (Int × Int)} (h : Hp l) : ∀ j, j < l.length → nle (l.getD j (0, 0)) (l.getD 0 (0, 0)) := by
  intro j
  induction j using Nat.strongRecOn with
  | ind j ih =>
    intro hj
    by_cases h0 : j = 0
    · subst h0; exact nle_refl _
    · exact nle_trans (h j (by omega) hj) (ih ((j - 1) / 2) (by omega) (by omega))
theorem hp_of_up0 {l : List (Int × Int)} (h : HpUp l 0) : Hp l := fun j h0 hj => h.1 j h0 hj (by omega)
theorem hp_of_up {l : List (Int × Int)} {i : Nat} (h : HpUp l i) (hi : nle (l.getD i (0, 0)) (l.getD ((i - 1) / 2) (0, 0))) : Hp l := fun j h0 hj => by
  by_cases e : j = i
  · subst e; exact hi
  · exact h.1 j h0 hj e
theorem hp_up_step {l : List (Int × Int)} {i : Nat} (h : HpUp l i) (h0 : 0 < i) (hi : i < l.length) (hlt : nlt (l.getD ((i - 1) / 2) (0, 0)) (l.getD i (0, 0)) = true) : HpUp (swp l ((i - 1) / 2) i) ((i - 1) / 2) := by
  have ha : (i - 1) / 2 < l.length := by omega
  have hle := nle_of_nlt hlt
  generalize hA : (i - 1) / 2 = a at ha hlt hle ⊢
  have hai : a ≠ i := by omega
  refine ⟨fun j j0 hj hja => ?_, fun a0 c c0 hc hca => ?_⟩
  · rw [swp_len] at hj
    rw [swp_get _ _ _ _ ha hi, swp_get _ _ _ _ ha hi]
    by_cases e1 : j = i
    · subst e1
      rw [if_pos rfl, hA, if_neg hai, if_pos rfl]
      exact hle
    · rw [if_neg e1, if_neg hja]
      by_cases e2 : (j - 1) / 2 = i
      · rw [if_pos e2]
        have := h.2 h0 j j0 hj e2
        rwa [hA] at this
      · rw [if_neg e2]
        by_cases e3 : (j - 1) / 2 = a
        · rw [if_pos e3]
          have := h.1 j j0 hj e1
          rw [e3] at this
          exact nle_trans this hle
        · rw [if_neg e3]
          exact h.1 j j0 hj e1
  · rw [swp_len] at hc
    have hb : (a - 1) / 2 ≠ i ∧ (a - 1) / 2 ≠ a := by omega
    rw [swp_get _ _ _ _ ha hi, swp_get _ _ _ _ ha hi, if_neg hb.1, if_neg hb.2]
    have hga := h.1 a a0 ha hai
    by_cases e1 : c = i
    · rw [if_pos e1]
      exact hga
    · rw [if_neg e1]
      have e2 : c ≠ a := by omega
      rw [if_neg e2]
      have := h.1 c c0 hc e1
      rw [hca] at this
      exact nle_trans this hga
theorem hp_of_down {l : List (Int × Int)} {i : Nat} (h : HpDown l i) (hi : ∀ c, 0 < c → c < l.length → (c - 1) / 2 = i → nle (l.getD c (0, 0)) (l.getD i (0, 0))) : Hp l := fun j h0 hj => by
  by_cases e : (j - 1) / 2 = i
  · rw [e]; exact hi j h0 hj e
  · exact h.1 j h0 hj e
theorem hp_down_step {l : List (Int × Int)} {i m : Nat} (h : HpDown l i) (hi : i < l.length) (m0 : 0 < m) (hm : m < l.length) (hmi : (m - 1) / 2 = i) (hlt : nlt (l.getD i (0, 0)) (l.getD m (0, 0)) = true)
    (hall : ∀ c, 0 < c → c < l.length → (c - 1) / 2 = i → nle (l.getD c (0, 0)) (l.getD m (0, 0))) : HpDown (swp l m i) m := by
  have hle := nle_of_nlt hlt
  have hne : m ≠ i := by omega
  refine ⟨fun j j0 hj hjm => ?_, fun _ c c0 hc hcm => ?_⟩
  · rw [swp_len] at hj
    rw [swp_get _ _ _ _ hm hi, swp_get _ _ _ _ hm hi]
    by_cases e1 : j = i
    · subst e1
      have hp : (j - 1) / 2 ≠ j ∧ (j - 1) / 2 ≠ m := by omega
      rw [if_pos rfl, if_neg hp.1, if_neg hp.2]
      have := h.2 j0 m m0 hm hmi
      exact this
    · rw [if_neg e1]
      by_cases e2 : j = m
      · subst e2
        rw [if_pos rfl, if_pos hmi]
        exact hle
      · rw [if_neg e2]
        by_cases e3 : (j - 1) / 2 = i
        · rw [if_pos e3]
          exact hall j j0 hj e3
        · rw [if_neg e3, if_neg hjm]
          exact h.1 j j0 hj e3
  · rw [swp_len] at hc
    have hci : c ≠ i ∧ c ≠ m := by omega
    rw [swp_get _ _ _ _ hm hi, swp_get _ _ _ _ hm hi, if_neg hci.1, if_neg hci.2, hmi, if_pos rfl]
    have := h.1 c c0 hc (by omega)
    rw [hcm] at this
    exact this
theorem hp_snoc {l : List (Int × Int)} (h : Hp l) (n : Int × Int) : HpUp (l ++ [n]) l.length := by
  have g : ∀ j, j < l.length → (l ++ [n]).getD j (0, 0) = l.getD j (0, 0) := fun j hj => by simp [List.getD_eq_getElem?_getD, List.getElem?_append, hj]
  refine ⟨fun j j0 hj hne => ?_, fun _ c c0 hc hcc => ?_⟩
  · simp at hj
    rw [g j (by omega), g _ (by omega)]
    exact h j j0 (by omega)
  · simp at hc
    omega
theorem hp_set0 {l : List (Int × Int)} (h : Hp l) (n : Int × Int) : HpDown (l.set 0 n) 0 := by
  have g : ∀ j, j ≠ 0 → (l.set 0 n).getD j (0, 0) = l.getD j (0, 0) := fun j hj => by simp [List.getD_eq_getElem?_getD, Ne.symm hj]
  refine ⟨fun j j0 hj hne => ?_, fun hh => absurd hh (by omega)⟩
  simp at hj
  rw [g j (by omega), g _ hne]
  exact h j j0 hj

/-- The last one of those kept is what a heap of them has first. -/
theorem hp_worst {h l : List (Int × Int)} {k : Nat} (hh : Hp h) (hp : h.Perm (keep k l)) (hs : keep k l ≠ []) : h.getD 0 (0, 0) = (keep k l).getLast hs := by
  have hl : 0 < h.length := by rw [hp.length_eq]; exact List.length_pos_iff.2 hs
  have hm : h.getD 0 (0, 0) ∈ h := by rw [List.getD_eq_getElem?_getD, List.getElem?_eq_getElem hl]; exact List.getElem_mem _
  refine nle_antisymm (ord_last (keep_ord k l) hs _ (hp.mem_iff.1 hm)) ?_
  obtain ⟨j, hj, e⟩ := List.getElem_of_mem (hp.mem_iff.2 (List.getLast_mem hs))
  have := hp_top hh j hj
  rwa [List.getD_eq_getElem?_getD, List.getElem?_eq_getElem hj, Option.getD_some, e] at this
theorem ins_before {s : List (Int × Int)} {n x : Int × Int} (h : nlt n x = true) : ins (s ++ [x]) n = ins s n ++ [x] := by
  induction s with
  | nil => simp [ins, h]
  | cons y s ih =>
    rw [List.cons_append]
    unfold ins
    split
    · rfl
    · rw [ih]; rfl
/-- A nearer one goes for the farthest of k that are kept. -/
theorem keep_replace {h l : List (Int × Int)} {k : Nat} {n : Int × Int} (hh : Hp h) (hp : h.Perm (keep k l)) (hk : (keep k l).length = k) (hs : keep k l ≠ []) (hn : nlt n (h.getD 0 (0, 0)) = true) : (h.set 0 n).Perm (keep k (l ++ [n])) := by
  have e := hp_worst hh hp hs
  have es := List.dropLast_concat_getLast hs
  have hpos : 0 < (keep k l).length := List.length_pos_iff.2 hs
  have hd : (ins (keep k l).dropLast n).length = k := by rw [ins_len, List.length_dropLast]; omega
  have hkk : keep k (l ++ [n]) = ins (keep k l).dropLast n := by
    rw [keep_snoc]
    conv => lhs; rw [← es, ← e, ins_before hn]
    rw [List.take_append_of_le_length (by omega), List.take_of_length_le (by omega)]
  rw [hkk]
  refine List.Perm.trans ?_ (ins_perm _ n).symm
  cases h with
  | nil => exact absurd hp.symm.eq_nil hs
  | cons x t =>
    simp only [List.set_cons_zero]
    refine List.Perm.cons n ?_
    have e2 : (keep k l).getLast hs = x := by rw [← e]; rfl
    rw [← es, e2] at hp
    exact (List.perm_append_comm.trans (List.Perm.refl _) |> fun q => (hp.trans q)).cons_inv
theorem keep_push {h l : List (Int × Int)} {k : Nat} (n : Int × Int) (hp : h.Perm (keep k l)) (hk : (keep k l).length < k) : (h ++ [n]).Perm (keep k (l ++ [n])) := by
  rw [keep_room n hk]
  exact (List.perm_append_comm.trans (hp.cons n)).trans (ins_perm _ n).symm
theorem keep_stays {h l : List (Int × Int)} {k : Nat} {n : Int × Int} (hh : Hp h) (hp : h.Perm (keep k l)) (hk : (keep k l).length = k) (hn : 0 < k → nlt n (h.getD 0 (0, 0)) = false) : keep k (l ++ [n]) = keep k l := by
  refine keep_not hk fun x hx => ?_
  have h0 : 0 < k := by rw [← hk]; exact List.length_pos_of_mem hx
  obtain ⟨j, hj, e⟩ := List.getElem_of_mem (hp.mem_iff.2 hx)
  have := hp_top hh j hj
  rw [List.getD_eq_getElem?_getD, List.getElem?_eq_getElem hj, Option.getD_some, e] at this
  exact nle_trans this (hn h0)
end Go.Proofs.Ytdknjeikhdodeaa
