/-
  Slots in plain words: which are taken, their vectors behind one another, the words that tell which are taken.
-/
import Derived.Lib.TrailingZeros
import Derived.Laws.CopyOwn
namespace Go.Proofs.YtamglgampeoepaaDoor
set_option maxRecDepth 40000
open Go

/-- The slots that were ever given: the vector of each, none of one that is free. -/
abbrev Sts := List (Option (List Int))
def has (st : Sts) (n : Nat) : Bool := (st[n]?.getD none).isSome
def cnt (st : Sts) : Nat := st.countP (·.isSome)
def Fitted (dim : Nat) (st : Sts) : Prop := ∀ v, some v ∈ st → v.length = dim
def flatS (dim : Nat) (st : Sts) : List Int := st.flatMap fun o => o.getD (List.replicate dim 0)
def putS (st : Sts) (n : Nat) (v : List Int) : Sts := if n < st.length then st.set n (some v) else st ++ [some v]
def freeS (st : Sts) (n : Nat) : Sts := st.set n none
/-- The least slot that is free. -/
def Low (st : Sts) (n : Nat) : Prop := has st n = false ∧ ∀ i, i < n → has st i = true
section
variable {st : Sts} {n dim : Nat} {v : List Int}
theorem has_lt (h : has st n = true) : n < st.length := by
  rcases Nat.lt_or_ge n st.length with h1 | h1
  · exact h1
  · unfold has at h
    rw [List.getElem?_eq_none h1] at h
    simp at h
theorem has_some (h : has st n = true) : ∃ v, st[n]? = some (some v) := by
  have h1 := has_lt h
  unfold has at h
  rw [List.getElem?_eq_getElem h1] at h ⊢
  cases e : st[n] with
  | none => rw [e] at h; simp at h
  | some v => exact ⟨v, rfl⟩
theorem has_none (h : has st n = false) (hn : n < st.length) : st[n]? = some none := by
  unfold has at h
  rw [List.getElem?_eq_getElem hn] at h ⊢
  cases e : st[n] with
  | none => rfl
  | some v => rw [e] at h; simp at h
theorem has_of {v : List Int} (h : st[n]? = some (some v)) : has st n = true := by unfold has; rw [h]; rfl
theorem Low.le (h : Low st n) : n ≤ st.length := by
  rcases Nat.eq_zero_or_pos n with h0 | h0
  · omega
  · have := has_lt (h.2 (n - 1) (by omega)); omega
theorem Low.unique {m : Nat} (h : Low st n) (h2 : Low st m) : n = m := by
  rcases Nat.lt_trichotomy n m with h3 | h3 | h3
  · have := h2.2 n h3; rw [h.1] at this; cases this
  · exact h3
  · have := h.2 m h3; rw [h2.1] at this; cases this
theorem low_exists (st : Sts) : ∃ n, Low st n := by
  have key : ∀ k, (∀ i, i < k → has st i = true) ∨ ∃ n, Low st n := by
    intro k
    induction k with
    | zero => exact .inl (fun i hi => by omega)
    | succ k ih =>
      rcases ih with h | h
      · cases e : has st k with
        | false => exact .inr ⟨k, e, h⟩
        | true =>
          left
          intro i hi
          rcases Nat.lt_or_ge i k with h1 | h1
          · exact h i h1
          · obtain rfl : i = k := by omega
            exact e
      · exact .inr h
  rcases key (st.length + 1) with h | h
  · have := has_lt (h st.length (by omega)); omega
  · exact h
theorem cnt_take (h : ∀ i, i < n → has st i = true) (hn : n ≤ st.length) : n ≤ cnt st := by
  have h1 : st = st.take n ++ st.drop n := (List.take_append_drop n st).symm
  have h2 : (st.take n).countP (·.isSome) = (st.take n).length := by
    rw [List.countP_eq_length]
    intro x hx
    obtain ⟨i, hi, e⟩ := List.mem_iff_getElem.1 hx
    rw [List.length_take] at hi
    have h3 := h i (by omega)
    obtain ⟨v, hv⟩ := has_some h3
    rw [List.getElem_take] at e
    rw [List.getElem?_eq_getElem (by omega)] at hv
    injection hv with hv
    rw [← e, hv]
    rfl
  unfold cnt
  rw [h1, List.countP_append, h2, List.length_take]
  omega
theorem Low.cnt_le (h : Low st n) : n ≤ cnt st := cnt_take h.2 h.le
theorem has_put (hn : n ≤ st.length) (i : Nat) : has (putS st n v) i = (decide (i = n) || has st i) := by
  unfold putS
  split
  · rename_i h
    unfold has
    rw [List.getElem?_set]
    by_cases e : n = i
    · subst e; simp [h]
    · have e2 : ¬ i = n := fun h => e h.symm
      simp [e, e2]
  · rename_i h
    have hn2 : n = st.length := by omega
    subst hn2
    unfold has
    rcases Nat.lt_trichotomy i st.length with h1 | h1 | h1
    · rw [List.getElem?_append_left h1]
      have : ¬ i = st.length := by omega
      simp [this]
    · subst h1
      rw [List.getElem?_append_right (Nat.le_refl _)]
      simp
    · rw [List.getElem?_eq_none (by simp; omega), List.getElem?_eq_none (by omega)]
      have : ¬ i = st.length := by omega
      simp [this]
theorem has_free (i : Nat) : has (freeS st n) i = (has st i && !decide (i = n)) := by
  unfold has freeS
  rw [List.getElem?_set]
  by_cases e : n = i
  · subst e
    by_cases h : n < st.length
    · simp [h]
    · simp [h]
  · have e2 : ¬ i = n := fun h => e h.symm
    simp [e, e2]
theorem cnt_put (h : has st n = false) : cnt (putS st n v) = cnt st + 1 := by
  unfold putS cnt
  split
  · rename_i hl
    have h1 := has_none h hl
    rw [List.getElem?_eq_getElem hl] at h1
    injection h1 with h1
    rw [List.countP_set hl, h1]
    simp
  · rw [List.countP_append]; simp
theorem cnt_free (h : has st n = true) : cnt (freeS st n) + 1 = cnt st := by
  have hl := has_lt h
  obtain ⟨v, hv⟩ := has_some h
  rw [List.getElem?_eq_getElem hl] at hv
  injection hv with hv
  have hp : 0 < st.countP (·.isSome) := List.countP_pos_iff.2 ⟨some v, by rw [← hv]; exact List.getElem_mem hl, rfl⟩
  unfold freeS cnt
  rw [List.countP_set hl, hv]
  simp
  omega
theorem put_len (hn : n ≤ st.length) : (putS st n v).length = max st.length (n + 1) := by
  unfold putS
  split
  · rw [List.length_set]; omega
  · rw [List.length_append]; simp; omega
theorem free_len : (freeS st n).length = st.length := List.length_set
theorem fitted_put (h : Fitted dim st) (hv : v.length = dim) : Fitted dim (putS st n v) := by
  intro x hx
  unfold putS at hx
  split at hx
  · rcases List.mem_or_eq_of_mem_set hx with h1 | h1
    · exact h x h1
    · injection h1 with h1; rw [h1]; exact hv
  · rcases List.mem_append.1 hx with h1 | h1
    · exact h x h1
    · simp at h1; rw [h1]; exact hv
theorem fitted_free (h : Fitted dim st) : Fitted dim (freeS st n) := by
  intro x hx
  rcases List.mem_or_eq_of_mem_set hx with h1 | h1
  · exact h x h1
  · cases h1
theorem one_len (h : Fitted dim st) {o : Option (List Int)} (ho : o ∈ st) : (o.getD (List.replicate dim 0)).length = dim := by
  cases o with
  | none => simp
  | some v => exact h v ho
theorem Fitted.tail {o : Option (List Int)} {l : Sts} (h : Fitted dim (o :: l)) : Fitted dim l := fun v hv => h v (List.mem_cons_of_mem _ hv)
theorem flat_cons (o : Option (List Int)) (l : Sts) : flatS dim (o :: l) = o.getD (List.replicate dim 0) ++ flatS dim l := rfl
theorem flat_len (h : Fitted dim st) : (flatS dim st).length = st.length * dim := by
  induction st with
  | nil => simp [flatS]
  | cons o l ih => rw [flat_cons, List.length_append, ih h.tail, one_len h List.mem_cons_self, List.length_cons, Nat.succ_mul]; omega
theorem flat_append (a b : Sts) : flatS dim (a ++ b) = flatS dim a ++ flatS dim b := by simp [flatS]
/-- A slot's numbers, where they lie. -/
theorem flat_at (h : Fitted dim st) {o : Option (List Int)} (hn : st[n]? = some o) : ((flatS dim st).drop (n * dim)).take dim = o.getD (List.replicate dim 0) := by
  induction st generalizing n with
  | nil => cases hn
  | cons p l ih =>
    have hp := one_len h (o := p) List.mem_cons_self
    rw [flat_cons]
    cases n with
    | zero =>
      simp at hn
      subst hn
      rw [Nat.zero_mul, List.drop_zero, List.take_append_of_le_length (by omega), List.take_of_length_le (by omega)]
    | succ n =>
      rw [List.getElem?_cons_succ] at hn
      rw [Nat.succ_mul, Nat.add_comm, List.drop_append, hp, Nat.add_sub_cancel_left, List.drop_of_length_le (by omega), List.nil_append]
      exact ih h.tail hn
theorem splice_right {α : Type} (a b cs : List α) (k : Nat) : splice (a ++ b) (a.length + k) cs = a ++ splice b k cs := by
  unfold splice
  rw [List.take_append, List.take_of_length_le (Nat.le_add_right _ _), Nat.add_sub_cancel_left, List.drop_append, List.drop_of_length_le (show a.length ≤ a.length + k + cs.length by omega), show a.length + k + cs.length - a.length = k + cs.length by omega]
  simp
theorem flat_set (h : Fitted dim st) {o : Option (List Int)} (_ : n < st.length) (ho : (o.getD (List.replicate dim 0)).length = dim) : flatS dim (st.set n o) = splice (flatS dim st) (n * dim) (o.getD (List.replicate dim 0)) := by
  induction st generalizing n with
  | nil => rename_i hn; simp at hn
  | cons p l ih =>
    rename_i hn
    have hp := one_len h (o := p) List.mem_cons_self
    cases n with
    | zero =>
      unfold splice
      rw [List.set_cons_zero, flat_cons, flat_cons, Nat.zero_mul, List.take_zero, List.nil_append, Nat.zero_add, ho, List.drop_append, hp, Nat.sub_self, List.drop_of_length_le (by omega)]
      rfl
    | succ n =>
      have e : (n + 1) * dim = (p.getD (List.replicate dim 0)).length + n * dim := by rw [Nat.succ_mul, hp]; omega
      rw [List.set_cons_succ, flat_cons, flat_cons, ih h.tail (by simpa using hn), e, splice_right]
theorem flat_put (h : Fitted dim st) (hv : v.length = dim) : flatS dim (putS st n v) = if n < st.length then splice (flatS dim st) (n * dim) v else flatS dim st ++ v := by
  unfold putS
  split
  · rename_i hl
    exact flat_set h hl (o := some v) hv
  · rw [flat_append]; simp [flatS]
end
/-- The words tell which slots are taken. -/
structure Told64 (ws : List Nat) (st : Sts) : Prop where
  low : ∀ x ∈ ws, x < 18446744073709551616
  bit : ∀ i, (ws[i / 64]?.getD 0).testBit (i % 64) = has st i
  few : ws.length * 64 ≤ st.length + 64
section
variable {ws : List Nat} {st : Sts} {n : Nat} {v : List Int}
theorem Told64.lt (h : Told64 ws st) (hn : has st n = true) : n / 64 < ws.length := by
  rcases Nat.lt_or_ge (n / 64) ws.length with h1 | h1
  · exact h1
  · have h2 := h.bit n
    rw [List.getElem?_eq_none h1, hn] at h2
    simp at h2
theorem Told64.word_lt (h : Told64 ws st) (j : Nat) : ws[j]?.getD 0 < 18446744073709551616 := by
  rcases Nat.lt_or_ge j ws.length with h1 | h1
  · rw [List.getElem?_eq_getElem h1]; exact h.low _ (List.getElem_mem h1)
  · rw [List.getElem?_eq_none h1]; decide
theorem Told64.more (h : Told64 ws st) (hf : ws.length * 64 ≤ st.length) : Told64 (ws ++ [0]) st := by
  refine ⟨fun x hx => ?_, fun i => ?_, by simp; omega⟩
  · rcases List.mem_append.1 hx with h1 | h1
    · exact h.low x h1
    · simp at h1; subst h1; decide
  · rw [← h.bit i]
    rcases Nat.lt_trichotomy (i / 64) ws.length with h1 | h1 | h1
    · rw [List.getElem?_append_left h1]
    · rw [List.getElem?_append_right (by omega), h1, List.getElem?_eq_none (Nat.le_refl ws.length)]; simp
    · rw [List.getElem?_eq_none (by simp; omega), List.getElem?_eq_none (by omega)]
theorem pow_lt {k : Nat} (h : k < 64) : 2 ^ k < 18446744073709551616 := by
  have : 2 ^ k < 2 ^ 64 := Nat.pow_lt_pow_right (by omega) h
  exact this
theorem Told64.put (h : Told64 ws st) (hn : n ≤ st.length) (hl : n / 64 < ws.length) : Told64 (ws.set (n / 64) ((ws[n / 64]?.getD 0) ||| 2 ^ (n % 64))) (putS st n v) := by
  have hm : n % 64 < 64 := Nat.mod_lt _ (by omega)
  refine ⟨fun x hx => ?_, fun i => ?_, by rw [List.length_set, put_len hn]; have := h.few; omega⟩
  · rcases List.mem_or_eq_of_mem_set hx with h1 | h1
    · exact h.low x h1
    · rw [h1]
      have h2 := Nat.or_lt_two_pow (x := ws[n / 64]?.getD 0) (y := 2 ^ (n % 64)) (n := 64) (h.word_lt _) (pow_lt hm)
      exact h2
  · rw [has_put hn, ← h.bit i, List.getElem?_set]
    by_cases e : n / 64 = i / 64
    · rw [if_pos e, if_pos hl, Option.getD_some, Nat.testBit_or, Nat.testBit_two_pow, e]
      have : (n % 64 = i % 64) ↔ (i = n) := by omega
      simp only [this, Bool.or_comm]
    · rw [if_neg e]
      have : ¬ i = n := fun h => e (by rw [h])
      simp [this]
theorem Told64.free (h : Told64 ws st) (hl : n / 64 < ws.length) : Told64 (ws.set (n / 64) ((ws[n / 64]?.getD 0) &&& (18446744073709551615 - 2 ^ (n % 64)))) (freeS st n) := by
  have hm : n % 64 < 64 := Nat.mod_lt _ (by omega)
  refine ⟨fun x hx => ?_, fun i => ?_, by rw [List.length_set, free_len]; exact h.few⟩
  · rcases List.mem_or_eq_of_mem_set hx with h1 | h1
    · exact h.low x h1
    · rw [h1]; exact Nat.lt_of_le_of_lt Nat.and_le_left (h.word_lt _)
  · rw [has_free, ← h.bit i, List.getElem?_set]
    by_cases e : n / 64 = i / 64
    · have hi : i % 64 < 64 := Nat.mod_lt _ (by omega)
      have h2 : (18446744073709551615 - 2 ^ (n % 64)).testBit (i % 64) = !decide (n % 64 = i % 64) := by
        have h3 := Nat.testBit_two_pow_sub_succ (x := 2 ^ (n % 64)) (n := 64) (pow_lt hm) (i % 64)
        rw [show 2 ^ 64 - (2 ^ (n % 64) + 1) = 18446744073709551615 - 2 ^ (n % 64) by omega] at h3
        rw [h3, Nat.testBit_two_pow]
        simp [hi]
      rw [if_pos e, if_pos hl, Option.getD_some, Nat.testBit_and, h2, e]
      have : (n % 64 = i % 64) ↔ (i = n) := by omega
      simp only [this]
    · rw [if_neg e]
      have : ¬ i = n := fun h => e (by rw [h])
      simp [this]
theorem all_ones {x k : Nat} (h : x = 18446744073709551615) (hk : k < 64) : x.testBit k = true := by
  have := Nat.testBit_two_pow_sub_one 64 k
  rw [h, show (18446744073709551615 : Nat) = 2 ^ 64 - 1 by decide, this]
  simpa using hk
/-- The lowest nought of a word. -/
theorem low_nought {x : Nat} (hx : x < 18446744073709551615) : Lib.ctz 64 (18446744073709551615 - x) < 64 ∧ x.testBit (Lib.ctz 64 (18446744073709551615 - x)) = false ∧ ∀ j, j < Lib.ctz 64 (18446744073709551615 - x) → x.testBit j = true := by
  obtain ⟨k, hk⟩ : ∃ k, k = Lib.ctz 64 (18446744073709551615 - x) := ⟨_, rfl⟩
  have hk2 : k < 64 := by rw [hk]; exact (Lib.lowest_bit 64 (18446744073709551615 - x) (by omega) (by omega)).2
  have hspec : ∃ m, 18446744073709551615 - x = 2 ^ k * (2 * m + 1) := by
    obtain ⟨m, h1, _⟩ := Lib.ctzFrom_spec 64 (18446744073709551615 - x) (by omega) (by omega)
    refine ⟨m, ?_⟩
    rw [hk]
    unfold Lib.ctz
    rw [if_neg (by omega)]
    exact h1
  obtain ⟨m, hm⟩ := hspec
  have bitc : ∀ j, j < 64 → x.testBit j = !(18446744073709551615 - x).testBit j := by
    intro j hj
    have h3 := Nat.testBit_two_pow_sub_succ (x := x) (n := 64) (by omega) j
    rw [show 2 ^ 64 - (x + 1) = 18446744073709551615 - x by omega] at h3
    rw [h3]
    simp [hj]
  have tb : ∀ j, j ≤ k → (18446744073709551615 - x).testBit j = decide (j = k) := by
    intro j hj
    rw [hm, Nat.testBit_two_pow_mul]
    by_cases e : j = k
    · subst e
      simp [Nat.testBit_zero]
    · have : ¬ k ≤ j := by omega
      simp [e, this]
  rw [← hk]
  refine ⟨hk2, by rw [bitc k hk2, tb k (Nat.le_refl _)]; simp, fun j hj => ?_⟩
  rw [bitc j (by omega), tb j (by omega)]
  have : ¬ j = k := by omega
  simp [this]
/-- The words ahead of f are full. -/
def FullTo (ws : List Nat) (f : Nat) : Prop := f ≤ ws.length ∧ ∀ j, j < f → ws[j]? = some 18446744073709551615
theorem Told64.full (h : Told64 ws st) {f : Nat} (hf : FullTo ws f) {i : Nat} (hi : i < f * 64) : has st i = true := by
  rw [← h.bit i, hf.2 (i / 64) (by omega)]
  exact all_ones rfl (Nat.mod_lt _ (by omega))
/-- The least slot that is free, by the first word that may have one. -/
theorem Told64.low_at (h : Told64 ws st) {f : Nat} (hf : FullTo ws f) (hx : ws[f]?.getD 0 ≠ 18446744073709551615) : Low st (f * 64 + Lib.ctz 64 (18446744073709551615 - ws[f]?.getD 0)) := by
  have hw := h.word_lt f
  obtain ⟨x, hxe⟩ : ∃ x, x = ws[f]?.getD 0 := ⟨_, rfl⟩
  rw [← hxe] at hx hw ⊢
  obtain ⟨h1, h2, h3⟩ := low_nought (x := x) (by omega)
  obtain ⟨k, hk⟩ : ∃ k, k = Lib.ctz 64 (18446744073709551615 - x) := ⟨_, rfl⟩
  rw [← hk] at h1 h2 h3 ⊢
  have at_ : ∀ j, j < 64 → has st (f * 64 + j) = x.testBit j := fun j hj => by
    rw [← h.bit, show (f * 64 + j) / 64 = f by omega, show (f * 64 + j) % 64 = j by omega, ← hxe]
  refine ⟨by rw [at_ k h1]; exact h2, fun i hi => ?_⟩
  rcases Nat.lt_or_ge i (f * 64) with h4 | h4
  · exact h.full hf h4
  · have := at_ (i - f * 64) (by omega)
    rw [show f * 64 + (i - f * 64) = i by omega] at this
    rw [this]
    exact h3 _ (by omega)
theorem FullTo.next (hf : FullTo ws n) (h : ws[n]? = some 18446744073709551615) : FullTo ws (n + 1) := by
  have hl := (List.getElem?_eq_some_iff.1 h).1
  refine ⟨hl, fun j hj => ?_⟩
  rcases Nat.lt_or_ge j n with h1 | h1
  · exact hf.2 j h1
  · obtain rfl : j = n := by omega
    exact h
theorem FullTo.more (hf : FullTo ws n) : FullTo (ws ++ [0]) n := ⟨by rw [List.length_append]; have := hf.1; omega, fun j hj => by rw [List.getElem?_append_left (by have := hf.1; omega)]; exact hf.2 j hj⟩
theorem FullTo.set (hf : FullTo ws n) {j x : Nat} (h : n ≤ j) : FullTo (ws.set j x) n := ⟨by rw [List.length_set]; exact hf.1, fun i hi => by rw [List.getElem?_set_ne (by omega)]; exact hf.2 i hi⟩
theorem FullTo.less {m : Nat} (hf : FullTo ws n) (h : m ≤ n) : FullTo ws m := ⟨by have := hf.1; omega, fun i hi => hf.2 i (by omega)⟩
end
end Go.Proofs.YtamglgampeoepaaDoor
