/-
  Picks in plain words: the row that is turned as a function, its picks; picks are below n, the first n of them unlike, and each number is at some place.
-/
import Derived.Test.YtjnbdlbgfgdopaaProg
namespace Go.Proofs.Ytjnbdlbgfgdopaa
set_option maxRecDepth 40000

/-- The draw at place i, the list gone round. -/
def dr (l : List Int) (i : Nat) : Int := (l[i % l.length]?).getD 0
/-- With which place i changes. -/
def stepTo (l : List Int) (n i : Nat) : Nat := i + (dr l i).toNat % (n - i)
def swp (f : Nat → Nat) (i j : Nat) : Nat → Nat := fun x => if x = j then f i else if x = i then f j else f x
/-- The row of all numbers behind m changes. -/
def turn (l : List Int) (n : Nat) : Nat → Nat → Nat
  | 0 => fun x => x
  | i + 1 => swp (turn l n i) i (stepTo l n i)
def pk (l : List Int) (n i : Nat) : Nat := turn l n (i + 1) i
def pks (l : List Int) (n k : Nat) : List Int := (List.range k).map fun i => ((pk l n (i % n) : Nat) : Int)

variable {l l' : List Int} {n : Nat}
theorem stepTo_ge (i : Nat) : i ≤ stepTo l n i := Nat.le_add_right _ _
theorem stepTo_lt {i : Nat} (h : i < n) : stepTo l n i < n := by
  unfold stepTo
  have := Nat.mod_lt (dr l i).toNat (show 0 < n - i by omega)
  omega
theorem swp_lt {f : Nat → Nat} {i j : Nat} (hf : ∀ x, x < n → f x < n) (hi : i < n) (hj : j < n) {x : Nat} (hx : x < n) : swp f i j x < n := by
  unfold swp
  split
  · exact hf i hi
  · split
    · exact hf j hj
    · exact hf x hx
theorem swp_inj {f : Nat → Nat} {i j : Nat} (hf : ∀ x y, f x = f y → x = y) {x y : Nat} (h : swp f i j x = swp f i j y) : x = y := by
  unfold swp at h
  repeat' split at h
  all_goals first | omega | (have := hf _ _ h; omega)
theorem turn_lt : ∀ (m : Nat), m ≤ n → ∀ x, x < n → turn l n m x < n
  | 0, _, x, hx => hx
  | m + 1, hm, x, hx => swp_lt (turn_lt m (by omega)) (by omega) (stepTo_lt (by omega)) hx
theorem turn_inj : ∀ (m : Nat) (x y : Nat), turn l n m x = turn l n m y → x = y
  | 0, _, _, h => h
  | m + 1, _, _, h => swp_inj (turn_inj m) h
theorem turn_onto : ∀ (m : Nat), m ≤ n → ∀ y, y < n → ∃ x, x < n ∧ turn l n m x = y
  | 0, _, y, hy => ⟨y, hy, rfl⟩
  | m + 1, hm, y, hy => by
    obtain ⟨x, hx, e⟩ := turn_onto m (by omega) y hy
    have hj : stepTo l n m < n := stepTo_lt (by omega)
    by_cases e1 : x = m
    · refine ⟨stepTo l n m, hj, ?_⟩
      show swp _ _ _ _ = y
      unfold swp
      subst e1; rw [if_pos rfl]; exact e
    · by_cases e2 : x = stepTo l n m
      · refine ⟨m, by omega, ?_⟩
        show swp _ _ _ _ = y
        unfold swp
        by_cases e3 : m = stepTo l n m
        · omega
        · rw [if_neg e3, if_pos rfl, ← e2]; exact e
      · refine ⟨x, hx, ?_⟩
        show swp _ _ _ _ = y
        unfold swp
        rw [if_neg e2, if_neg e1]; exact e
theorem turn_done {i : Nat} : ∀ {m : Nat}, i < m → turn l n m i = pk l n i
  | m + 1, h => by
    by_cases e : i = m
    · rw [e]; rfl
    · have h2 := stepTo_ge (l := l) (n := n) m
      show swp _ _ _ _ = _
      unfold swp
      rw [if_neg (by omega), if_neg e]
      exact turn_done (by omega)
theorem pk_lt {i : Nat} (h : i < n) : pk l n i < n := turn_lt (i + 1) h i h
theorem pk_inj {i j : Nat} (hi : i < n) (hj : j < n) (h : pk l n i = pk l n j) : i = j := by
  rw [← turn_done hi, ← turn_done hj] at h
  exact turn_inj n i j h
theorem turn_congr : ∀ (m : Nat), (∀ i, i < m → (dr l i).toNat % (n - i) = (dr l' i).toNat % (n - i)) → turn l n m = turn l' n m
  | 0, _ => rfl
  | m + 1, h => by
    show swp _ _ _ = swp _ _ _
    unfold stepTo
    rw [turn_congr m (fun i hi => h i (by omega)), h m (by omega)]
theorem pks_congr {k : Nat} (hk : k ≤ n) (h : ∀ i, i < k → (dr l i).toNat % (n - i) = (dr l' i).toNat % (n - i)) : pks l n k = pks l' n k := by
  unfold pks
  apply List.map_congr_left
  intro i hi
  have hi := List.mem_range.1 hi
  rw [Nat.mod_eq_of_lt (show i < n by omega)]
  unfold pk
  rw [turn_congr (i + 1) (fun j hj => h j (by omega))]
theorem pks_len (k : Nat) : (pks l n k).length = k := by simp [pks]
theorem pks_get {k i : Nat} (h : i < k) : (pks l n k)[i]? = some ((pk l n (i % n) : Nat) : Int) := by
  unfold pks
  rw [List.getElem?_map, List.getElem?_range h]
  rfl
theorem pks_take {k m : Nat} (h : m ≤ k) : (pks l n k).take m = pks l n m := by
  apply List.ext_getElem?
  intro i
  rw [List.getElem?_take]
  split
  · rename_i hi; rw [pks_get (by omega), pks_get hi]
  · rename_i hi; rw [List.getElem?_eq_none (by rw [pks_len]; omega)]
theorem pks_succ (k : Nat) (hk : k < n) : pks l n (k + 1) = pks l n k ++ [((pk l n k : Nat) : Int)] := by
  unfold pks
  rw [List.range_succ, List.map_append]
  simp [Nat.mod_eq_of_lt hk]
theorem nodup_of {xs : List Int} (h : ∀ (i j : Nat) (x : Int), xs[i]? = some x → xs[j]? = some x → i = j) : xs.Nodup := by
  rw [List.nodup_iff_pairwise_ne, List.pairwise_iff_getElem]
  intro i j hi hj hlt e
  have := h i j xs[i] (List.getElem?_eq_getElem hi) (by rw [e]; exact List.getElem?_eq_getElem hj)
  omega
theorem pks_nodup {k : Nat} (hk : k ≤ n) : (pks l n k).Nodup := by
  refine nodup_of fun i j x h1 h2 => ?_
  have hi : i < k := by
    have := (List.getElem?_eq_some_iff.1 h1).1
    rwa [pks_len] at this
  have hj : j < k := by
    have := (List.getElem?_eq_some_iff.1 h2).1
    rwa [pks_len] at this
  rw [pks_get hi] at h1
  rw [pks_get hj] at h2
  injection h1 with h1
  injection h2 with h2
  rw [Nat.mod_eq_of_lt (by omega)] at h1 h2
  exact pk_inj (by omega) (by omega) (Int.ofNat_inj.1 (h1.trans h2.symm))
/-- What a first row, gone round, has. -/
def round (xs : List Int) (m : Nat) : List Int := (List.range m).map fun i => xs.getD (i % xs.length) 0
theorem round_len (xs : List Int) (m : Nat) : (round xs m).length = m := by simp [round]
theorem round_get {xs : List Int} {m i : Nat} (h : i < m) : (round xs m)[i]? = some (xs.getD (i % xs.length) 0) := by
  unfold round
  rw [List.getElem?_map, List.getElem?_range h]
  rfl
theorem round_pks {k : Nat} (hn : 0 < n) : round (pks l n (min n k)) k = pks l n k := by
  apply List.ext_getElem?
  intro i
  by_cases h : i < k
  · rw [round_get h, pks_get h, pks_len]
    have hm : i % min n k < min n k := Nat.mod_lt _ (by omega)
    rw [List.getD_eq_getElem?_getD, pks_get hm]
    by_cases hnk : n ≤ k
    · rw [Nat.min_eq_left hnk, Nat.mod_mod]; rfl
    · rw [Nat.min_eq_right (by omega), Nat.mod_eq_of_lt h]; rfl
  · rw [List.getElem?_eq_none (by rw [round_len]; omega), List.getElem?_eq_none (by rw [pks_len]; omega)]
theorem round_take {xs : List Int} {m k : Nat} (h : k ≤ m) : (round xs m).take k = round xs k := by
  apply List.ext_getElem?
  intro i
  rw [List.getElem?_take]
  split
  · rename_i hi; rw [round_get (by omega), round_get hi]
  · rename_i hi; rw [List.getElem?_eq_none (by rw [round_len]; omega)]
/-- The doubling: what is there, laid once more behind it. -/
theorem round_twice {xs : List Int} {m k : Nat} (hm : xs.length ∣ m) (hk : k ≤ m) : round xs (m + k) = round xs m ++ round xs k := by
  apply List.ext_getElem?
  intro i
  by_cases h : i < m
  · rw [List.getElem?_append_left (by rw [round_len]; exact h), round_get (by omega), round_get h]
  · rw [List.getElem?_append_right (by rw [round_len]; omega), round_len]
    by_cases h2 : i < m + k
    · obtain ⟨c, rfl⟩ := hm
      rw [round_get h2, round_get (by omega)]
      congr 2
      have : i = xs.length * c + (i - xs.length * c) := by omega
      rw [this, Nat.mul_add_mod]
      congr 1
      omega
    · rw [List.getElem?_eq_none (by rw [round_len]; omega), List.getElem?_eq_none (by rw [round_len]; omega)]
theorem round_self (xs : List Int) : round xs xs.length = xs := by
  apply List.ext_getElem?
  intro i
  by_cases h : i < xs.length
  · rw [round_get h, Nat.mod_eq_of_lt h, List.getD_eq_getElem?_getD, List.getElem?_eq_getElem h]; rfl
  · rw [List.getElem?_eq_none (by rw [round_len]; omega), List.getElem?_eq_none (by omega)]
end Go.Proofs.Ytjnbdlbgfgdopaa
