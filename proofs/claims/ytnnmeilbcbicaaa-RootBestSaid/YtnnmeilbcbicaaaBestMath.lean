/-
  Plain sums over lists: the nearest whole number to the mean has the least sum of squares. No model's run in this text.
-/
import Derived.Test.YtnnmeilbcbicaaaCells
namespace Go.Proofs.Ytnnmeilbcbicaaa
open Go.RowKit

/-- The sum of f over a list. -/
def sm (f : Int → Int) : List Int → Int
  | [] => 0
  | x :: r => f x + sm f r
theorem sm_snoc (f : Int → Int) (l : List Int) (x : Int) : sm f (l ++ [x]) = sm f l + f x := by
  induction l with
  | nil => simp [sm]
  | cons y r ih => simp only [List.cons_append, sm, ih]; omega
theorem sm_take (f : Int → Int) (l : List Int) (k : Nat) (h : k < l.length) : sm f (l.take (k + 1)) = sm f (l.take k) + f l[k] := by
  rw [List.take_succ_eq_append_getElem h, sm_snoc]
theorem sm_le (f : Int → Int) (B : Int) (l : List Int) (h : ∀ x ∈ l, -B ≤ f x ∧ f x ≤ B) : -(B * l.length) ≤ sm f l ∧ sm f l ≤ B * l.length := by
  induction l with
  | nil => simp [sm]
  | cons y r ih =>
    have h1 := h y List.mem_cons_self
    have h2 := ih fun x hx => h x (List.mem_cons_of_mem _ hx)
    simp only [sm, List.length_cons, Int.natCast_add, Int.mul_add]
    omega
theorem sm_map (f g : Int → Int) (l : List Int) : sm f (l.map g) = sm (fun x => f (g x)) l := by
  induction l with
  | nil => rfl
  | cons y r ih => simp only [List.map_cons, sm, ih]
/-- A square, moved. -/
theorem sm_shift (l : List Int) (k y : Int) : sm (fun x => (x - y) * (x - y)) l = sm (fun x => (x - k) * (x - k)) l + (k - y) * (2 * sm (fun x => x) l - l.length * (k + y)) := by
  induction l with
  | nil => simp [sm]
  | cons z r ih =>
    simp only [sm, List.length_cons, Int.natCast_add, ih]
    have e : (z - y) * (z - y) = (z - k) * (z - k) + (k - y) * (2 * z - (k + y)) := by
      simp only [Int.sub_mul, Int.mul_sub, Int.mul_add]
      have := Int.mul_comm z y
      have := Int.mul_comm z k
      have := Int.mul_comm k y
      have h3 : k * (2 * z) = 2 * (k * z) := Int.mul_left_comm _ _ _
      have h4 : y * (2 * z) = 2 * (y * z) := Int.mul_left_comm _ _ _
      omega
    have e2 : (k - y) * (2 * (z + sm (fun x => x) r) - ((r.length : Int) + 1) * (k + y)) = (k - y) * (2 * z - (k + y)) + (k - y) * (2 * sm (fun x => x) r - r.length * (k + y)) := by
      rw [← Int.mul_add, Int.add_mul]
      congr 1
      omega
    simp only [Int.natCast_one] at *
    omega
/-- THE FACT: k is nearest to the mean; then no y has a lesser sum of squares. -/
theorem best (l : List Int) (k y : Int) (h1 : -(l.length : Int) ≤ 2 * (sm (fun x => x) l - l.length * k)) (h2 : 2 * (sm (fun x => x) l - l.length * k) ≤ l.length) :
    sm (fun x => (x - k) * (x - k)) l ≤ sm (fun x => (x - y) * (x - y)) l := by
  rw [sm_shift l k y]
  have hn : 0 ≤ (l.length : Int) := by omega
  generalize (l.length : Int) = n at *
  generalize sm (fun x => x) l = T at *
  have h3 : n * (k + y) = 2 * (n * k) + n * (y - k) := by rw [Int.mul_add, Int.mul_sub]; omega
  have key : 0 ≤ (k - y) * (2 * T - n * (k + y)) := by
    by_cases hd : k = y
    · subst hd; simp
    · by_cases hp : y < k
      · refine Int.mul_nonneg (by omega) ?_
        have := Int.mul_le_mul_of_nonneg_left (show y - k ≤ -1 by omega) hn
        omega
      · have := Int.mul_le_mul_of_nonneg_left (show 1 ≤ y - k by omega) hn
        exact Int.mul_nonneg_of_nonpos_of_nonpos (by omega) (by omega)
  omega
/-- What a mean is, by products. -/
theorem mean_near {s n m : Int} (hn : 1 ≤ n) (h : m = (2 * s + n) / (2 * n)) : -n ≤ 2 * (s - n * m) ∧ 2 * (s - n * m) ≤ n := by
  have e := Int.mul_ediv_add_emod (2 * s + n) (2 * n)
  have h1 := Int.emod_nonneg (2 * s + n) (show 2 * n ≠ 0 by omega)
  have h2 := Int.emod_lt_of_pos (2 * s + n) (show 0 < 2 * n by omega)
  rw [← h, Int.mul_assoc] at e
  omega
theorem mean_small {s n m B : Int} (hn : 1 ≤ n) (h : -n ≤ 2 * (s - n * m) ∧ 2 * (s - n * m) ≤ n) (h1 : -(B * n) ≤ s) (h2 : s ≤ B * n) : -B ≤ m ∧ m ≤ B := by
  have hB := Int.mul_comm B n
  constructor
  · by_cases hh : -B ≤ m
    · exact hh
    · have := Int.mul_le_mul_of_nonneg_left (show m ≤ -B - 1 by omega) (show 0 ≤ n by omega)
      rw [Int.mul_sub, Int.mul_neg] at this
      omega
  · by_cases hh : m ≤ B
    · exact hh
    · have := Int.mul_le_mul_of_nonneg_left (show B + 1 ≤ m by omega) (show 0 ≤ n by omega)
      rw [Int.mul_add] at this
      omega
theorem tdiv4 {x : Int} (h1 : -2147483648 ≤ x) (h2 : x ≤ 2147483647) : -536870912 ≤ x.tdiv 4 ∧ x.tdiv 4 ≤ 536870912 := by
  have e1 := Int.mul_tdiv_add_tmod x 4
  have e2 := Int.tmod_lt_of_pos x (show (0 : Int) < 4 by decide)
  have e3 := Int.lt_tmod_of_pos x (show (0 : Int) < 4 by decide)
  omega
theorem tmodM (x : Int) : -1048576 ≤ x.tmod 1048576 ∧ x.tmod 1048576 ≤ 1048576 := by
  have e2 := Int.tmod_lt_of_pos x (show (0 : Int) < 1048576 by decide)
  have e3 := Int.lt_tmod_of_pos x (show (0 : Int) < 1048576 by decide)
  omega
theorem sq_small {x : Int} (h1 : -4194304 ≤ x) (h2 : x ≤ 4194304) : 0 ≤ x * x ∧ x * x ≤ 17592186044416 := by
  by_cases h : 0 ≤ x
  · exact ⟨Int.mul_nonneg h h, Int.mul_le_mul h2 h2 h (by omega)⟩
  · have e : x * x = (-x) * (-x) := by rw [Int.neg_mul_neg]
    rw [e]
    have := Int.mul_le_mul (show -x ≤ 4194304 by omega) (show -x ≤ 4194304 by omega) (show 0 ≤ -x by omega) (show (0 : Int) ≤ 4194304 by omega)
    exact ⟨Int.mul_nonneg (by omega) (by omega), by omega⟩
end Go.Proofs.Ytnnmeilbcbicaaa
