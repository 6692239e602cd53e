/-
  The plain meaning of checks, distances, differences and sums of wide vectors, over lists of whole numbers.
-/
import Derived.Test.YtcaleaecjoafhaaCells
namespace Go.Proofs.Ytcaleaecjoafhaa

/-- A number that may stand in a wide vector. -/
def wd (x : Int) : Bool := decide (-131072 ≤ x ∧ x ≤ 131072)
theorem wd_iff {x : Int} : wd x = true ↔ -131072 ≤ x ∧ x ≤ 131072 := by simp [wd]
/-- CheckWide's answer. -/
def cw (l : List Int) : Int := if 1 ≤ l.length ∧ l.length ≤ 1024 then (if l.all wd = true then 0 else 11) else 2
/-- The answer for two. -/
def cp (a b : List Int) : Int := if cw a = 0 then (if cw b = 0 then (if a.length = b.length then 0 else 2) else cw b) else cw a
theorem cw_len {l : List Int} (h : ¬ (1 ≤ l.length ∧ l.length ≤ 1024)) : cw l = 2 := by rw [cw, if_neg h]
theorem cw_ok {l : List Int} (h : 1 ≤ l.length ∧ l.length ≤ 1024) (h2 : l.all wd = true) : cw l = 0 := by rw [cw, if_pos h, if_pos h2]
theorem cw_far {l : List Int} (h : 1 ≤ l.length ∧ l.length ≤ 1024) (h2 : ¬ l.all wd = true) : cw l = 11 := by rw [cw, if_pos h, if_neg h2]
theorem cw_zero {l : List Int} (h : cw l = 0) : 1 ≤ l.length ∧ l.length ≤ 1024 ∧ ∀ x ∈ l, -131072 ≤ x ∧ x ≤ 131072 := by
  unfold cw at h
  split at h
  · rename_i hl
    split at h
    · rename_i ha
      exact ⟨hl.1, hl.2, fun x hx => wd_iff.1 (List.all_eq_true.1 ha x hx)⟩
    · cases h
  · cases h
theorem cw_mk {l : List Int} (h1 : 1 ≤ l.length) (h2 : l.length ≤ 1024) (h3 : ∀ x ∈ l, -131072 ≤ x ∧ x ≤ 131072) : cw l = 0 := cw_ok ⟨h1, h2⟩ (List.all_eq_true.2 fun x hx => wd_iff.2 (h3 x hx))
theorem cw_or (l : List Int) : cw l = 0 ∨ cw l = 2 ∨ cw l = 11 := by
  unfold cw
  repeat' split
  all_goals simp
theorem cp_zero {a b : List Int} (h : cp a b = 0) : cw a = 0 ∧ cw b = 0 ∧ a.length = b.length := by
  unfold cp at h
  split at h
  · rename_i h1
    split at h
    · rename_i h2
      split at h
      · rename_i h3; exact ⟨h1, h2, h3⟩
      · cases h
    · rename_i h2; exact absurd h h2
  · rename_i h1; exact absurd h h1
theorem cp_mk {a b : List Int} (h1 : cw a = 0) (h2 : cw b = 0) (h3 : a.length = b.length) : cp a b = 0 := by rw [cp, if_pos h1, if_pos h2, if_pos h3]
theorem cp_l {a b : List Int} (h : ¬ cw a = 0) : cp a b = cw a := by rw [cp, if_neg h]
theorem cp_r {a b : List Int} (h : cw a = 0) (h2 : ¬ cw b = 0) : cp a b = cw b := by rw [cp, if_pos h, if_neg h2]
theorem cp_n {a b : List Int} (h : cw a = 0) (h2 : cw b = 0) (h3 : ¬ a.length = b.length) : cp a b = 2 := by rw [cp, if_pos h, if_pos h2, if_neg h3]
theorem cp_swap {a b : List Int} (h : cp a b = 0) : cp b a = 0 := by
  obtain ⟨h1, h2, h3⟩ := cp_zero h
  exact cp_mk h2 h1 h3.symm

/-- The sum of the squares of the differences. -/
def sq2 : List Int → List Int → Int
  | x :: a, y :: b => (x - y) * (x - y) + sq2 a b
  | _, _ => 0
theorem sq2_take (a b : List Int) (k : Nat) (ha : k < a.length) (hb : k < b.length) : sq2 (a.take (k + 1)) (b.take (k + 1)) = sq2 (a.take k) (b.take k) + (a[k] - b[k]) * (a[k] - b[k]) := by
  induction a generalizing b k with
  | nil => simp at ha
  | cons x a ih =>
    cases b with
    | nil => simp at hb
    | cons y b =>
      cases k with
      | zero => simp [sq2]
      | succ k =>
        simp only [List.length_cons] at ha hb
        have := ih b k (by omega) (by omega)
        simp only [List.take_succ_cons, sq2, List.getElem_cons_succ] at this ⊢
        rw [this]
        omega
theorem sq_nn (x : Int) : 0 ≤ x * x := by
  rcases Int.le_total 0 x with h | h
  · exact Int.mul_nonneg h h
  · have := Int.mul_nonneg (show 0 ≤ -x by omega) (show 0 ≤ -x by omega)
    rwa [Int.neg_mul_neg] at this
theorem sq_top {x B : Int} (h1 : -B ≤ x) (h2 : x ≤ B) : x * x ≤ B * B := by
  have h := Int.mul_nonneg (show 0 ≤ B - x by omega) (show 0 ≤ B + x by omega)
  have e : (B - x) * (B + x) = B * B - x * x := by rw [Int.sub_mul, Int.mul_add, Int.mul_add, Int.mul_comm x B]; omega
  omega
theorem sq2_nn (a b : List Int) : 0 ≤ sq2 a b := by
  induction a generalizing b with
  | nil => simp [sq2]
  | cons x a ih =>
    cases b with
    | nil => simp [sq2]
    | cons y b =>
      have := ih b
      have := sq_nn (x - y)
      simp only [sq2]
      omega
theorem sq2_le (a b : List Int) (ha : ∀ x ∈ a, -131072 ≤ x ∧ x ≤ 131072) (hb : ∀ x ∈ b, -131072 ≤ x ∧ x ≤ 131072) : sq2 a b ≤ 68719476736 * a.length := by
  induction a generalizing b with
  | nil => simp [sq2]
  | cons x a ih =>
    cases b with
    | nil => simp [sq2]; omega
    | cons y b =>
      have h1 := ih b (fun z hz => ha z (List.mem_cons_of_mem _ hz)) (fun z hz => hb z (List.mem_cons_of_mem _ hz))
      have h2 := ha x List.mem_cons_self
      have h3 := hb y List.mem_cons_self
      have h4 := sq_top (x := x - y) (B := 262144) (by omega) (by omega)
      simp only [sq2, List.length_cons]
      omega
/-- Dist's number. -/
def dd (a b : List Int) : Int := if cp a b = 0 then sq2 a b else 0
theorem dd_ok {a b : List Int} (h : cp a b = 0) : dd a b = sq2 a b := by rw [dd, if_pos h]
theorem dd_no {a b : List Int} (h : ¬ cp a b = 0) : dd a b = 0 := by rw [dd, if_neg h]

/-- Number by number, b's taken t times. -/
def mix (t : Int) (a b : List Int) : List Int := List.zipWith (fun x y => x + t * y) a b
theorem mix_len (t : Int) {a b : List Int} (h : a.length = b.length) : (mix t a b).length = a.length := by simp [mix]; omega
theorem mix_get (t : Int) {a b : List Int} {k : Nat} (h : k < (mix t a b).length) (ha : k < a.length) (hb : k < b.length) : (mix t a b)[k] = a[k] + t * b[k] := by simp [mix]
/-- What Sub (t = -1) and Add (t = 1) answer: the error, and the numbers. -/
def er (t : Int) (a b : List Int) : Int := if cp a b = 0 then cw (mix t a b) else cp a b
def mx (t : Int) (a b : List Int) : List Int := if er t a b = 0 then mix t a b else []
end Go.Proofs.Ytcaleaecjoafhaa
