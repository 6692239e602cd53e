/-
  The root of a distance is a metric: the arithmetic, and the walk of VecMetric.
-/
import Derived.Test.YtcaleaecjoafhaaLives3
import Derived.Test.YtcaleaecjoafhaaSames
import Derived.Test.YtcaleaecjoafhaaRRoots
namespace Go.Proofs.Ytcaleaecjoafhaa
open Go.RowKit

theorem sq2_comm (a b : List Int) : sq2 a b = sq2 b a := by
  induction a generalizing b with
  | nil => cases b <;> rfl
  | cons x a ih =>
    cases b with
    | nil => rfl
    | cons y b =>
      simp only [sq2, ih b]
      have : (x - y) * (x - y) = (y - x) * (y - x) := by
        rw [← Int.neg_mul_neg (y - x) (y - x), Int.neg_sub]
      omega
theorem sq_pos {x : Int} (h : ¬ x = 0) : 0 < x * x := by
  rcases Int.lt_or_gt_of_ne h with h | h
  · exact Int.mul_pos_of_neg_of_neg h h
  · exact Int.mul_pos h h
theorem sq2_eq {a b : List Int} (hl : a.length = b.length) (h : sq2 a b = 0) : a = b := by
  induction a generalizing b with
  | nil =>
    cases b with
    | nil => rfl
    | cons y b => simp at hl
  | cons x a ih =>
    cases b with
    | nil => simp at hl
    | cons y b =>
      simp only [sq2] at h
      have h1 := sq_nn (x - y)
      have h2 := sq2_nn a b
      have h3 : x - y = 0 := Decidable.byContradiction fun hc => by have := sq_pos hc; omega
      rw [ih (by simpa using hl) (by omega), show x = y by omega]
theorem sq2_self (a : List Int) : sq2 a a = 0 := by
  induction a with
  | nil => rfl
  | cons x a ih => simp [sq2, ih]
/-- The sum of the products of a - b and b - c. -/
def dt : List Int → List Int → List Int → Int
  | x :: a, y :: b, z :: c => (x - y) * (y - z) + dt a b c
  | _, _, _ => 0
theorem sq2_dt (a b c : List Int) (h1 : a.length = b.length) (h2 : b.length = c.length) : sq2 a c = sq2 a b + 2 * dt a b c + sq2 b c := by
  induction a generalizing b c with
  | nil =>
    cases b with
    | nil => cases c with
      | nil => rfl
      | cons z c => simp at h2
    | cons y b => simp at h1
  | cons x a ih =>
    cases b with
    | nil => simp at h1
    | cons y b =>
      cases c with
      | nil => simp at h2
      | cons z c =>
        have := ih b c (by simpa using h1) (by simpa using h2)
        simp only [sq2, dt]
        have e : (x - z) * (x - z) = (x - y) * (x - y) + 2 * ((x - y) * (y - z)) + (y - z) * (y - z) := by
          rw [show x - z = (x - y) + (y - z) by omega]
          generalize x - y = u
          generalize y - z = v
          rw [Int.add_mul, Int.mul_add, Int.mul_add, Int.mul_comm v u]
          omega
        omega
theorem dt_le (s t : Int) (a b c : List Int) : 2 * (s * t * dt a b c) ≤ s * s * sq2 a b + t * t * sq2 b c := by
  induction a generalizing b c with
  | nil =>
    have h1 := Int.mul_nonneg (sq_nn s) (sq2_nn [] b)
    have h2 := Int.mul_nonneg (sq_nn t) (sq2_nn b c)
    simp only [dt, Int.mul_zero]
    omega
  | cons x a ih =>
    cases b with
    | nil =>
      have h1 := Int.mul_nonneg (sq_nn s) (sq2_nn (x :: a) [])
      have h2 := Int.mul_nonneg (sq_nn t) (sq2_nn [] c)
      simp only [dt, Int.mul_zero]
      omega
    | cons y b =>
      cases c with
      | nil =>
        have h1 := Int.mul_nonneg (sq_nn s) (sq2_nn (x :: a) (y :: b))
        have h2 := Int.mul_nonneg (sq_nn t) (sq2_nn (y :: b) [])
        simp only [dt, Int.mul_zero]
        omega
      | cons z c =>
        have h := ih b c
        simp only [sq2, dt]
        generalize x - y = u
        generalize y - z = v
        have e := sq_nn (s * u - t * v)
        rw [Int.sub_mul, Int.mul_sub, Int.mul_sub, Int.mul_comm (t * v) (s * u)] at e
        have e1 : s * u * (s * u) = s * s * (u * u) := by ac_rfl
        have e2 : s * u * (t * v) = s * t * (u * v) := by ac_rfl
        have e3 : t * v * (t * v) = t * t * (v * v) := by ac_rfl
        rw [e1, e2, e3] at e
        rw [Int.mul_add, Int.mul_add (s * s), Int.mul_add (t * t)]
        omega
theorem triangle {a b c : List Int} {p q : Int} (h1 : a.length = b.length) (h2 : b.length = c.length) (hp : 0 ≤ p) (hq : 0 ≤ q) (hx : sq2 a b ≤ p * p) (hy : sq2 b c ≤ q * q) : sq2 a c ≤ (p + q) * (p + q) := by
  have e : (p + q) * (p + q) = p * p + 2 * (p * q) + q * q := by
    rw [Int.add_mul, Int.mul_add, Int.mul_add, Int.mul_comm q p]
    omega
  rcases Int.lt_or_eq_of_le hp with hp' | rfl
  · rcases Int.lt_or_eq_of_le hq with hq' | rfl
    · have hd := dt_le q p a b c
      have g1 : q * q * sq2 a b ≤ q * q * (p * p) := Int.mul_le_mul_of_nonneg_left hx (sq_nn q)
      have g2 : p * p * sq2 b c ≤ p * p * (q * q) := Int.mul_le_mul_of_nonneg_left hy (sq_nn p)
      have e1 : q * q * (p * p) = q * p * (q * p) := by ac_rfl
      have e2 : p * p * (q * q) = q * p * (q * p) := by ac_rfl
      rw [e1] at g1
      rw [e2] at g2
      have hpq : 0 < q * p := Int.mul_pos hq' hp'
      have hdt : dt a b c ≤ q * p := by
        refine Int.le_of_mul_le_mul_left ?_ hpq
        omega
      rw [sq2_dt a b c h1 h2, e, Int.mul_comm p q]
      omega
    · have hz : sq2 b c = 0 := by have := sq2_nn b c; omega
      have := sq2_eq h2 hz
      subst this
      simpa using hx
  · have hz : sq2 a b = 0 := by have := sq2_nn a b; omega
    have := sq2_eq h1 hz
    subst this
    simpa using hy
theorem cl_sq {n r c : Int} (h : Rt n r) (hc : Cl n r c) : 0 ≤ c ∧ n ≤ c * c := by
  obtain ⟨h0, h1, h2⟩ := h
  rcases hc with ⟨e, rfl⟩ | ⟨e, rfl⟩
  · omega
  · exact ⟨by omega, by omega⟩
theorem cl_small {n r c : Int} (h : Rt n r) (hc : Cl n r c) (hn : n < 18446744073709551616) : c ≤ 4294967296 := by
  have := rt_lt h hn
  rcases hc with ⟨e, rfl⟩ | ⟨e, rfl⟩ <;> omega
theorem root_le {r p q z : Int} (hp : 0 ≤ p) (hq : 0 ≤ q) (h : r * r ≤ z) (hz : z ≤ (p + q) * (p + q)) : r ≤ p + q := by
  refine Int.not_lt.1 fun hc => ?_
  have := sq_lt (a := p + q) (b := r) (by omega) hc
  omega

set_option maxRecDepth 100000 in
set_option maxHeartbeats 1600000 in
theorem vecMetric_walk (A B C : Option Addr) (n m k c d g : Nat) (a b l : List Int) (w : World) (hA : Row w 0 w.heap.size A n (IK .i32 a)) (hB : Row w 0 w.heap.size B m (IK .i32 b)) (hC : Row w 0 w.heap.size C k (IK .i32 l))
    (hn : n ≤ 9223372036854775807) (hm : m ≤ 9223372036854775807) (hk : k ≤ 9223372036854775807) :
    Calls Try.prog 7 #[.slice A n c, .slice B m d, .slice C k g] w fun e w' => e = .returned (.bool true) ∧ Below w.heap.size w w' := by
  go_enter Try.func7, Try.ntmps7
  go_wp2_with fail
  refine (lives_any w).mono ?_
  rintro e w1 ⟨rfl, hb⟩
  by_cases h1 : 1100 < n
  · go_wp2
    go_ret
    exact ⟨rfl, hb⟩
  by_cases h2 : 1100 < m
  · go_wp2
    go_ret
    exact ⟨rfl, hb⟩
  by_cases h3 : 1100 < k
  · go_wp2
    go_ret
    exact ⟨rfl, hb⟩
  have s1 := hb.size
  go_wp2_with fail
  refine (dist_any A B n m c d _ _ _ _ a b w1 (hA.below hb (Nat.le_refl _)) (hB.below hb (Nat.le_refl _)) s1 s1 hn hm).mono ?_
  rintro e w2 ⟨rfl, hb2⟩
  have hb2' := hb.trans (hb2.mono s1)
  have s2 := hb2'.size
  clear hb2
  go_wp2_with fail
  refine (dist_any B C m k d g _ _ _ _ b l w2 (hB.below hb2' (Nat.le_refl _)) (hC.below hb2' (Nat.le_refl _)) s2 s2 hm hk).mono ?_
  rintro e w3 ⟨rfl, hb3⟩
  have hb3' := hb2'.trans (hb3.mono s2)
  have s3 := hb3'.size
  clear hb3
  go_wp2_with fail
  refine (dist_any A C n k c g _ _ _ _ a l w3 (hA.below hb3' (Nat.le_refl _)) (hC.below hb3' (Nat.le_refl _)) s3 s3 hn hk).mono ?_
  rintro e w4 ⟨rfl, hb4⟩
  have hb4' := hb3'.trans (hb4.mono s3)
  have s4 := hb4'.size
  clear hb4
  go_wp2_with fail
  refine (dist_any B A m n d c _ _ _ _ b a w4 (hB.below hb4' (Nat.le_refl _)) (hA.below hb4' (Nat.le_refl _)) s4 s4 hm hn).mono ?_
  rintro e w5 ⟨rfl, hb5⟩
  have hb5' := hb4'.trans (hb5.mono s4)
  have s5 := hb5'.size
  clear hb5 hb hb2' hb3' hb4' s1 s2 s3 s4
  have hAB := hA.below hb5' (Nat.le_refl _)
  have hBB := hB.below hb5' (Nat.le_refl _)
  clear hA hB hC
  by_cases e1 : cp a b = 0
  · by_cases e2 : cp b l = 0
    · obtain ⟨x1, x2, x3⟩ := cp_zero e1
      obtain ⟨y1, y2, y3⟩ := cp_zero e2
      have e3 : cp a l = 0 := cp_mk x1 y2 (x3.trans y3)
      have e4 : cp b a = 0 := cp_swap e1
      have hba : dd b a = dd a b := by rw [dd_ok e4, dd_ok e1, sq2_comm]
      have p1 := dd_ok e1
      have p2 := dd_ok e2
      have p3 := dd_ok e3
      obtain ⟨_, z1, z2⟩ := cw_zero x1
      obtain ⟨_, _, z3⟩ := cw_zero x2
      obtain ⟨_, z0, z4⟩ := cw_zero y2
      have l1 : dd a b ≤ 70368744177664 := by have := sq2_le a b z2 z3; omega
      have l2 : dd b l ≤ 70368744177664 := by have := sq2_le b l z3 z4; omega
      have l3 : dd a l ≤ 70368744177664 := by have := sq2_le a l z2 z4; omega
      have k1 : 0 ≤ dd a b := by have := sq2_nn a b; omega
      have k2 : 0 ≤ dd b l := by have := sq2_nn b l; omega
      have k3 : 0 ≤ dd a l := by have := sq2_nn a l; omega
      obtain ⟨rx, hrx⟩ := rt_ex k1
      obtain ⟨ry, hry⟩ := rt_ex k2
      obtain ⟨rz, hrz⟩ := rt_ex k3
      obtain ⟨cx, hcx⟩ := cl_ex hrx
      obtain ⟨cy, hcy⟩ := cl_ex hry
      obtain ⟨i1, i2⟩ := cl_sq hrx hcx
      obtain ⟨i3, i4⟩ := cl_sq hry hcy
      have i5 := cl_small hrx hcx (by omega)
      have i6 := cl_small hry hcy (by omega)
      have i7 := hrz.1
      have htri : rz ≤ cx + cy := root_le i1 i3 hrz.2.1 (by rw [p3]; exact triangle x3 y3 i1 i3 (by rw [← p1]; exact i2) (by rw [← p2]; exact i4))
      have HS : Hid ((dd a b == 0) = decide (a = b)) := hid (by
        by_cases hc : a = b
        · subst hc; rw [p1, sq2_self]; simp
        · rw [decide_eq_false hc]
          simp only [beq_eq_false_iff_ne, ne_eq]
          intro h0
          exact hc (sq2_eq x3 (by rw [← p1]; exact h0)))
      have H1 := hid hrx
      have H2 := hid hry
      have H3 := hid hrz
      have H4 := hid hcx
      have H5 := hid hcy
      rw [e1, e2, e3, e4, hba]
      clear e1 e2 e3 e4 hba p1 p2 p3 x1 x2 x3 y1 y2 y3 z0 z1 z2 z3 z4 hrx hry hrz hcx hcy i2 i4
      have q0 : (dd a b != dd a b) = false := by simp
      generalize dd a b = x at *
      generalize dd b l = y at *
      generalize dd a l = z at *
      go_wp2_with fail
      refine (same32 A B n m c d _ _ _ _ a b _ hAB hBB hn).mono ?_
      rintro e w6 ⟨rfl, j, rfl⟩
      rw [← HS.out]
      have hb6 : Below w.heap.size w (w5.drewN j) := below_drewN hb5' j
      generalize w5.drewN j = w6 at *
      have q1 : ((x == 0) != (x == 0)) = false := by simp
      generalize (x == 0) = bx at *
      go_wp2_with fail
      refine (rfloor_at z rz _ (by omega) H3.out).mono ?_
      rintro e w7 ⟨rfl, rfl⟩
      go_wp2_with fail
      refine (rceil_at x rx cx _ (by omega) H1.out H4.out).mono ?_
      rintro e w7 ⟨rfl, rfl⟩
      go_wp2_with fail
      refine (rceil_at y ry cy _ (by omega) H2.out H5.out).mono ?_
      rintro e w7 ⟨rfl, rfl⟩
      go_wp2
      go_ret
      exact ⟨rfl, hb6⟩
    · have e4 : cp b a = 0 := cp_swap e1
      have q2 : (cp b l != 0) = true := by simpa using e2
      rw [e1, e4]
      clear e1 e2 e4
      go_wp2
      go_ret
      exact ⟨rfl, hb5'⟩
  · have e4 : ¬ cp b a = 0 := fun h => e1 (cp_swap h)
    have q1 : (cp a b == 0) = false := by simpa using e1
    have q2 : (cp b a == 0) = false := by simpa using e4
    have q3 : (cp a b != 0) = true := by simpa using e1
    rw [dd_no e1]
    clear e1 e4
    go_wp2
    go_ret
    exact ⟨rfl, hb5'⟩
end Go.Proofs.Ytcaleaecjoafhaa
