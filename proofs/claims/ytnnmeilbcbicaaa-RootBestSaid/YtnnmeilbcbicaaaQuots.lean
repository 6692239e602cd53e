/-
  Contracts of root's Div and Mean and of the reference's, at all arguments. No memory is touched.
-/
import Derived.Test.YtnnmeilbcbicaaaProg
import Derived.Test.YtnnmeilbcbicaaaWords
namespace Go.Proofs.Ytnnmeilbcbicaaa
open Go.RowKit

/-- What Div answers. -/
def Dv (a b q er : Int) : Prop := (b < 1 ∧ q = 0 ∧ er = 2) ∨ (1 ≤ b ∧ q = a / b ∧ er = 0)
/-- What Mean answers. -/
def Mn (s n m er : Int) : Prop :=
  (n < 1 ∧ m = 0 ∧ er = 2) ∨ (1 ≤ n ∧ (1152921504606846976 < n ∨ s < -1152921504606846976 ∨ 1152921504606846976 < s) ∧ m = 0 ∧ er = 11) ∨
    (1 ≤ n ∧ n ≤ 1152921504606846976 ∧ -1152921504606846976 ≤ s ∧ s ≤ 1152921504606846976 ∧ m = (2 * s + n) / (2 * n) ∧ er = 0)
theorem dv_ex (a b : Int) : ∃ q er, Dv a b q er := by
  by_cases h : b < 1
  · exact ⟨0, 2, .inl ⟨h, rfl, rfl⟩⟩
  · exact ⟨a / b, 0, .inr ⟨by omega, rfl, rfl⟩⟩
theorem mn_ex (s n : Int) : ∃ m er, Mn s n m er := by
  by_cases h : n < 1
  · exact ⟨0, 2, .inl ⟨h, rfl, rfl⟩⟩
  · by_cases h2 : 1152921504606846976 < n ∨ s < -1152921504606846976 ∨ 1152921504606846976 < s
    · exact ⟨0, 11, .inr (.inl ⟨by omega, h2, rfl, rfl⟩)⟩
    · exact ⟨_, 0, .inr (.inr ⟨by omega, by omega, by omega, by omega, rfl, rfl⟩)⟩

/-- The language's quotient, and what is left, against the one that goes down. -/
theorem quo_nonneg {a b : Int} (hb : 1 ≤ b) (h : 0 ≤ a.tmod b) : a.tdiv b = a / b := by
  have e := Int.mul_tdiv_add_tmod a b
  have hl := Int.tmod_lt_of_pos a (show 0 < b by omega)
  have e2 := Int.mul_ediv_add_emod a b
  have h1 := Int.emod_nonneg a (show b ≠ 0 by omega)
  have h2 := Int.emod_lt_of_pos a (show 0 < b by omega)
  have h3 : b * (a.tdiv b - a / b) = a % b - a.tmod b := by rw [Int.mul_sub]; omega
  have h4 : a.tdiv b - a / b = 0 := by
    by_cases hz : a.tdiv b - a / b = 0
    · exact hz
    · by_cases hp : 0 < a.tdiv b - a / b
      · have := Int.mul_le_mul_of_nonneg_left (show 1 ≤ a.tdiv b - a / b by omega) (show 0 ≤ b by omega)
        omega
      · have := Int.mul_le_mul_of_nonneg_left (show a.tdiv b - a / b ≤ -1 by omega) (show 0 ≤ b by omega)
        omega
  omega
theorem quo_neg {a b : Int} (hb : 1 ≤ b) (h : a.tmod b < 0) : a.tdiv b - 1 = a / b := by
  have e := Int.mul_tdiv_add_tmod a b
  have hl : -b < a.tmod b := by
    have := Int.lt_tmod_of_pos a (show 0 < b by omega)
    omega
  have e2 := Int.mul_ediv_add_emod a b
  have h1 := Int.emod_nonneg a (show b ≠ 0 by omega)
  have h2 := Int.emod_lt_of_pos a (show 0 < b by omega)
  have h3 : b * (a.tdiv b - 1 - a / b) = a % b - a.tmod b - b := by rw [Int.mul_sub, Int.mul_sub]; omega
  have h4 : a.tdiv b - 1 - a / b = 0 := by
    by_cases hz : a.tdiv b - 1 - a / b = 0
    · exact hz
    · by_cases hp : 0 < a.tdiv b - 1 - a / b
      · have := Int.mul_le_mul_of_nonneg_left (show 1 ≤ a.tdiv b - 1 - a / b by omega) (show 0 ≤ b by omega)
        omega
      · have := Int.mul_le_mul_of_nonneg_left (show a.tdiv b - 1 - a / b ≤ -1 by omega) (show 0 ≤ b by omega)
        omega
  omega
/-- A quotient lies between nought and its number. -/
theorem div_bounds {a b : Int} (hb : 1 ≤ b) (h1 : -9223372036854775808 ≤ a) (h2 : a ≤ 9223372036854775807) : -9223372036854775808 ≤ a / b ∧ a / b ≤ 9223372036854775807 := by
  constructor
  · exact (Int.le_ediv_iff_mul_le (by omega)).2 (by omega)
  · have := Int.ediv_le_ediv (show 0 < b by omega) h2
    have := Int.ediv_le_self (a := 9223372036854775807) b (by omega)
    omega
theorem tdiv_bounds {a b : Int} (hb : 1 ≤ b) (h1 : -9223372036854775808 ≤ a) (h2 : a ≤ 9223372036854775807) : -9223372036854775808 ≤ a.tdiv b ∧ a.tdiv b ≤ 9223372036854775807 := by
  have hd := div_bounds hb h1 h2
  by_cases h : 0 ≤ a.tmod b
  · rw [quo_nonneg hb h]; exact hd
  · have e := quo_neg hb (show a.tmod b < 0 by omega)
    refine ⟨by omega, ?_⟩
    have ha : a < 0 := by
      by_cases hh : a < 0
      · exact hh
      · have := Int.tmod_nonneg (a := a) b (by omega)
        omega
    have : a / b < 0 := Int.ediv_neg_of_neg_of_pos ha (by omega)
    omega
theorem ret_two {k j : IntKind} {a b c : Int} (h : a = b) : Ending.returned (.tuple #[.int k a, .int j c]) = .returned (.tuple #[.int k b, .int j c]) := by rw [h]

set_option maxHeartbeats 800000 in
theorem div_at (a b q er : Int) (w : World) (h1 : -9223372036854775808 ≤ a) (h2 : a ≤ 9223372036854775807) (h : Dv a b q er) :
    Calls Try.prog 20 #[.int .i64 a, .int .i64 b] w fun e w' => e = .returned (.tuple #[.int .i64 q, .int .i64 er]) ∧ w = w' := by
  rcases h with ⟨h, rfl, rfl⟩ | ⟨h, rfl, rfl⟩
  · go_enter Try.func20, Try.ntmps20
    go_wp2
    go_ret2
    exact ⟨rfl, rfl⟩
  · have hne : (b == 0) = false := by simp; omega
    obtain ⟨t1, t2⟩ := tdiv_bounds h h1 h2
    obtain ⟨d1, d2⟩ := div_bounds h h1 h2
    by_cases hm : a.tmod b < 0
    · have HQ := hid (quo_neg h hm)
      have t3 : -9223372036854775808 ≤ a.tdiv b - 1 := by rw [HQ.out]; exact d1
      clear d1 d2
      go_enter Try.func20, Try.ntmps20
      go_wp2
      go_ret2
      exact ⟨ret_two HQ.out, rfl⟩
    · have hm' : 0 ≤ a.tmod b := by omega
      have HQ := hid (quo_nonneg h hm')
      clear d1 d2 hm
      go_enter Try.func20, Try.ntmps20
      go_wp2
      go_ret2
      exact ⟨ret_two HQ.out, rfl⟩

set_option maxHeartbeats 800000 in
theorem rdiv_at (a b q er : Int) (w : World) (h1 : -9223372036854775808 ≤ a) (h2 : a ≤ 9223372036854775807) (h : Dv a b q er) :
    Calls Try.prog 21 #[.int .i64 a, .int .i64 b] w fun e w' => e = .returned (.tuple #[.int .i64 q, .int .i64 er]) ∧ w = w' := by
  rcases h with ⟨h, rfl, rfl⟩ | ⟨h, rfl, rfl⟩
  · go_enter Try.func21, Try.ntmps21
    go_wp2
    go_ret2
    exact ⟨rfl, rfl⟩
  · have hne : (b == 0) = false := by simp; omega
    obtain ⟨t1, t2⟩ := tdiv_bounds h h1 h2
    obtain ⟨d1, d2⟩ := div_bounds h h1 h2
    by_cases hm : a.tmod b < 0
    · have HQ := hid (quo_neg h hm)
      have t3 : -9223372036854775808 ≤ a.tdiv b - 1 := by rw [HQ.out]; exact d1
      clear d1 d2
      go_enter Try.func21, Try.ntmps21
      go_wp2
      go_ret2
      exact ⟨ret_two HQ.out, rfl⟩
    · have hm' : 0 ≤ a.tmod b := by omega
      have HQ := hid (quo_nonneg h hm')
      clear d1 d2 hm
      go_enter Try.func21, Try.ntmps21
      go_wp2
      go_ret2
      exact ⟨ret_two HQ.out, rfl⟩

set_option maxHeartbeats 800000 in
theorem mean_at (s n m er : Int) (w : World) (h : Mn s n m er) :
    Calls Try.prog 13 #[.int .i64 s, .int .i64 n] w fun e w' => e = .returned (.tuple #[.int .i64 m, .int .i64 er]) ∧ w = w' := by
  rcases h with ⟨h, rfl, rfl⟩ | ⟨h, h2, rfl, rfl⟩ | ⟨h, h2, h3, h4, HM, rfl⟩
  · go_enter Try.func13, Try.ntmps13
    go_wp2
    go_ret2
    exact ⟨rfl, rfl⟩
  · by_cases g1 : 1152921504606846976 < n
    · clear h2
      go_enter Try.func13, Try.ntmps13
      go_wp2
      go_ret2
      exact ⟨rfl, rfl⟩
    · have g1' : n ≤ 1152921504606846976 := by omega
      by_cases g2 : s < -1152921504606846976
      · clear h2
        go_enter Try.func13, Try.ntmps13
        go_wp2
        go_ret2
        exact ⟨rfl, rfl⟩
      · have g3 : 1152921504606846976 < s := by omega
        clear h2 g1
        go_enter Try.func13, Try.ntmps13
        go_wp2
        go_ret2
        exact ⟨rfl, rfl⟩
  · have HH := hid HM
    clear HM
    go_enter Try.func13, Try.ntmps13
    go_wp2_with fail
    refine (div_at _ _ m 0 _ (by omega) (by omega) (.inr ⟨by omega, HH.out, rfl⟩)).mono ?_
    rintro e w1 ⟨rfl, rfl⟩
    go_wp2
    go_ret2
    exact ⟨rfl, rfl⟩

set_option maxHeartbeats 800000 in
theorem rmean_at (s n m er : Int) (w : World) (h : Mn s n m er) :
    Calls Try.prog 22 #[.int .i64 s, .int .i64 n] w fun e w' => e = .returned (.tuple #[.int .i64 m, .int .i64 er]) ∧ w = w' := by
  rcases h with ⟨h, rfl, rfl⟩ | ⟨h, h2, rfl, rfl⟩ | ⟨h, h2, h3, h4, HM, rfl⟩
  · go_enter Try.func22, Try.ntmps22
    go_wp2
    go_ret2
    exact ⟨rfl, rfl⟩
  · by_cases g1 : 1152921504606846976 < n
    · clear h2
      go_enter Try.func22, Try.ntmps22
      go_wp2
      go_ret2
      exact ⟨rfl, rfl⟩
    · have g1' : n ≤ 1152921504606846976 := by omega
      by_cases g2 : s < -1152921504606846976
      · clear h2
        go_enter Try.func22, Try.ntmps22
        go_wp2
        go_ret2
        exact ⟨rfl, rfl⟩
      · have g3 : 1152921504606846976 < s := by omega
        clear h2 g1
        go_enter Try.func22, Try.ntmps22
        go_wp2
        go_ret2
        exact ⟨rfl, rfl⟩
  · have HH := hid HM
    clear HM
    go_enter Try.func22, Try.ntmps22
    go_wp2_with fail
    refine (rdiv_at _ _ m 0 _ (by omega) (by omega) (.inr ⟨by omega, HH.out, rfl⟩)).mono ?_
    rintro e w1 ⟨rfl, rfl⟩
    go_wp2
    go_ret2
    exact ⟨rfl, rfl⟩
end Go.Proofs.Ytnnmeilbcbicaaa
