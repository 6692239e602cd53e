/-
  The walks of RootBounds and RootDivs: each answers true at all inputs, and touches no memory.
-/
import Derived.Test.YtnnmeilbcbicaaaLives2
namespace Go.Proofs.Ytnnmeilbcbicaaa
open Go.RowKit

set_option maxHeartbeats 1600000 in
theorem rootBounds_walk (n : Int) (w : World) (hn : 0 ≤ n) (hn' : n < 18446744073709551616) :
    Calls Try.prog 5 #[.int .u64 n] w fun e w' => e = .returned (.bool true) ∧ Below w.heap.size w w' := by
  obtain ⟨r, HR⟩ := rt_ex hn
  obtain ⟨c, HC⟩ := cl_ex HR
  have h0 := HR.1
  have h1 := HR.2.1
  have h2 := HR.2.2
  have hr := rt_lt HR hn'
  have hs := sq_wrap h0 hr
  go_enter Try.func5, Try.ntmps5
  go_wp2_with fail
  refine (lives_any w).mono ?_
  rintro e w1 ⟨rfl, rfl⟩
  go_wp2_with fail
  refine (floor_at n r _ hn' HR).mono ?_
  rintro e w1 ⟨rfl, rfl⟩
  go_wp2_with fail
  refine (ceil_at n r c _ hn' HR HC).mono ?_
  rintro e w1 ⟨rfl, rfl⟩
  rcases HC with ⟨e, rfl⟩ | ⟨e, rfl⟩
  · subst e
    by_cases hz : c = 0
    · subst hz
      go_wp2
      go_ret
      exact ⟨rfl, Below.refl _ _⟩
    · have hb : (c == 0) = false := by simp; omega
      have hb2 : (c == 4294967296) = false := by simp; omega
      have hl := sq_lt (a := c - 1) (b := c) (by omega) (by omega)
      have hs2 := sq_wrap (m := c - 1) (by omega) (by omega)
      by_cases hm : c + 1 < 4294967296
      · have hs3 := sq_wrap (m := c + 1) (by omega) (by omega)
        go_wp2
        go_ret
        exact ⟨rfl, Below.refl _ _⟩
      · obtain rfl : c = 4294967295 := by omega
        go_wp2
        go_ret
        exact ⟨rfl, Below.refl _ _⟩
  · by_cases hm : r + 1 < 4294967296
    · have hs3 := sq_wrap (m := r + 1) (by omega) (by omega)
      have hb : (r + 1 == 0) = false := by simp; omega
      have hb2 : (r + 1 == 4294967296) = false := by simp; omega
      have hb3 : (r + 1 == r) = false := by simp; omega
      go_wp2
      go_ret
      exact ⟨rfl, Below.refl _ _⟩
    · obtain rfl : r = 4294967295 := by omega
      have e' : 18446744065119617025 < n := by omega
      go_wp2
      go_ret
      exact ⟨rfl, Below.refl _ _⟩

set_option maxHeartbeats 1600000 in
theorem rootDivs_walk (a b : Int) (w : World) (ha : -9223372036854775808 ≤ a) (ha' : a ≤ 9223372036854775807) (hb : 0 ≤ b) (hb' : b ≤ 4294967295) :
    Calls Try.prog 7 #[.int .i64 a, .int .u32 b] w fun e w' => e = .returned (.bool true) ∧ Below w.heap.size w w' := by
  have hA : -2305843009213693952 ≤ a.tdiv 4 ∧ a.tdiv 4 ≤ 2305843009213693952 := by
    have e1 := Int.mul_tdiv_add_tmod a 4
    have e2 := Int.tmod_lt_of_pos a (show (0 : Int) < 4 by decide)
    have e3 := Int.lt_tmod_of_pos a (show (0 : Int) < 4 by decide)
    omega
  obtain ⟨hA1, hA2⟩ := hA
  have hN1 : 1 ≤ b % 2147483648 + 1 := by omega
  have hN2 : b % 2147483648 + 1 ≤ 2147483648 := by omega
  obtain ⟨q, HQ⟩ : ∃ q, Hid (q = (a.tdiv 4) / (b % 2147483648 + 1)) := ⟨_, rfl⟩
  have HQ2 : Hid (q + 1 = (a.tdiv 4 + (b % 2147483648 + 1)) / (b % 2147483648 + 1)) := by
    rw [HQ.out, Int.add_ediv_of_dvd_right (Int.dvd_refl _), Int.ediv_self (by omega)]
    exact rfl
  have hq1 : q * (b % 2147483648 + 1) ≤ a.tdiv 4 := by rw [HQ.out]; exact Int.ediv_mul_le _ (by omega)
  have hq2 : a.tdiv 4 < q * (b % 2147483648 + 1) + (b % 2147483648 + 1) := by
    have := Int.lt_ediv_add_one_mul_self (a.tdiv 4) (show 0 < b % 2147483648 + 1 by omega)
    rw [← HQ.out, Int.add_mul] at this
    omega
  have hqb := div_bounds hN1 (show -9223372036854775808 ≤ a.tdiv 4 by omega) (by omega)
  rw [← HQ.out] at hqb
  obtain ⟨hqb1, hqb2⟩ := hqb
  have hqb3 : q ≤ 2305843009213693952 := by
    have := Int.ediv_le_ediv (show 0 < b % 2147483648 + 1 by omega) hA2
    have h3 := Int.ediv_le_self (a := 2305843009213693952) (b % 2147483648 + 1) (by omega)
    rw [← HQ.out] at this
    omega
  have hm : IntKind.i64.wrap (q * (b % 2147483648 + 1)) = q * (b % 2147483648 + 1) := by rw [IntKind.wrap_i64]; omega
  clear hqb2
  go_enter Try.func7, Try.ntmps7
  go_wp2_with fail
  refine (lives_any w).mono ?_
  rintro e w1 ⟨rfl, rfl⟩
  go_wp2_with fail
  refine (div_at _ _ q 0 _ (by omega) (by omega) (.inr ⟨by omega, HQ.out, rfl⟩)).mono ?_
  rintro e w1 ⟨rfl, rfl⟩
  go_wp2_with fail
  refine (div_at _ _ (q + 1) 0 _ (by omega) (by omega) (.inr ⟨by omega, HQ2.out, rfl⟩)).mono ?_
  rintro e w1 ⟨rfl, rfl⟩
  go_wp2
  go_ret
  exact ⟨rfl, Below.refl _ _⟩
end Go.Proofs.Ytnnmeilbcbicaaa
