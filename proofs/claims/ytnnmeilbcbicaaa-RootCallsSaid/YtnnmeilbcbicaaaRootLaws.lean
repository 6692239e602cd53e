/-
  The walks of RootCalls, RootBounds, RootDivs, RootSquares and RootMuls: each answers true at all inputs, and touches no memory.
-/
import Derived.Test.YtnnmeilbcbicaaaLives2
namespace Go.Proofs.Ytnnmeilbcbicaaa
open Go.RowKit

set_option maxHeartbeats 1600000 in
theorem rootCalls_walk (a b c d : Int) (w : World) (ha : 0 ≤ a) (ha' : a < 18446744073709551616) (hb : 0 ≤ b) (hb' : b < 18446744073709551616) (hc : -9223372036854775808 ≤ c) (hc' : c ≤ 9223372036854775807) :
    Calls Try.prog 4 #[.int .u64 a, .int .u64 b, .int .i64 c, .int .i64 d] w fun e w' => e = .returned (.bool true) ∧ Below w.heap.size w w' := by
  obtain ⟨x, e1, H1⟩ := told_ex (a * a)
  obtain ⟨s, e2, H2⟩ := told_ex (a + b)
  obtain ⟨m, e3, H3⟩ := told_ex (a * b)
  obtain ⟨p, e4, H4⟩ := dv_ex c d
  obtain ⟨u, e5, H5⟩ := mn_ex c d
  obtain ⟨r, HR⟩ := rt_ex ha
  obtain ⟨t, HT⟩ := cl_ex HR
  go_enter Try.func4, Try.ntmps4
  go_wp2_with fail
  refine (lives_any w).mono ?_
  rintro e w1 ⟨rfl, rfl⟩
  go_wp2_with fail
  refine (square_at a x e1 _ ha ha' H1).mono ?_
  rintro e w1 ⟨rfl, rfl⟩
  go_wp2_with fail
  refine (rsquare_at a x e1 _ ha ha' H1).mono ?_
  rintro e w1 ⟨rfl, rfl⟩
  go_wp2_with fail
  refine (sum_at a b s e2 _ ha hb H2).mono ?_
  rintro e w1 ⟨rfl, rfl⟩
  go_wp2_with fail
  refine (rsum_at a b s e2 _ ha ha' hb hb' H2).mono ?_
  rintro e w1 ⟨rfl, rfl⟩
  go_wp2_with fail
  refine (mul_at a b m e3 _ ha ha' hb hb' H3).mono ?_
  rintro e w1 ⟨rfl, rfl⟩
  go_wp2_with fail
  refine (rmul_at a b m e3 _ ha ha' hb H3).mono ?_
  rintro e w1 ⟨rfl, rfl⟩
  go_wp2_with fail
  refine (div_at c d p e4 _ hc hc' H4).mono ?_
  rintro e w1 ⟨rfl, rfl⟩
  go_wp2_with fail
  refine (rdiv_at c d p e4 _ hc hc' H4).mono ?_
  rintro e w1 ⟨rfl, rfl⟩
  go_wp2_with fail
  refine (mean_at c d u e5 _ H5).mono ?_
  rintro e w1 ⟨rfl, rfl⟩
  go_wp2_with fail
  refine (rmean_at c d u e5 _ H5).mono ?_
  rintro e w1 ⟨rfl, rfl⟩
  go_wp2_with fail
  refine (floor_at a r _ ha' HR).mono ?_
  rintro e w1 ⟨rfl, rfl⟩
  go_wp2_with fail
  refine (rfloor_at a r _ ha' HR).mono ?_
  rintro e w1 ⟨rfl, rfl⟩
  go_wp2_with fail
  refine (ceil_at a r t _ ha' HR HT).mono ?_
  rintro e w1 ⟨rfl, rfl⟩
  go_wp2_with fail
  refine (rceil_at a r t _ ha' HR HT).mono ?_
  rintro e w1 ⟨rfl, rfl⟩
  go_wp2
  go_ret
  exact ⟨rfl, Below.refl _ _⟩
end Go.Proofs.Ytnnmeilbcbicaaa
