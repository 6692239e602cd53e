/-
  The laws' own first question, 'lives' (the chapter's examples come out: it answers true and touches no memory), and the walk of RootNames.
-/
import Derived.Test.YtnnmeilbcbicaaaArith
import Derived.Test.YtnnmeilbcbicaaaRoots
import Derived.Test.YtnnmeilbcbicaaaQuots
namespace Go.Proofs.Ytnnmeilbcbicaaa
open Go.RowKit

set_option maxHeartbeats 800000 in
theorem lives_any (w : World) : Calls Try.prog 14 #[] w fun e w' => e = .returned (.bool true) ∧ w = w' := by
  go_enter Try.func14, Try.ntmps14
  go_wp2_with fail
  refine (div_at _ _ (-4) 0 _ (by omega) (by omega) (.inr ⟨by omega, by decide, rfl⟩)).mono ?_
  rintro e w1 ⟨rfl, rfl⟩
  go_wp2_with fail
  refine (mean_at _ _ (-3) 0 _ (.inr (.inr ⟨by omega, by omega, by omega, by omega, by decide, rfl⟩))).mono ?_
  rintro e w1 ⟨rfl, rfl⟩
  go_wp2_with fail
  refine (mean_at _ _ 4 0 _ (.inr (.inr ⟨by omega, by omega, by omega, by omega, by decide, rfl⟩))).mono ?_
  rintro e w1 ⟨rfl, rfl⟩
  go_wp2_with fail
  refine (floor_at _ 4 _ (by omega) ⟨by omega, by decide, by decide⟩).mono ?_
  rintro e w1 ⟨rfl, rfl⟩
  go_wp2_with fail
  refine (ceil_at _ 4 5 _ (by omega) ⟨by omega, by decide, by decide⟩ (.inr ⟨by decide, by decide⟩)).mono ?_
  rintro e w1 ⟨rfl, rfl⟩
  go_wp2_with fail
  refine (floor_at _ 5 _ (by omega) ⟨by omega, by decide, by decide⟩).mono ?_
  rintro e w1 ⟨rfl, rfl⟩
  go_wp2_with fail
  refine (ceil_at _ 5 5 _ (by omega) ⟨by omega, by decide, by decide⟩ (.inl ⟨by decide, by decide⟩)).mono ?_
  rintro e w1 ⟨rfl, rfl⟩
  go_wp2
  go_ret
  exact ⟨rfl, rfl⟩

set_option maxHeartbeats 1600000 in
theorem rootNames_walk (w : World) : Calls Try.prog 3 #[] w fun e w' => e = .returned (.bool true) ∧ Below w.heap.size w w' := by
  go_enter Try.func3, Try.ntmps3
  go_wp2_with fail
  refine (square_at _ 0 11 _ (by omega) (by omega) (.inr ⟨by decide, rfl, rfl⟩)).mono ?_
  rintro e w1 ⟨rfl, rfl⟩
  go_wp2_with fail
  refine (square_at _ 18446744065119617025 0 _ (by omega) (by omega) (.inl ⟨by decide, by decide, rfl⟩)).mono ?_
  rintro e w1 ⟨rfl, rfl⟩
  go_wp2_with fail
  refine (sum_at _ _ 0 11 _ (by omega) (by omega) (.inr ⟨by decide, rfl, rfl⟩)).mono ?_
  rintro e w1 ⟨rfl, rfl⟩
  go_wp2_with fail
  refine (mul_at _ _ 0 11 _ (by omega) (by omega) (by omega) (by omega) (.inr ⟨by decide, rfl, rfl⟩)).mono ?_
  rintro e w1 ⟨rfl, rfl⟩
  go_wp2_with fail
  refine (mean_at _ _ 0 11 _ (.inr (.inl ⟨by omega, by omega, rfl, rfl⟩))).mono ?_
  rintro e w1 ⟨rfl, rfl⟩
  go_wp2_with fail
  refine (mean_at _ _ 0 2 _ (.inl ⟨by omega, rfl, rfl⟩)).mono ?_
  rintro e w1 ⟨rfl, rfl⟩
  go_wp2_with fail
  refine (lives_any _).mono ?_
  rintro e w1 ⟨rfl, rfl⟩
  go_wp2_with fail
  refine (floor_at _ 4294967295 _ (by omega) ⟨by omega, by decide, by decide⟩).mono ?_
  rintro e w1 ⟨rfl, rfl⟩
  go_wp2_with fail
  refine (ceil_at _ 4294967295 4294967296 _ (by omega) ⟨by omega, by decide, by decide⟩ (.inr ⟨by decide, by decide⟩)).mono ?_
  rintro e w1 ⟨rfl, rfl⟩
  go_wp2_with fail
  refine (ceil_at _ 0 0 _ (by omega) ⟨by omega, by decide, by decide⟩ (.inl ⟨by decide, by decide⟩)).mono ?_
  rintro e w1 ⟨rfl, rfl⟩
  go_wp2
  go_ret
  exact ⟨rfl, Below.refl _ _⟩
end Go.Proofs.Ytnnmeilbcbicaaa
