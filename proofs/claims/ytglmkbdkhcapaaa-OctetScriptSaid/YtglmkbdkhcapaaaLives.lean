/-
  The laws' own first question, 'lives': the chapter's examples come out: it answers true, and changes nothing that was there.
-/
import Derived.Test.YtglmkbdkhcapaaaNums
import Derived.Test.YtglmkbdkhcapaaaPut
namespace Go.Proofs.Ytglmkbdkhcapaaa
open Go.RowKit

set_option maxHeartbeats 800000 in
theorem lives_any (w : World) : Calls Try.prog 13 #[] w fun e w' => e = .returned (.bool true) ∧ Below w.heap.size w w' := by
  go_enter Try.func13, Try.ntmps13
  go_wp2_with fail
  refine (put_any none 0 0 0 0 [] _ _ _ Row.empty (fun _ => rfl) (Nat.zero_le _) (by omega) (by omega)).mono ?_
  rintro e w1 ⟨A, n, c, rfl, hl, hA, hown, hb1⟩
  have hz1 := hb1.size
  have hn : n ≤ 9223372036854775807 := by rw [← hl.out]; decide
  go_wp2_with fail
  refine (same_yes A _ n _ c _ w.heap.size w1.heap.size w1.heap.size (w1.heap.size + 1) _ [2, 1] _ ((Row.of_own hown).alloc (Nat.le_refl _) _) (row_lit w1 _ [2, 1]) hn (by decide)).mono ?_
  rintro e w2 ⟨rfl, k, hw2⟩
  have hb2 : Below w.heap.size w w2 := by rw [hw2]; exact below_drewN (hb1.alloc hz1 _) k
  have hz2 := hb2.size
  clear hown hw2
  go_wp2_with fail
  refine (of_any _ _ _ _ _ [2, 1, 0] _ (row_lit_at _ _ [2, 1, 0] _ _ _ (by rfl) (by rfl) (by rfl)) (by omega)).mono ?_
  rintro e w3 ⟨rfl, rfl⟩
  have e1 : ((num (List.take 8 [2, 1, 0]) : Int) == 258) = true := by decide
  go_wp2_with fail
  refine (signed_any _ _ _ (by omega) (by omega)).mono ?_
  rintro e w2 ⟨rfl, rfl⟩
  have e2 : (sgn 255 1 == -1) = true := by decide
  go_wp2_with fail
  refine (signed_any _ _ _ (by omega) (by omega)).mono ?_
  rintro e w2 ⟨rfl, rfl⟩
  have e3 : (sgn 255 2 == 255) = true := by decide
  go_wp2
  go_ret
  exact ⟨rfl, hb2.alloc hz2 _⟩
end Go.Proofs.Ytglmkbdkhcapaaa
