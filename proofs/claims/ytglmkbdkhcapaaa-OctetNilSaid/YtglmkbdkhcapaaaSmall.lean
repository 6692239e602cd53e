/-
  The walks of the laws OctetNil and OctetNames: each answers true at all inputs, and changes nothing that was there.
-/
import Derived.Test.YtglmkbdkhcapaaaLives
import Derived.Test.YtglmkbdkhcapaaaReader
namespace Go.Proofs.Ytglmkbdkhcapaaa
open Go.RowKit

set_option maxHeartbeats 800000 in
theorem octetNil_walk (n : Int) (w : World) :
    Calls Try.prog 6 #[.int .i64 n] w fun e w' => e = .returned (.bool true) ∧ Below w.heap.size w w' := by
  go_enter Try.func6, Try.ntmps6
  go_wp2_with fail
  refine (lives_any w).mono ?_
  rintro e w1 ⟨rfl, hb1⟩
  have hz1 := hb1.size
  go_wp2_with fail
  refine (number_nil _ _).mono ?_
  rintro e w2 ⟨rfl, rfl⟩
  go_wp2_with fail
  refine (rsigned_nil _ _).mono ?_
  rintro e w2 ⟨rfl, rfl⟩
  rw [sgn_zero]
  go_wp2_with fail
  refine (bytes_nil _ _).mono ?_
  rintro e w2 ⟨A, m, c, rfl, hl, hA, hown, hb2⟩
  obtain rfl : m = 0 := by have := hl.out; simp at this; omega
  have hb : Below w.heap.size w w2 := hb1.trans (hb2.mono hz1)
  clear hown hb2
  go_wp2_with fail
  refine (left_nil _).mono ?_
  rintro e w3 ⟨rfl, rfl⟩
  go_wp2_with fail
  refine (err_nil _).mono ?_
  rintro e w3 ⟨rfl, rfl⟩
  go_wp2_with fail
  refine (end_nil _).mono ?_
  rintro e w3 ⟨rfl, rfl⟩
  go_wp2
  go_ret
  exact ⟨rfl, hb⟩

set_option maxHeartbeats 1600000 in
theorem octetNames_walk (w : World) :
    Calls Try.prog 3 #[] w fun e w' => e = .returned (.bool true) ∧ Below w.heap.size w w' := by
  go_enter Try.func3, Try.ntmps3
  go_wp2_with fail
  refine (new_any _ _ _ _ _ [1, 2, 3] _ (row_lit_at _ _ [1, 2, 3] _ _ _ (by rfl) (by rfl) (by rfl)) (by intro h; cases h) (by simp) (by omega)).mono ?_
  rintro e w1 ⟨g, rfl, hg, hgl, hrd, hb⟩
  have hb1 : Below w.heap.size w w1 := ((Below.refl _ _).alloc (Nat.le_refl _) _).trans (hb.mono (by simp))
  have hg' : w.heap.size ≤ g := by simp at hg; omega
  have hz1 := hb1.size
  clear hb hg
  go_wp2_with fail
  refine (number_at _ _ _ _ _ _ [1] [2, 3] 0 1 (by decide) (by decide) hrd).mono ?_
  rintro e w2 ⟨rfl, hrd2, hgr2, _⟩
  have hb2 : Below w.heap.size w w2 := hb1.grown hgr2 hz1 (by intro k hk; injection hk with hk; omega)
  clear hgr2 hrd hb1
  go_wp2_with fail
  refine (number_at _ _ _ _ _ _ [] [2, 3] 5 0 (by decide) (by decide) hrd2).mono ?_
  rintro e w3 ⟨rfl, hrd3, hgr3, _⟩
  have hz2 := hb2.size
  have hb3 : Below w.heap.size w w3 := hb2.grown hgr3 hz2 (by intro k hk; injection hk with hk; omega)
  clear hgr3 hrd2 hb2
  go_wp2_with fail
  refine (bytes_at _ _ _ _ _ _ [] [2, 3] 5 (by unfold tk; rw [if_pos (by decide)]) hrd3).mono ?_
  rintro e w4 ⟨A, m, c, rfl, hl, hA, hown, hm, hrd4, hgr4⟩
  obtain rfl : m = 0 := by rw [← hl.out]; decide
  have hz3 := hb3.size
  have hb4 : Below w.heap.size w w4 := hb3.grown hgr4 hz3 (by intro k hk; injection hk with hk; omega)
  clear hown hgr4 hb3 hrd3
  have hz4 := hb4.size
  have hg4 := hrd4.lt
  go_wp2_with fail
  refine (lives_any _).mono ?_
  rintro e w5 ⟨rfl, hb5⟩
  have hrd5 := hrd4.below hb5 hg4
  have hb5' : Below w.heap.size w w5 := hb4.trans (hb5.mono hz4)
  clear hb5 hrd4 hb4
  have hz5 := hb5'.size
  go_wp2_with fail
  refine (err_rd _ _ _ _ _ hrd5).mono ?_
  rintro e w6 ⟨rfl, rfl⟩
  go_wp2_with fail
  refine (left_rd _ _ _ _ _ hrd5).mono ?_
  rintro e w6 ⟨rfl, rfl⟩
  go_wp2_with fail
  refine (end_rd _ _ _ _ _ 5 (by decide) hrd5).mono ?_
  rintro e w6 ⟨rfl, rfl⟩
  go_wp2_with fail
  refine (of_any none 0 0 0 0 [] _ Row.empty (by omega)).mono ?_
  rintro e w6 ⟨rfl, rfl⟩
  go_wp2_with fail
  refine (signed_any _ _ _ (by omega) (by omega)).mono ?_
  rintro e w6 ⟨rfl, rfl⟩
  have es : (sgn 9223372036854775808 9 == -9223372036854775808) = true := by decide
  go_wp2_with fail
  refine (put_any none 0 0 0 0 [] _ _ _ Row.empty (fun _ => rfl) (Nat.zero_le _) (by omega) (by omega)).mono ?_
  rintro e w6 ⟨A6, n6, c6, rfl, hl6, hA6, hown6, hb6⟩
  obtain rfl : n6 = 0 := by rw [← hl6.out]; decide
  have hb : Below w.heap.size w w6 := hb5'.trans (hb6.mono hz5)
  clear hown6 hb6
  go_wp2
  go_ret
  exact ⟨rfl, hb⟩
end Go.Proofs.Ytglmkbdkhcapaaa
