/-
  The walk of DrawNames: the chapter's example, and the errors.
-/
import Derived.Test.YtjnbdlbgfgdopaaDrawKit
namespace Go.Proofs.Ytjnbdlbgfgdopaa
set_option maxRecDepth 40000
set_option linter.unusedVariables false
open Go.RowKit

theorem nil_row (w : World) : Row w 0 w.heap.size none 0 (IK .u64 []) := Row.empty
set_option maxHeartbeats 1600000 in
theorem names_walk (w : World) : Calls Try.prog 3 #[] w fun e w' => e = .returned (.bool true) ∧ Below w.heap.size w w' := by
  have e1 : pkI [] 2 5 = ([0, 1, 0, 1, 0], 0) := by decide
  have e2 : pkI [] 0 0 = ([], 2) := by decide
  have e3 : pkI [] 1 (-1) = ([], 2) := by decide
  have e4 : pkI [] 1 4097 = ([], 2) := by decide
  have e6 : pkI [1] 3 3 = ([1, 2, 0], 0) := by decide
  have nowf : ∀ x ∈ ([] : List Int), 0 ≤ x ∧ x ≤ 18446744073709551615 := fun x hx => by cases hx
  have c1 := fun W => picks_any none 0 0 0 W.heap.size [] 2 5 W (nil_row W) (Nat.le_refl _) (by omega) nowf
  have c2 := fun W => picks_any none 0 0 0 W.heap.size [] 0 0 W (nil_row W) (Nat.le_refl _) (by omega) nowf
  have c3 := fun W => picks_any none 0 0 0 W.heap.size [] 1 (-1) W (nil_row W) (Nat.le_refl _) (by omega) nowf
  have c4 := fun W => picks_any none 0 0 0 W.heap.size [] 1 4097 W (nil_row W) (Nat.le_refl _) (by omega) nowf
  have c5 := fun W => order_any none 0 0 0 W.heap.size [] 0 W (nil_row W) (Nat.le_refl _) (by omega) nowf
  have c6 := fun W : World => order_any (some ⟨W.heap.size, 0, none⟩) 1 1 W.heap.size (W.heap.size + 1) [1] 3 _ (row_lit11 .u64 W 27 [1] #[.int .u64 1] 1 _ rfl rfl rfl) (by simp) (by omega) (by intro x hx; simp at hx; subst hx; decide)
  rw [e1] at c1; rw [e2] at c2; rw [e3] at c3; rw [e4] at c4; rw [e2] at c5; rw [e6] at c6
  have C1 := hid c1; have C2 := hid c2; have C3 := hid c3; have C4 := hid c4; have C5 := hid c5; have C6 := hid c6
  clear e1 e2 e3 e4 e6 c1 c2 c3 c4 c5 c6 nowf
  go_enter Try.func3, Try.ntmps3
  go_wp2_with fail
  refine (C1.out _).mono ?_
  rintro e w1 ⟨A1, n1, k1, er1, rfl, l1, r1, _, _, R1, b1⟩
  obtain rfl : er1 = 0 := r1.out.symm
  obtain rfl : n1 = 5 := l1.out.symm
  have HR1 := hid R1
  have HB1 := hid b1
  clear R1 b1 l1 r1
  go_wp2_with fail
  refine (C2.out _).mono ?_
  rintro e w2 ⟨A2, n2, k2, er2, rfl, _, r2, _, _, _, b2⟩
  obtain rfl : er2 = 2 := r2.out.symm
  have HR2 := hid (HR1.out.below b2 (Nat.le_refl _))
  have HB2 := hid (HB1.out.trans (b2.mono HB1.out.size))
  have s12 := b2.size
  clear b2 r2
  go_wp2_with fail
  refine (C3.out _).mono ?_
  rintro e w3 ⟨A3, n3, k3, er3, rfl, _, r3, _, _, _, b3⟩
  obtain rfl : er3 = 2 := r3.out.symm
  have HR3 := hid (HR2.out.below b3 s12)
  have HB3 := hid (HB2.out.trans (b3.mono HB2.out.size))
  have s13 := Nat.le_trans s12 b3.size
  clear b3 r3
  go_wp2_with fail
  refine (C4.out _).mono ?_
  rintro e w4 ⟨A4, n4, k4, er4, rfl, _, r4, _, _, _, b4⟩
  obtain rfl : er4 = 2 := r4.out.symm
  have HR4 := hid (HR3.out.below b4 s13)
  have HB4 := hid (HB3.out.trans (b4.mono HB3.out.size))
  have s14 := Nat.le_trans s13 b4.size
  clear b4 r4
  go_wp2_with fail
  refine (C5.out _).mono ?_
  rintro e w5 ⟨A5, n5, k5, er5, rfl, _, r5, _, _, _, b5⟩
  obtain rfl : er5 = 2 := r5.out.symm
  have HR5 := hid (HR4.out.below b5 s14)
  have HB5 := hid (HB4.out.trans (b5.mono HB4.out.size))
  have s15 := Nat.le_trans s14 b5.size
  clear b5 r5
  go_wp2_with fail
  refine (C6.out _).mono ?_
  rintro e w6 ⟨A6, n6, k6, er6, rfl, l6, r6, _, _, R6, b6⟩
  obtain rfl : er6 = 0 := r6.out.symm
  obtain rfl : n6 = 3 := l6.out.symm
  have b6' : Below w5.heap.size w5 w6 := ((Below.refl _ _).alloc (Nat.le_refl _) _).trans (b6.mono (by simp))
  have HR6 := hid (HR5.out.below b6' s15)
  have HQ6 := hid R6
  have HB6 := hid (HB5.out.trans (b6'.mono HB5.out.size))
  have s16 := Nat.le_trans s15 b6'.size
  clear b6 b6' r6 l6 R6
  go_wp2_with fail
  refine (lives_any w6).mono ?_
  rintro e w7 ⟨rfl, b7⟩
  have HR7 := hid (HR6.out.below b7 s16)
  have HQ7 := hid (HQ6.out.below b7 (Nat.le_refl _))
  have HB7 := hid (HB6.out.trans (b7.mono HB6.out.size))
  have s17 := Nat.le_trans s16 b7.size
  have s67 := b7.size
  clear b7
  go_wp2_with fail
  refine (sameI A1 (some ⟨w7.heap.size, 0, none⟩) 5 5 k1 5 _ _ _ _ [0, 1, 0, 1, 0] [0, 1, 0, 1, 0] _ (HR7.out.alloc s17 _) (row_lit11 .i64 w7 3 [0, 1, 0, 1, 0] _ 5 _ rfl rfl rfl) (by omega)).mono ?_
  rintro e w8 ⟨rfl, q, hw8⟩
  have HW8 := hid hw8
  have b8 : Below w7.heap.size w7 w8 := by rw [hw8]; exact below_drewN ((Below.refl _ _).alloc (Nat.le_refl _) _) q
  have HQ8 := hid (HQ7.out.below b8 s67)
  have HB8 := hid (HB7.out.trans (b8.mono HB7.out.size))
  have s68 := Nat.le_trans s67 b8.size
  clear b8 hw8
  go_wp2_with fail
  refine (sameI A6 (some ⟨w8.heap.size, 0, none⟩) 3 3 k6 3 _ _ _ _ [1, 2, 0] [1, 2, 0] _ (HQ8.out.alloc s68 _) (row_lit11 .i64 w8 3 [1, 2, 0] _ 3 _ rfl rfl rfl) (by omega)).mono ?_
  rintro e w9 ⟨rfl, q9, hw9⟩
  have b9 : Below w8.heap.size w8 w9 := by rw [hw9]; exact below_drewN ((Below.refl _ _).alloc (Nat.le_refl _) _) q9
  have HB9 := hid (HB8.out.trans (b9.mono HB8.out.size))
  clear b9 hw9
  go_wp2_with fail
  refine (draw_any none 0 0 0 w9.heap.size [] 3 w9 (nil_row w9) (by omega) (by omega)).mono ?_
  rintro e w10 ⟨rfl, rfl⟩
  rw [show drI [] 3 = 0 by decide]
  go_wp2_with fail
  refine (draw_any _ 2 2 _ _ [4, 5] 3 _ (row_lit11 .u64 _ 27 [4, 5] _ 2 _ rfl rfl rfl) (by omega) (by omega)).mono ?_
  rintro e w11 ⟨rfl, hw11⟩
  rw [show drI [4, 5] 3 = 5 by decide]
  have HB11 : Hid (Below w.heap.size w w11) := by rw [hw11]; exact HB9.out.alloc HB9.out.size _
  clear hw11
  go_wp2_with fail
  refine (draw_any _ 1 1 _ _ [4] (-1) _ (row_lit11 .u64 _ 27 [4] _ 1 _ rfl rfl rfl) (by omega) (by omega)).mono ?_
  rintro e w12 ⟨rfl, hw12⟩
  rw [show drI [4] (-1) = 0 by decide]
  have HB12 : Hid (Below w.heap.size w w12) := by rw [hw12]; exact HB11.out.alloc HB11.out.size _
  clear hw12
  go_wp2_with fail
  refine (distinct_any none 0 0 0 w12.heap.size [] w12 Row.empty (by omega)).mono ?_
  rintro e w13 ⟨rfl, b13⟩
  rw [show decide ([] : List Int).Nodup = true by decide]
  have HB13 := hid (HB12.out.trans (b13.mono HB12.out.size))
  clear b13
  go_wp2_with fail
  refine (distinct_any _ 3 3 _ _ [1, 2, 1] _ (row_lit11 .i64 _ 3 [1, 2, 1] _ 3 _ rfl rfl rfl) (by omega)).mono ?_
  rintro e w14 ⟨rfl, b14⟩
  rw [show decide ([1, 2, 1] : List Int).Nodup = false by decide]
  have HB14 := hid ((HB13.out.alloc HB13.out.size _).trans (b14.mono (by have := HB13.out.size; simp; omega)))
  clear b14
  go_wp2
  go_ret
  exact ⟨rfl, HB14.out⟩
end Go.Proofs.Ytjnbdlbgfgdopaa
