/-
  Check and the reference's Check; the walk of VecNames.
-/
import Derived.Test.YtcaleaecjoafhaaLives3
import Derived.Test.YtcaleaecjoafhaaRead
namespace Go.Proofs.Ytcaleaecjoafhaa
open Go.RowKit
open Ieee (double)

/-- Check's answer. -/
def chk (n : Nat) (dim : Int) : Int := if 1 ≤ dim ∧ dim ≤ 1024 ∧ (n : Int) = dim then 0 else 2
theorem check_any (A : Option Addr) (n c : Nat) (dim : Int) (w : World) :
    Calls Try.prog 14 #[.slice A n c, .int .i64 dim] w fun e w' => e = .returned (.int .i64 (chk n dim)) ∧ w = w' := by
  by_cases h1 : dim < 1
  · have HE : Hid (chk n dim = 2) := hid (by unfold chk; rw [if_neg (by omega)])
    go_enter Try.func14, Try.ntmps14
    go_wp2
    go_ret
    exact ⟨by rw [HE.out]; rfl, rfl⟩
  by_cases h2 : 1024 < dim
  · have HE : Hid (chk n dim = 2) := hid (by unfold chk; rw [if_neg (by omega)])
    go_enter Try.func14, Try.ntmps14
    go_wp2
    go_ret
    exact ⟨by rw [HE.out]; rfl, rfl⟩
  by_cases h3 : (n : Int) = dim
  · have HE : Hid (chk n dim = 0) := hid (by unfold chk; rw [if_pos (by omega)])
    have q : ((n : Int) != dim) = false := by simpa using h3
    clear h3
    go_enter Try.func14, Try.ntmps14
    go_wp2
    go_ret
    exact ⟨by rw [HE.out]; rfl, rfl⟩
  · have HE : Hid (chk n dim = 2) := hid (by unfold chk; rw [if_neg (by omega)])
    have q : ((n : Int) != dim) = true := by simpa using h3
    clear h3
    go_enter Try.func14, Try.ntmps14
    go_wp2
    go_ret
    exact ⟨by rw [HE.out]; rfl, rfl⟩
theorem rcheck_any (A : Option Addr) (n c : Nat) (dim : Int) (w : World) :
    Calls Try.prog 23 #[.slice A n c, .int .i64 dim] w fun e w' => e = .returned (.int .i64 (chk n dim)) ∧ w = w' := by
  by_cases h1 : dim < 1
  · have HE : Hid (chk n dim = 2) := hid (by unfold chk; rw [if_neg (by omega)])
    go_enter Try.func23, Try.ntmps23
    go_wp2
    go_ret
    exact ⟨by rw [HE.out]; rfl, rfl⟩
  by_cases h2 : 1024 < dim
  · have HE : Hid (chk n dim = 2) := hid (by unfold chk; rw [if_neg (by omega)])
    go_enter Try.func23, Try.ntmps23
    go_wp2
    go_ret
    exact ⟨by rw [HE.out]; rfl, rfl⟩
  by_cases h3 : (n : Int) = dim
  · have HE : Hid (chk n dim = 0) := hid (by unfold chk; rw [if_pos (by omega)])
    have q : ((n : Int) != dim) = false := by simpa using h3
    clear h3
    go_enter Try.func23, Try.ntmps23
    go_wp2
    go_ret
    exact ⟨by rw [HE.out]; rfl, rfl⟩
  · have HE : Hid (chk n dim = 2) := hid (by unfold chk; rw [if_neg (by omega)])
    have q : ((n : Int) != dim) = true := by simpa using h3
    clear h3
    go_enter Try.func23, Try.ntmps23
    go_wp2
    go_ret
    exact ⟨by rw [HE.out]; rfl, rfl⟩

theorem fx_infinity : Fx 9218868437227405312 0 0 11 := .inr (.inl ⟨by decide, by decide, ⟨false, by decide⟩, rfl, rfl⟩)
theorem fx_nan : Fx 9221120237041090560 0 0 2 := .inl ⟨.inr (.inr (by decide)), rfl, rfl⟩
theorem fx_sixteen : Fx 4609434218613702656 16 0 2 := .inl ⟨.inr (.inl (by decide)), rfl, rfl⟩
theorem rv_none (up : Int) : rv 0 up = 0 := by
  unfold rv
  rw [Nat.zero_mul, rte_none]
theorem fx_signed : Fx 9223372036854775808 3 0 0 := fx_mk (by decide) (by decide) (show double.read 9223372036854775808 = .number true 0 (-1074) by decide) (by rw [rv_none, sg_none]; exact .inl ⟨by decide, by decide, rfl, rfl⟩)
theorem fx_low : Fx 13898108450065350656 0 (-32768) 0 := fx_mk (by decide) (by decide) (show double.read 13898108450065350656 = .number true 4503599627370496 (-37) by decide) (.inl ⟨by decide, by decide, by decide, rfl⟩)
theorem fx_high : Fx 4674736413210574848 0 0 11 := fx_mk (by decide) (by decide) (show double.read 4674736413210574848 = .number false 4503599627370496 (-37) by decide) (.inr ⟨by decide, rfl, rfl⟩)
theorem U_nought (n : Nat) : IK .u8 (List.replicate n 0) = U (List.replicate n 0) := by simp [IK, U]
theorem rdE_three : rdE (List.replicate 3 0) = 4 := by decide
theorem rdE_many : rdE (List.replicate 2050 0) = 3 := by
  unfold rdE
  rw [List.length_replicate, if_pos (by decide)]

set_option maxRecDepth 100000 in
set_option maxHeartbeats 3200000 in
theorem vecNames_walk (w : World) : Calls Try.prog 3 #[] w fun e w' => e = .returned (.bool true) ∧ Below w.heap.size w w' := by
  have hR1 : Row ((w.alloc (.cells #[.int .i32 131072] 21)).alloc (.cells #[.int .i32 1] 21)) w.heap.size (w.heap.size + 1) (some ⟨w.heap.size, 0, none⟩) 1 (IK .i32 [131072]) :=
    (rowk_lit_at .i32 w 21 [131072] _ 1 w.heap.size rfl rfl rfl).alloc (by simp) _
  have hR2 : Row ((w.alloc (.cells #[.int .i32 131072] 21)).alloc (.cells #[.int .i32 1] 21)) (w.heap.size + 1) (w.heap.size + 2) (some ⟨w.heap.size + 1, 0, none⟩) 1 (IK .i32 [1]) :=
    rowk_lit_at .i32 _ 21 [1] _ 1 (w.heap.size + 1) rfl rfl (by simp)
  have hb : Below w.heap.size w ((w.alloc (.cells #[.int .i32 131072] 21)).alloc (.cells #[.int .i32 1] 21)) := ((Below.refl _ _).alloc (Nat.le_refl _) _).alloc (by simp) _
  have HD := hid (add_any _ _ 1 1 1 1 _ _ _ _ [131072] [1] _ hR1 hR2 (by simp) (by simp) (by decide) (by decide))
  rw [show er 1 [131072] [1] = 11 by decide] at HD
  have m3 : ∀ W : World, (Instr.makeSlice 33 (.int .i64 3) (.int .i64 3)).run Try.prog W = .ok (.slice (some ⟨W.heap.size, 0, none⟩) 3 3) (W.alloc (.cells (IK .u8 (List.replicate 3 0)).toArray 5)) :=
    fun W => make_row .u8 33 5 1 3 W Try.underlying33 info8 (by omega) (by omega)
  have m2050 : ∀ W : World, (Instr.makeSlice 33 (.int .i64 2050) (.int .i64 2050)).run Try.prog W = .ok (.slice (some ⟨W.heap.size, 0, none⟩) 2050 2050) (W.alloc (.cells (IK .u8 (List.replicate 2050 0)).toArray 5)) :=
    fun W => make_row .u8 33 5 1 2050 W Try.underlying33 info8 (by omega) (by omega)
  have m2 : ∀ W : World, (Instr.makeSlice 30 (.int .i64 2) (.int .i64 2)).run Try.prog W = .ok (.slice (some ⟨W.heap.size, 0, none⟩) 2 2) (W.alloc (.cells (IK .i16 (List.replicate 2 0)).toArray 22)) :=
    fun W => make_row .i16 30 22 2 2 W Try.underlying30 info16 (by omega) (by omega)
  have E3 := hid rdE_three
  have EM := hid rdE_many
  generalize hl3 : (IK .u8 (List.replicate 3 0)).toArray = cs3 at m3
  generalize hlm : (IK .u8 (List.replicate 2050 0)).toArray = csm at m2050
  generalize hl2 : (IK .i16 (List.replicate 2 0)).toArray = cs2 at m2
  have H3 := hid hl3
  have HM := hid hlm
  clear hl3 hlm hl2
  go_enter Try.func3, Try.ntmps3
  go_wp2_with fail
  refine (fixed_lit fx_infinity _ rfl _).mono ?_
  rintro e w1 ⟨rfl, rfl⟩
  go_wp2_with fail
  refine (fixed_lit fx_nan _ rfl _).mono ?_
  rintro e w1 ⟨rfl, rfl⟩
  go_wp2_with fail
  refine (fixed_lit fx_sixteen _ rfl _).mono ?_
  rintro e w1 ⟨rfl, rfl⟩
  go_wp2_with fail
  refine (fixed_lit fx_signed _ rfl _).mono ?_
  rintro e w1 ⟨rfl, rfl⟩
  go_wp2_with fail
  refine (fixed_lit fx_low _ rfl _).mono ?_
  rintro e w1 ⟨rfl, rfl⟩
  go_wp2_with fail
  refine (fixed_lit fx_high _ rfl _).mono ?_
  rintro e w1 ⟨rfl, rfl⟩
  go_wp2_with fail
  refine HD.out.mono ?_
  rintro e w2 ⟨A2, n2, c2, rfl, _, _, _, hb2⟩
  have hb2' : Below w.heap.size w w2 := hb.trans (hb2.mono (by simp; omega))
  have s2 := hb2'.size
  clear hb2 hb hR1 hR2
  have r3 : Row (w2.alloc (.cells cs3 5)) w2.heap.size (w2.heap.size + 1) (some ⟨w2.heap.size, 0, none⟩) 3 (U (List.replicate 3 0)) := by
    rw [← U_nought]
    exact rowk_lit_at .u8 w2 5 (List.replicate 3 0) _ 3 w2.heap.size H3.out.symm (by simp) rfl
  have HR3 := hid (read_any (some ⟨w2.heap.size, 0, none⟩) 3 3 _ _ _ _ r3 (fun h => by cases h) (by simp) (by decide))
  rw [E3.out] at HR3
  have hb3 : Below w.heap.size w (w2.alloc (.cells cs3 5)) := hb2'.alloc s2 _
  clear r3
  go_wp2_with fail
  refine HR3.out.mono ?_
  rintro e w4 ⟨A4, n4, c4, rfl, _, _, _, hb4⟩
  have hb4' : Below w.heap.size w w4 := hb3.trans (hb4.mono (by simp; omega))
  have s4 := hb4'.size
  clear hb4 hb3
  have r5 : Row (w4.alloc (.cells csm 5)) w4.heap.size (w4.heap.size + 1) (some ⟨w4.heap.size, 0, none⟩) 2050 (U (List.replicate 2050 0)) := by
    rw [← U_nought]
    exact rowk_lit_at .u8 w4 5 (List.replicate 2050 0) _ 2050 w4.heap.size HM.out.symm (by simp) rfl
  have HR5 := hid (read_any (some ⟨w4.heap.size, 0, none⟩) 2050 2050 _ _ _ _ r5 (fun h => by cases h) (by simp) (by decide))
  rw [EM.out] at HR5
  have hb5 : Below w.heap.size w (w4.alloc (.cells csm 5)) := hb4'.alloc s4 _
  clear r5
  go_wp2_with fail
  refine HR5.out.mono ?_
  rintro e w6 ⟨A6, n6, c6, rfl, _, _, _, hb6⟩
  have hb6' : Below w.heap.size w w6 := hb5.trans (hb6.mono (by simp; omega))
  have s6 := hb6'.size
  clear hb6 hb5
  go_wp2_with fail
  refine (lives_any w6).mono ?_
  rintro e w7 ⟨rfl, hb7⟩
  have hb7' : Below w.heap.size w w7 := hb6'.trans (hb7.mono s6)
  have s7 := hb7'.size
  clear hb7
  go_wp2_with fail
  refine (check_any _ 2 2 3 _).mono ?_
  rintro e w8 ⟨rfl, rfl⟩
  rw [show chk 2 3 = 2 by decide]
  go_wp2_with fail
  refine (checkWide_any none 0 0 0 0 [] _ Row.empty (by decide)).mono ?_
  rintro e w8 ⟨rfl, rfl⟩
  rw [show cw [] = 2 by decide]
  go_wp2_with fail
  refine (checkWide_any _ 1 1 _ _ [131073] _ (rowk_lit_at .i32 _ 21 [131073] _ 1 _ rfl rfl (by simp)) (by decide)).mono ?_
  rintro e w8 ⟨rfl, rfl⟩
  rw [show cw [131073] = 11 by decide]
  go_wp2
  go_ret
  exact ⟨rfl, (hb7'.alloc s7 _).alloc (by simp; omega) _⟩
end Go.Proofs.Ytcaleaecjoafhaa
