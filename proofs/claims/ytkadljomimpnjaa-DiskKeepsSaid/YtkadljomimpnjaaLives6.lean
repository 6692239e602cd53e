/-
  Chapter 6's example, asked ahead of each law.
-/
import Derived.Test.YtkadljomimpnjaaLive6
namespace Go.Proofs.Ytkadljomimpnjaa
open Go.RowKit Go.Maps Dsk
theorem S_one (c : UInt8) : Value.string ⟨#[c]⟩ = S [c] := rfl
theorem fit_new {size : Int} (h : 0 ≤ size) (h2 : size ≤ 1099511627776) : Fit ⟨size, [], -1, false⟩ 0 :=
  ⟨⟨trivial, (fun x hx => by cases hx), (fun x hx => by cases hx), h, h2, by show (-1 : Int) ≤ -1; omega⟩, Nat.le_refl _, by show (-1 : Int) ≤ _; omega⟩
theorem live_new {w W : World} {size : Int} {d : Nat} {F : List Nat} (hb : Below w.heap.size w W) (h1 : 0 ≤ size) (h2 : size ≤ 1099511627776) (hd : DAt W d F ⟨size, [], -1, false⟩) (hF : ∀ b ∈ F, w.heap.size ≤ b) : Live w W d F ⟨size, [], -1, false⟩ 0 :=
  ⟨hd, fit_new h1 h2, hF, hb⟩
set_option maxHeartbeats 2000000 in
set_option maxRecDepth 20000 in
theorem lives_any (w : World) : Calls Try.prog 8 #[] w fun e w' => e = .returned (.bool true) ∧ Below w.heap.size w w' := by
  have N1 := hid (new_m w 100)
  have hne : ∀ (W : World) (d : Nat), (binOp .eql 23 (ptr d) (.pointer none)).run Try.prog W = .ok (.bool false) W := fun W d => by kernel_rfl
  have h1 : dAppend ⟨100, [], -1, false⟩ [97] [1, 2, 3] = (0, ⟨100, [([97], ⟨[1, 2, 3], 0⟩)], -1, false⟩) := by rfl
  have h2 : dSync ⟨100, [([97], ⟨[1, 2, 3], 0⟩)], -1, false⟩ [97] = (0, ⟨100, [([97], ⟨[1, 2, 3], 3⟩)], -1, false⟩) := by rfl
  have h3 : dAppend ⟨100, [([97], ⟨[1, 2, 3], 3⟩)], -1, false⟩ [97] [4, 5] = (0, ⟨100, [([97], ⟨[1, 2, 3, 4, 5], 3⟩)], -1, false⟩) := by rfl
  have h4 : dCrash ⟨100, [([97], ⟨[1, 2, 3, 4, 5], 3⟩)], -1, false⟩ [1] = (0, ⟨100, [([97], ⟨[1, 2, 3, 4], 4⟩)], -1, false⟩) := by rfl
  have h5 : ready ⟨100, [([97], ⟨[1, 2, 3, 4], 4⟩)], -1, false⟩ [97] = 0 := by rfl
  have h6 : dRead ⟨100, [([97], ⟨[1, 2, 3, 4], 4⟩)], -1, false⟩ [97] = [1, 2, 3, 4] := by rfl
  have A1 := hid h1
  have A2 := hid h2
  have A3 := hid h3
  have A4 := hid h4
  have A5 := hid h5
  have A6 := hid h6
  clear h1 h2 h3 h4 h5 h6
  go_enter Try.func8, Try.ntmps8
  go_wp2_with fail
  refine N1.out.mono ?_
  rintro e w1 ⟨hb1, h | ⟨_, _, d, F, rfl, hd, hF⟩⟩
  · omega
  have L := live_new hb1 (by omega) (by omega) hd hF
  clear hb1 hd hF N1
  go_wp2_with fail
  rw [S_one]
  have L1 := L.then (W' := w1.alloc (.cells #[.int .u8 1, .int .u8 2, .int .u8 3] 5)) ((Below.refl _ _).alloc (Nat.le_refl _) _)
  refine (L1.append (by omega) [97] (by decide) _ _ 3 3 [1, 2, 3] (arg_lit 5 (U [1, 2, 3]) _ 3 rfl rfl (by omega) L.lt)).mono ?_
  rw [A1.out]
  rintro e w2 ⟨rfl, F2, L2, _⟩
  clear L L1
  go_wp2_with fail
  rw [S_one]
  refine (L2.sync [97] (by decide)).mono ?_
  rw [A2.out]
  rintro e w3 ⟨rfl, F3, L3, _⟩
  clear L2
  go_wp2_with fail
  rw [S_one]
  have L4 := L3.then (W' := w3.alloc (.cells #[.int .u8 4, .int .u8 5] 5)) ((Below.refl _ _).alloc (Nat.le_refl _) _)
  refine (L4.append (by omega) [97] (by decide) _ _ 2 2 [4, 5] (arg_lit 5 (U [4, 5]) _ 2 rfl rfl (by omega) L3.lt)).mono ?_
  rw [A3.out]
  rintro e w4 ⟨rfl, F4, L5, _⟩
  clear L3 L4
  go_wp2_with fail
  have L6 := L5.then (W' := w4.alloc (.cells #[.int .i64 1] 3)) ((Below.refl _ _).alloc (Nat.le_refl _) _)
  refine (L6.crash (by omega) _ _ 1 1 [1] (arg_lit 3 (I [1]) _ 1 rfl rfl (by omega) L5.lt) (by decide)).mono ?_
  rw [A4.out]
  rintro e w5 ⟨rfl, F5, L7, _⟩
  clear L5 L6
  go_wp2_with fail
  rw [S_one]
  refine (at_read L7.at_ L7.fit [97] (by decide)).mono ?_
  rw [A5.out, A6.out]
  rintro e w6 ⟨v, rfl, A, len, cap, rfl, hR, _, _, hcm, hb6⟩
  have L8 := L7.then hb6
  clear L7 hb6
  go_wp2_with fail
  refine (same_yes A _ len 4 cap 4 w5.heap.size w6.heap.size w6.heap.size (w6.heap.size + 1) [1, 2, 3, 4] [1, 2, 3, 4] _ (hR.alloc (Nat.le_refl _) _) (row_lit w6 5 [1, 2, 3, 4]) (by unfold maxLen at hcm; omega) rfl).mono ?_
  rintro e w7 ⟨rfl, kk, rfl⟩
  go_wp2
  go_ret
  exact ⟨rfl, below_drewN (L8.below.alloc L8.below.size _) kk⟩
end Go.Proofs.Ytkadljomimpnjaa
