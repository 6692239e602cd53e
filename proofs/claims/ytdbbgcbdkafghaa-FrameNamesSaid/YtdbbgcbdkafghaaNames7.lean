/-
  The walk of FrameNames.
-/
import Derived.Test.YtdbbgcbdkafghaaScan
import Derived.Test.YtdbbgcbdkafghaaLives7
namespace Go.Proofs.Ytdbbgcbdkafghaa
open Go.RowKit Go.Joins Regs

theorem one7 : one (List.replicate 7 0) = (5, [], 0) := by decide +kernel
theorem oneL : one [1, 0, 0, 2, 0, 0, 0, 0] = (3, [], 0) := by decide +kernel
theorem oneM : one [9, 0, 0, 0, 0, 0, 0, 0, 1] = (5, [], 0) := by decide +kernel
theorem one8 : one (List.replicate 8 0) = (4, [], 0) := by decide +kernel
theorem OnePost.bad {w w' : World} {e : Ending} {z : Int} (h : OnePost w (z, [], 0) e w') :
    ∃ A c, e = .returned (.tuple #[.slice A 0 c, .int .i64 0, .int .i64 z]) ∧ Below w.heap.size w w' := by
  obtain ⟨A, m, c, rfl, hl, hA, hown, hb⟩ := h
  have hm : 0 = m := hl.out
  subst hm
  exact ⟨A, c, rfl, hb⟩
set_option maxHeartbeats 8000000 in
set_option maxRecDepth 100000 in
theorem names7_walk (w : World) : Calls Try.prog 3 #[] w fun e w' => e = .returned (.bool true) ∧ Below w.heap.size w w' := by
  obtain ⟨X7, hX7⟩ : ∃ C, C = (U (List.replicate 7 0)).toArray := ⟨_, rfl⟩
  obtain ⟨X8, hX8⟩ : ∃ C, C = (U (List.replicate 8 0)).toArray := ⟨_, rfl⟩
  have MK7 : ∀ W : World, (Instr.makeSlice 22 (.int .i64 7) (.int .i64 7)).run Try.prog W = .ok (.slice (some ⟨W.heap.size, 0, none⟩) 7 7) (W.alloc (.cells X7 5)) := fun W => by rw [hX7]; exact make_bytes 7 W (by omega)
  have MK8 : ∀ W : World, (Instr.makeSlice 22 (.int .i64 8) (.int .i64 8)).run Try.prog W = .ok (.slice (some ⟨W.heap.size, 0, none⟩) 8 8) (W.alloc (.cells X8 5)) := fun W => by rw [hX8]; exact make_bytes 8 W (by omega)
  have O7 : Hid (∀ W : World, Calls Try.prog 9 #[.slice (some ⟨W.heap.size, 0, none⟩) 7 7] (W.alloc (.cells X7 5)) (OnePost (W.alloc (.cells X7 5)) (5, [], 0))) := hid fun W => by
    rw [hX7, ← one7]
    exact one_any _ 7 7 W.heap.size (W.heap.size + 1) (List.replicate 7 0) _ (row_lit_at W _ _ _ 7 _ rfl rfl rfl) (fun e => by cases e) (by simp) (by omega) (by unfold maxLen; omega)
  have O8 : Hid (∀ W : World, Calls Try.prog 9 #[.slice (some ⟨W.heap.size, 0, none⟩) 8 8] (W.alloc (.cells X8 5)) (OnePost (W.alloc (.cells X8 5)) (4, [], 0))) := hid fun W => by
    rw [hX8, ← one8]
    exact one_any _ 8 8 W.heap.size (W.heap.size + 1) (List.replicate 8 0) _ (row_lit_at W _ _ _ 8 _ rfl rfl rfl) (fun e => by cases e) (by simp) (by omega) (by unfold maxLen; omega)
  have A8 : Hid (∀ W : World, Calls Try.prog 10 #[.slice (some ⟨W.heap.size, 0, none⟩) 8 8] (W.alloc (.cells X8 5)) (AllPost (W.alloc (.cells X8 5)) (List.replicate 8 0))) := hid fun W => by
    rw [hX8]
    exact all_any _ 8 8 W.heap.size (W.heap.size + 1) (List.replicate 8 0) _ (row_lit_at W _ _ _ 8 _ rfl rfl rfl) (fun e => by cases e) (by simp) (by unfold maxLen; omega) (by omega)
  have OL : Hid (∀ W : World, Calls Try.prog 9 #[.slice (some ⟨W.heap.size, 0, none⟩) 8 8] (W.alloc (.cells #[.int .u8 1, .int .u8 0, .int .u8 0, .int .u8 2, .int .u8 0, .int .u8 0, .int .u8 0, .int .u8 0] 5)) (OnePost (W.alloc (.cells #[.int .u8 1, .int .u8 0, .int .u8 0, .int .u8 2, .int .u8 0, .int .u8 0, .int .u8 0, .int .u8 0] 5)) (3, [], 0))) := hid fun W => by
    rw [← oneL]
    exact one_any _ 8 8 W.heap.size (W.heap.size + 1) [1, 0, 0, 2, 0, 0, 0, 0] _ (row_lit_at W _ _ _ 8 _ rfl rfl rfl) (fun e => by cases e) (by simp) (by omega) (by unfold maxLen; omega)
  have OM : Hid (∀ W : World, Calls Try.prog 9 #[.slice (some ⟨W.heap.size, 0, none⟩) 9 9] (W.alloc (.cells #[.int .u8 9, .int .u8 0, .int .u8 0, .int .u8 0, .int .u8 0, .int .u8 0, .int .u8 0, .int .u8 0, .int .u8 1] 5)) (OnePost (W.alloc (.cells #[.int .u8 9, .int .u8 0, .int .u8 0, .int .u8 0, .int .u8 0, .int .u8 0, .int .u8 0, .int .u8 0, .int .u8 1] 5)) (5, [], 0))) := hid fun W => by
    rw [← oneM]
    exact one_any _ 9 9 W.heap.size (W.heap.size + 1) [9, 0, 0, 0, 0, 0, 0, 0, 1] _ (row_lit_at W _ _ _ 9 _ rfl rfl rfl) (fun e => by cases e) (by simp) (by omega) (by unfold maxLen; omega)
  have SN : Hid (∀ W : World, Calls Try.prog 11 #[.slice none 0 0] W (ScanPost W [])) := hid fun W => scan_any none 0 0 0 0 [] W Row.empty (fun _ => rfl) (Nat.zero_le _) ⟨Nat.le_refl _, Nat.zero_le _⟩ (by omega)
  have Z0 : Hid (∀ W : World, Calls Try.prog 13 #[.int .i64 0] W fun e w' => e = .returned (.int .i64 8) ∧ w' = W) := hid fun W => size_any 0 W
  have Z1 : Hid (∀ W : World, Calls Try.prog 13 #[.int .i64 (-1)] W fun e w' => e = .returned (.int .i64 0) ∧ w' = W) := hid fun W => size_any (-1) W
  have Z2 : Hid (∀ W : World, Calls Try.prog 13 #[.int .i64 33554433] W fun e w' => e = .returned (.int .i64 0) ∧ w' = W) := hid fun W => size_any 33554433 W
  have Z3 : Hid (∀ W : World, Calls Try.prog 13 #[.int .i64 33554432] W fun e w' => e = .returned (.int .i64 33554440) ∧ w' = W) := hid fun W => size_any 33554432 W
  have LV : Hid (∀ W : World, Calls Try.prog 12 #[] W fun e w' => e = .returned (.bool true) ∧ Below W.heap.size W w') := hid fun W => lives7_any W
  clear hX7 hX8
  go_enter Try.func3, Try.ntmps3
  go_wp2_with fail
  refine (O7.out w).mono ?_
  intro e w1 P1
  obtain ⟨A1, c1, rfl, hb1⟩ := P1.bad
  have HB1 := hid (((Below.refl _ w).alloc (Nat.le_refl _) _).trans (hb1.mono (by simp)))
  have hz1 : w.heap.size ≤ w1.heap.size := HB1.out.size
  clear P1 hb1
  go_wp2_with fail
  refine (OL.out w1).mono ?_
  intro e w2 P2
  obtain ⟨A2, c2, rfl, hb2⟩ := P2.bad
  have HB2 := hid (HB1.out.trans (((Below.refl _ w1).alloc (Nat.le_refl _) (.cells #[.int .u8 1, .int .u8 0, .int .u8 0, .int .u8 2, .int .u8 0, .int .u8 0, .int .u8 0, .int .u8 0] 5)).trans (hb2.mono (by simp)) |>.mono hz1))
  have hz2 : w.heap.size ≤ w2.heap.size := HB2.out.size
  clear P2 hb2
  go_wp2_with fail
  refine (OM.out w2).mono ?_
  intro e w3 P3
  obtain ⟨A3, c3, rfl, hb3⟩ := P3.bad
  have HB3 := hid (HB2.out.trans (((Below.refl _ w2).alloc (Nat.le_refl _) (.cells #[.int .u8 9, .int .u8 0, .int .u8 0, .int .u8 0, .int .u8 0, .int .u8 0, .int .u8 0, .int .u8 0, .int .u8 1] 5)).trans (hb3.mono (by simp)) |>.mono hz2))
  have hz3 : w.heap.size ≤ w3.heap.size := HB3.out.size
  clear P3 hb3
  go_wp2_with fail
  refine (O8.out w3).mono ?_
  intro e w4 P4
  obtain ⟨A4, c4, rfl, hb4⟩ := P4.bad
  have HB4 := hid (HB3.out.trans (((Below.refl _ w3).alloc (Nat.le_refl _) (.cells X8 5)).trans (hb4.mono (by simp)) |>.mono hz3))
  have hz4 : w.heap.size ≤ w4.heap.size := HB4.out.size
  clear P4 hb4
  go_wp2_with fail
  refine (A8.out w4).mono ?_
  rintro e w5 ⟨ps, r, A5, n5, c5, vs5, z5, hS, rfl, _, _, _, hb5, hx⟩
  have hr : r ≠ [] ∧ z5 = 4 := by
    rcases hx with ⟨h1, _, _⟩ | ⟨h1, h2, _⟩
    · exfalso
      have hsb := hS.out.bytes
      rw [h1.out, List.append_nil] at hsb
      cases ps with
      | nil => simp [flat] at hsb
      | cons p ps =>
        have h3 := one_frm (hS.out.short p List.mem_cons_self) (flat ps)
        rw [← flat_cons, ← hsb, one8] at h3
        simp at h3
    · exact ⟨h1.out, h2⟩
  obtain ⟨_, rfl⟩ := hr
  have HB5 := hid (HB4.out.trans (((Below.refl _ w4).alloc (Nat.le_refl _) (.cells X8 5)).trans (hb5.mono (by simp)) |>.mono hz4))
  clear hx hS hb5
  go_wp2_with fail
  refine (SN.out w5).mono ?_
  rintro e w6 ⟨ps6, r6, A6, n6, c6, vs6, rfl, hS6, hB6, _, _, _, hb6⟩
  have h6 : ps6 = [] := (scans_unique hS6.out scans_nil).1
  subst h6
  have hn6 : n6 = 0 := hB6.out.len.symm
  subst hn6
  have HB6 := hid (HB5.out.trans (hb6.mono HB5.out.size))
  clear hS6 hB6 hb6
  rw [show ((flat []).length : Int) = 0 from rfl]
  go_wp2_with fail
  refine (LV.out w6).mono ?_
  rintro e w7 ⟨rfl, hb7⟩
  have HB7 := hid (HB6.out.trans (hb7.mono HB6.out.size))
  clear hb7
  go_wp2_with fail
  refine (Z0.out w7).mono ?_
  rintro e w8 ⟨rfl, rfl⟩
  go_wp2_with fail
  refine (Z1.out w8).mono ?_
  rintro e w9 ⟨rfl, rfl⟩
  go_wp2_with fail
  refine (Z2.out w9).mono ?_
  rintro e w10 ⟨rfl, rfl⟩
  go_wp2_with fail
  refine (Z3.out w10).mono ?_
  rintro e w11 ⟨rfl, rfl⟩
  go_wp2
  go_ret
  exact ⟨rfl, HB7.out⟩
end Go.Proofs.Ytdbbgcbdkafghaa
