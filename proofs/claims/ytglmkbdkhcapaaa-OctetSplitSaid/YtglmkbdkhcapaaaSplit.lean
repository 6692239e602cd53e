/-
  The walk of the law OctetSplit: for all bytes and sizes it answers true, and changes nothing that was there.
-/
import Derived.Test.YtglmkbdkhcapaaaLives
import Derived.Test.YtglmkbdkhcapaaaReader
namespace Go.Proofs.Ytglmkbdkhcapaaa
open Go.RowKit

theorem tk_ok {l : List UInt8} {n : Nat} (hn : n ≤ l.length) (h8 : n ≤ 8) : tk l 0 n 8 = (l.take n, l.drop n, 0) := by
  have hw : why n 8 l.length = 0 := by unfold why; rw [if_neg (by omega), if_neg (by omega)]
  unfold tk
  rw [if_neg (by simp), if_pos hw, Int.toNat_natCast]
theorem tk_more {l : List UInt8} {n : Nat} (hn : l.length < n) (h8 : n ≤ 8) : tk l 0 n 8 = ([], l, 5) := by
  have hw : why n 8 l.length = 5 := by unfold why; rw [if_neg (by omega), if_pos (by omega)]
  unfold tk
  rw [if_neg (by simp), if_neg (by omega), hw]
theorem tk_err {l : List UInt8} {er n most : Int} (h : er ≠ 0) : tk l er n most = ([], l, er) := by
  unfold tk
  rw [if_pos h]

set_option maxHeartbeats 1600000 in
theorem octetSplit_walk (a : Option Addr) (len cap : Nat) (l : List UInt8) (n m : Int) (w : World) (hR : Row w 0 w.heap.size a len (U l)) (hA : a = none → cap = 0) (hm : len ≤ 9223372036854775807) :
    Calls Try.prog 9 #[.slice a len cap, .int .i64 n, .int .i64 m] w fun e w' => e = .returned (.bool true) ∧ Below w.heap.size w w' := by
  have HA : Hid (a = none → cap = 0) := hA
  clear hA
  have hll : l.length = len := by have := hR.len; rwa [U_len] at this
  have HL : Hid (l.length = len) := hll
  obtain ⟨N, hN⟩ := Int.eq_ofNat_of_zero_le (Int.emod_nonneg n (show (9 : Int) ≠ 0 by decide))
  have hN8 : N ≤ 8 := by have := Int.emod_lt_of_pos n (show (0 : Int) < 9 by decide); omega
  obtain ⟨M, hM⟩ := Int.eq_ofNat_of_zero_le (Int.emod_nonneg m (show (9 - (N : Int)) ≠ 0 by omega))
  have hM8 : N + M ≤ 8 := by have := Int.emod_lt_of_pos m (show (0 : Int) < 9 - (N : Int) by omega); omega
  have HN : Hid (n % 9 = (N : Int)) := hN
  have HM : Hid (m % (9 - (N : Int)) = (M : Int)) := hM
  clear hN hM hll
  go_enter Try.func9, Try.ntmps9
  go_wp2_with fail
  refine (lives_any w).mono ?_
  rintro e w1 ⟨rfl, hb1⟩
  have hz1 := hb1.size
  by_cases hlen : 200 < len
  · go_wp2
    go_ret
    exact ⟨rfl, hb1⟩
  · have hlen' : len ≤ 200 := by omega
    clear hlen
    go_wp2_with fail
    refine (pick_at _ _ (N : Int) _ (by omega) (by omega) HN.out).mono ?_
    rintro e w2 ⟨rfl, rfl⟩
    go_wp2_with fail
    refine (pick_at _ _ (M : Int) _ (by omega) (by omega) HM.out).mono ?_
    rintro e w2 ⟨rfl, rfl⟩
    go_wp2_with fail
    refine (new_any a len cap 0 w.heap.size l _ (hR.below hb1 (Nat.le_refl _)) HA.out hz1 (by omega)).mono ?_
    rintro e w2 ⟨g, rfl, hg, hgl, hrd, hb⟩
    have hb2 : Below w.heap.size w w2 := hb1.trans (hb.mono hz1)
    have hz2 := hb2.size
    clear hb hb1
    go_wp2_with fail
    refine (new_any a len cap 0 w.heap.size l _ (hR.below hb2 (Nat.le_refl _)) HA.out hz2 (by omega)).mono ?_
    rintro e w3 ⟨g3, rfl, hg3, hgl3, hrd3, hb⟩
    have hb3 : Below w.heap.size w w3 := hb2.trans (hb.mono hz2)
    have hrd2 := hrd.below hb hgl
    have hz3 := hb3.size
    clear hb hb2 hrd
    by_cases hlt : len < N + M
    · go_wp2_with fail
      refine (number_at _ _ _ l _ _ [] l 5 0 (by rw [← Int.natCast_add]; exact tk_more (by rw [HL.out]; exact hlt) hM8) rfl hrd2).mono ?_
      rintro e w4 ⟨rfl, hrd4, hgr, _⟩
      have hrs4 := hrd3.grown hgr (by omega) (by omega)
      have hb4 : Below w.heap.size w w4 := hb3.grown hgr hz3 (by intro k hk; injection hk with hk; omega)
      have hz4 := hb4.size
      clear hgr hrd2 hrd3 hb3
      by_cases hNl : N ≤ len
      · go_wp2_with fail
        refine (number_at _ _ _ l _ _ (l.take N) (l.drop N) 0 _ (tk_ok (by rw [HL.out]; exact hNl) (by omega)) rfl hrs4).mono ?_
        rintro e w5 ⟨rfl, hrs5, hgr, _⟩
        have hrd5 := hrd4.grown hgr (by omega) (by omega)
        have hb5 : Below w.heap.size w w5 := hb4.grown hgr hz4 (by intro k hk; injection hk with hk; omega)
        have hz5 := hb5.size
        clear hgr hrd4 hrs4 hb4
        go_wp2_with fail
        refine (number_at _ _ _ _ _ _ [] (l.drop N) 5 0 (tk_more (by rw [List.length_drop, HL.out]; omega) (by omega)) rfl hrs5).mono ?_
        rintro e w6 ⟨rfl, hrs6, hgr, _⟩
        have hrd6 := hrd5.grown hgr (by omega) (by omega)
        have hb6 : Below w.heap.size w w6 := hb5.grown hgr hz5 (by intro k hk; injection hk with hk; omega)
        clear hgr hrd5 hrs5 hb5
        go_wp2_with fail
        refine (err_rd _ _ _ _ _ hrd6).mono ?_
        rintro e w7 ⟨rfl, rfl⟩
        go_wp2_with fail
        refine (err_rd _ _ _ _ _ hrs6).mono ?_
        rintro e w7 ⟨rfl, rfl⟩
        go_wp2_with fail
        refine (left_rd _ _ _ _ _ hrd6).mono ?_
        rw [HL.out]
        rintro e w7 ⟨rfl, rfl⟩
        go_wp2
        go_ret
        exact ⟨rfl, hb6⟩
      · go_wp2_with fail
        refine (number_at _ _ _ l _ _ [] l 5 0 (tk_more (by rw [HL.out]; omega) (by omega)) rfl hrs4).mono ?_
        rintro e w5 ⟨rfl, hrs5, hgr, _⟩
        have hrd5 := hrd4.grown hgr (by omega) (by omega)
        have hb5 : Below w.heap.size w w5 := hb4.grown hgr hz4 (by intro k hk; injection hk with hk; omega)
        have hz5 := hb5.size
        clear hgr hrd4 hrs4 hb4
        go_wp2_with fail
        refine (number_at _ _ _ _ _ _ [] l 5 0 (tk_err (by decide)) rfl hrs5).mono ?_
        rintro e w6 ⟨rfl, hrs6, hgr, _⟩
        have hrd6 := hrd5.grown hgr (by omega) (by omega)
        have hb6 : Below w.heap.size w w6 := hb5.grown hgr hz5 (by intro k hk; injection hk with hk; omega)
        clear hgr hrd5 hrs5 hb5
        go_wp2_with fail
        refine (err_rd _ _ _ _ _ hrd6).mono ?_
        rintro e w7 ⟨rfl, rfl⟩
        go_wp2_with fail
        refine (err_rd _ _ _ _ _ hrs6).mono ?_
        rintro e w7 ⟨rfl, rfl⟩
        go_wp2_with fail
        refine (left_rd _ _ _ _ _ hrd6).mono ?_
        rw [HL.out]
        rintro e w7 ⟨rfl, rfl⟩
        go_wp2
        go_ret
        exact ⟨rfl, hb6⟩
    · have hge : N + M ≤ len := by omega
      clear hlt
      obtain ⟨X, HX⟩ : ∃ X : Nat, Hid (num (l.take (N + M)) = X) := ⟨_, rfl⟩
      obtain ⟨Y, HY⟩ : ∃ Y : Nat, Hid (num (l.take N) = Y) := ⟨_, rfl⟩
      obtain ⟨Z, HZ⟩ : ∃ Z : Nat, Hid (num ((l.drop N).take M) = Z) := ⟨_, rfl⟩
      go_wp2_with fail
      refine (number_at _ _ _ l _ _ (l.take (N + M)) (l.drop (N + M)) 0 (X : Int) (by rw [← Int.natCast_add]; exact tk_ok (by rw [HL.out]; exact hge) hM8) (by rw [HX.out]) hrd2).mono ?_
      rintro e w4 ⟨rfl, hrd4, hgr, _⟩
      have hrs4 := hrd3.grown hgr (by omega) (by omega)
      have hb4 : Below w.heap.size w w4 := hb3.grown hgr hz3 (by intro k hk; injection hk with hk; omega)
      have hz4 := hb4.size
      clear hgr hrd2 hrd3 hb3
      go_wp2_with fail
      refine (number_at _ _ _ l _ _ (l.take N) (l.drop N) 0 (Y : Int) (tk_ok (by rw [HL.out]; omega) (by omega)) (by rw [HY.out]) hrs4).mono ?_
      rintro e w5 ⟨rfl, hrs5, hgr, _⟩
      have hrd5 := hrd4.grown hgr (by omega) (by omega)
      have hb5 : Below w.heap.size w w5 := hb4.grown hgr hz4 (by intro k hk; injection hk with hk; omega)
      have hz5 := hb5.size
      clear hgr hrd4 hrs4 hb4
      go_wp2_with fail
      refine (number_at _ _ _ _ _ _ ((l.drop N).take M) ((l.drop N).drop M) 0 (Z : Int) (tk_ok (by rw [List.length_drop, HL.out]; omega) (by omega)) (by rw [HZ.out]) hrs5).mono ?_
      rintro e w6 ⟨rfl, hrs6, hgr, _⟩
      have hrd6 := hrd5.grown hgr (by omega) (by omega)
      have hb6 : Below w.heap.size w w6 := hb5.grown hgr hz5 (by intro k hk; injection hk with hk; omega)
      have hz6 := hb6.size
      clear hgr hrd5 hrs5 hb5
      by_cases h8 : N = 8
      · subst h8
        obtain rfl : M = 0 := by omega
        obtain rfl : Z = 0 := by rw [← HZ.out]; simp [num]
        obtain rfl : X = Y := by rw [← HX.out, ← HY.out]
        go_wp2
        go_ret
        exact ⟨rfl, hb6⟩
      · have hb8 : ((N : Int) == 8) = false := by simp; omega
        have E1 : X = Y + 256 ^ N * Z := by rw [← HX.out, ← HY.out, ← HZ.out]; exact split_num l N M (by rw [HL.out]; exact hge)
        have hX : X < 18446744073709551616 := by rw [← HX.out]; exact num_take_lt8 l _ hM8
        have e1 := split_wrap E1 hX
        have HP : Hid (num ((([] ++ putB (Y : Int) (clampN N)) ++ putB (Z : Int) (clampN M)).take 8) = X) := put_put X Y Z N M E1 (by rw [← HY.out]; exact num_take_lt _ _) (by rw [← HZ.out]; exact num_take_lt _ _) hM8
        clear E1
        obtain ⟨R, hr1, hr2⟩ : ∃ R : Nat, R + N + M ≤ len ∧ len ≤ R + N + M := ⟨len - N - M, by omega, by omega⟩
        go_wp2_with fail
        refine (left_at _ _ _ _ _ (R : Int) (by rw [List.length_drop, HL.out]; omega) hrd6).mono ?_
        rintro e w7 ⟨rfl, rfl⟩
        go_wp2_with fail
        refine (left_at _ _ _ _ _ (R : Int) (by rw [List.length_drop, List.length_drop, HL.out]; omega) hrs6).mono ?_
        rintro e w7 ⟨rfl, rfl⟩
        go_wp2_with fail
        refine (left_at _ _ _ _ _ (R : Int) (by rw [List.length_drop, HL.out]; omega) hrd6).mono ?_
        rintro e w7 ⟨rfl, rfl⟩
        go_wp2_with fail
        refine (put_any none 0 0 0 0 [] _ _ _ Row.empty (fun _ => rfl) (Nat.zero_le _) (by omega) (by omega)).mono ?_
        rintro e w7 ⟨A7, n7, c7, rfl, hl7, hA7, hown7, hb7⟩
        have hn7 : n7 ≤ 8 := by rw [← hl7.out, List.nil_append, putB_len]; unfold clampN; omega
        go_wp2_with fail
        refine (put_any A7 n7 c7 w6.heap.size w7.heap.size _ _ _ _ (Row.of_own hown7) hA7.out (Nat.le_refl _) (by omega) (by omega)).mono ?_
        rintro e w8 ⟨A8, n8, c8, rfl, hl8, hA8, hown8, hb8⟩
        have hz7 := hb7.size
        have hb9 : Below w.heap.size w w8 := (hb6.trans (hb7.mono hz6)).trans (hb8.mono (by omega))
        have hn8 : n8 ≤ 16 := by rw [← hl8.out, List.length_append, putB_len, List.nil_append, putB_len]; unfold clampN; omega
        clear hown7 hb7 hb8
        go_wp2_with fail
        refine (of_any A8 n8 c8 w7.heap.size w8.heap.size _ _ (Row.of_own hown8) (by omega)).mono ?_
        rw [HP.out]
        rintro e w9 ⟨rfl, rfl⟩
        clear hown8
        go_wp2
        go_ret
        exact ⟨rfl, hb9⟩
end Go.Proofs.Ytglmkbdkhcapaaa
