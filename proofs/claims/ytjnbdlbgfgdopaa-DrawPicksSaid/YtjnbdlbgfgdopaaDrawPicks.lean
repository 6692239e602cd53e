/-
  The walk of DrawPicks: picks are below n, the first n unlike, then they come again; fewer are the first ones of more.
-/
import Derived.Test.YtjnbdlbgfgdopaaDrawKit
namespace Go.Proofs.Ytjnbdlbgfgdopaa
set_option maxRecDepth 40000
set_option linter.unusedVariables false
open Go.RowKit

set_option maxHeartbeats 1600000 in
theorem picks_walk (A : Option Addr) (len cap : Nat) (l : List Int) (n k m : Int) (w : World) (h : Row w 0 w.heap.size A len (IK .u64 l)) (hwf : ∀ x ∈ l, 0 ≤ x ∧ x ≤ 18446744073709551615) :
    Calls Try.prog 5 #[.slice A len cap, .int .i64 n, .int .i64 k, .int .i64 m] w fun e w' => e = .returned (.bool true) ∧ Below w.heap.size w w' := by
  have W0 := hid (lives_any w)
  by_cases hl : 300 < len
  · clear h hwf
    go_enter Try.func5, Try.ntmps5
    go_wp2_with fail
    refine W0.out.mono ?_
    rintro e w0 ⟨rfl, hb0⟩
    go_wp2
    go_ret
    exact ⟨rfl, hb0⟩
  · obtain ⟨N0, hN0⟩ := Int.eq_ofNat_of_zero_le (Int.emod_nonneg n (show (300 : Int) ≠ 0 by omega))
    have hN1 : N0 < 300 := by have := Int.emod_lt_of_pos n (show (0 : Int) < 300 by omega); omega
    obtain ⟨K, hK0⟩ := Int.eq_ofNat_of_zero_le (Int.emod_nonneg k (show (600 : Int) ≠ 0 by omega))
    have hK1 : K < 600 := by have := Int.emod_lt_of_pos k (show (0 : Int) < 600 by omega); omega
    obtain ⟨M, hM0⟩ := Int.eq_ofNat_of_zero_le (Int.emod_nonneg m (show ((K : Int) + 1) ≠ 0 by omega))
    have hM1 : M ≤ K := by have := Int.emod_lt_of_pos m (show (0 : Int) < (K : Int) + 1 by omega); omega
    obtain ⟨N, hN⟩ : ∃ N, N = N0 + 1 := ⟨_, rfl⟩
    have hN2 : 1 ≤ N := by omega
    have hN3 : N ≤ 300 := by omega
    have cn := fun W => pick_at n 300 _ W (by omega) (by omega) hN0
    have ck := fun W => pick_at k 600 _ W (by omega) (by omega) hK0
    have cm := fun W => pick_at m ((K : Int) + 1) _ W (by omega) (by omega) hM0
    have e1 : (1 : Int) + (N0 : Int) = (N : Int) := by omega
    have HN := hid hN
    clear hN0 hK0 hM0 hN hN1
    obtain ⟨p, hp⟩ : ∃ p, p = min N K := ⟨_, rfl⟩
    have hpK : p ≤ K := by omega
    have hmin := min_two N K p hp
    have D1 : Hid ((pks l N K).take M = pks l N M) := pks_take hM1
    have D2 : Hid (decide ((pks l N K).take p).Nodup = true) := by
      refine hid (decide_eq_true ?_)
      rw [pks_take hpK]
      exact pks_nodup (by omega)
    clear hp
    go_enter Try.func5, Try.ntmps5
    go_wp2_with fail
    refine W0.out.mono ?_
    rintro e w0 ⟨rfl, hb0⟩
    go_wp2_with fail
    refine (cn _).mono ?_
    rintro e w1 ⟨rfl, rfl⟩
    go_wp2_with fail
    refine (ck _).mono ?_
    rintro e w2 ⟨rfl, rfl⟩
    go_wp2_with fail
    refine (cm _).mono ?_
    rintro e w3 ⟨rfl, rfl⟩
    have R0 := h.below hb0 (Nat.le_refl _)
    have c1 := picks_at A len cap 0 w.heap.size l N K _ R0 hb0.size (by omega) hwf (by omega) (by omega) (by omega)
    have HB0 := hid hb0
    clear hb0 R0
    go_wp2_with fail
    refine c1.mono ?_
    rintro e w4 ⟨g, rfl, R4, hb4, hg4, hs4⟩
    have R0 := h.below HB0.out (Nat.le_refl _)
    have R04 := R0.below hb4 HB0.out.size
    have c2 := picks_at A len cap 0 w.heap.size l N M _ R04 (Nat.le_trans HB0.out.size hb4.size) (by omega) hwf (by omega) (by omega) (by omega)
    have HB4 := hid (HB0.out.trans (hb4.mono HB0.out.size))
    have G4 := hid (And.intro hg4 hs4)
    clear hb4 hg4 hs4 R0 R04 c1
    go_wp2_with fail
    refine c2.mono ?_
    rintro e w5 ⟨g5, rfl, R5, hb5, hg5, hs5⟩
    have R45 := R4.below hb5 (Nat.le_refl _)
    have RM := R45.take hM1
    have RP := R45.take hpK
    have RM : Row w5 w0.heap.size w4.heap.size (some ⟨g, 0, none⟩) M (IK .i64 (pks l N M)) := by
      rw [← D1.out]; unfold IK; rw [List.map_take]; exact RM
    have RP : Row w5 w0.heap.size w4.heap.size (some ⟨g, 0, none⟩) p (IK .i64 ((pks l N K).take p)) := by
      unfold IK; rw [List.map_take]; exact RP
    have c3 := sameI (some ⟨g5, 0, none⟩) (some ⟨g, 0, none⟩) M M M K _ _ _ _ _ _ w5 R5 RM (by omega)
    have c4 := fun q => distinct_any (some ⟨g, 0, none⟩) p K _ _ _ (w5.drewN q) (RP.drewN q) (by omega)
    rw [D2.out] at c4
    have c3 : Calls Try.prog 11 #[.slice (some ⟨g5, 0, none⟩) M M, .slice (some ⟨g, 0, none⟩) M K] w5 fun e w' => e = .returned (.bool true) ∧ ∃ k, w' = w5.drewN k := by
      refine c3.mono ?_
      rintro e w' ⟨rfl, h⟩
      exact ⟨by simp, h⟩
    have HB5 := hid (HB4.out.trans (hb5.mono HB4.out.size))
    have HR := hid R45
    have C4 := hid c4
    have HS45 := hid hb5.size
    clear hb5 hg5 hs5 R4 R5 R45 RM RP c2 c4
    go_wp2_with fail
    refine c3.mono ?_
    rintro e w6 ⟨rfl, q, rfl⟩
    go_wp2_with fail
    refine (C4.out q).mono ?_
    rintro e w7 ⟨rfl, hb7⟩
    have HB7 := hid (HB5.out.trans ((below_drewN (Below.refl _ _) q).trans (hb7.mono HB5.out.size)))
    have HR7 : Hid (Row w7 w0.heap.size w4.heap.size (some ⟨g, 0, none⟩) K (IK .i64 (pks l N K))) := (HR.out.drewN q).below hb7 HS45.out
    clear hb7 c3 C4 HR
    go_wp2
    go_loopw [13] (fun i wr => ∃ j : Nat, j ≤ K ∧ i = .int .i64 j ∧ ∃ q, wr = w7.drewN q) (fun i _ => K - (intOf i).toNat)
    case atStart => exact ⟨0, Nat.zero_le _, rfl, 0, rfl⟩
    case round =>
      obtain ⟨j, hj, rfl, q2, rfl⟩ := hrel
      by_cases hlt : j < K
      · have rd : ∀ i, i < K → w7.cell? ⟨g, i, none⟩ = some (.int .i64 ((pk l N (i % N) : Nat) : Int)) := fun i hi => by
          obtain ⟨b, off, e1, _, _, hc⟩ := cells_at HR7.out (k := i) (by rw [pks_len]; exact hi)
          injection e1 with e1
          injection e1 with e2 e3
          subst e2 e3
          have e4 := pks_get (l := l) (n := N) hi
          rw [List.getElem?_eq_getElem (by rw [pks_len]; exact hi)] at e4
          injection e4 with e4
          rw [← e4]
          rw [Nat.zero_add] at hc
          exact hc
        have r1 := rd j hlt
        have v1 : pk l N (j % N) < N := pk_lt (Nat.mod_lt _ hN2)
        by_cases hjn : j < N
        · generalize pk l N (j % N) = v at r1 v1
          have g1 : decide ((v : Int) < 0) = false := decide_eq_false (by omega)
          have g2 : decide ((N : Int) ≤ (v : Int)) = false := decide_eq_false (by omega)
          have g3 : decide ((N : Int) ≤ (j : Int)) = false := decide_eq_false (by omega)
          have g5 : ¬ N ≤ v := by omega
          have g6 : ¬ N ≤ j := by omega
          clear rd
          go_wp2
          go_quiet (fail)
          go_wp2
          go_roundw
          case rel => exact ⟨j + 1, by omega, by go_num, _, rfl⟩
          case measure => simp [intOf]; omega
        · have r2 := rd (j - N) (by omega)
          rw [show (j - N) % N = j % N by rw [← Nat.mod_eq_sub_mod (by omega)]] at r2
          generalize pk l N (j % N) = v at r1 v1 r2
          have g1 : decide ((v : Int) < 0) = false := decide_eq_false (by omega)
          have g2 : decide ((N : Int) ≤ (v : Int)) = false := decide_eq_false (by omega)
          have g3 : decide ((N : Int) ≤ (j : Int)) = true := decide_eq_true (by omega)
          have g5 : ¬ N ≤ v := by omega
          have g6 : N ≤ j := by omega
          have e9 : (j : Int) - (N : Int) = ((j - N : Nat) : Int) := by omega
          have hjN : j - N < K := by omega
          generalize j - N = d at *
          have g4 : ((v : Int) != (v : Int)) = false := by simp
          clear rd
          go_wp2
          go_quiet (fail)
          go_wp2
          go_roundw
          case rel => exact ⟨j + 1, by omega, by go_num, _, rfl⟩
          case measure => simp [intOf]; omega
      · obtain rfl : j = K := by omega
        go_wp2
        go_ret
        exact ⟨rfl, below_drewN HB7.out q2⟩
end Go.Proofs.Ytjnbdlbgfgdopaa
