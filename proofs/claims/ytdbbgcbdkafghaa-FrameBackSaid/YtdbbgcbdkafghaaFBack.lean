/-
  The walk of FrameBack.
-/
import Derived.Test.YtdbbgcbdkafghaaFJoins
namespace Go.Proofs.Ytdbbgcbdkafghaa
open Go.RowKit Go.Joins Regs

/-- How many frames are whole of the first bytes. -/
def wholes (ls : List (List UInt8)) (at_ k : Nat) : Prop := k ≤ ls.length ∧ ∀ j, j ≤ k → (flat (ls.take j)).length ≤ at_
theorem flat_mono (ls : List (List UInt8)) {j k : Nat} (h : j ≤ k) : (flat (ls.take j)).length ≤ (flat (ls.take k)).length := by
  have : ls.take k = ls.take j ++ (ls.drop j).take (k - j) := by
    rw [← List.take_add]
    congr 1
    omega
  rw [this, flat_append, List.length_append]
  omega
theorem I_at (ls : List (List UInt8)) {k n : Nat} (h : k < n) : (I (endsOf ls n))[k]? = some (.int .i64 ((flat (ls.take (k + 1))).length : Int)) := by
  simp [I, endsOf, h]
/-- Frames that were cut: the whole ones, and what is behind them. -/
theorem cut_known {ls : List (List UInt8)} (hl : ∀ p ∈ ls, p.length ≤ 33554432) {at_ k : Nat} (ha : at_ ≤ (flat ls).length) (hk : k ≤ ls.length) (h1 : (flat (ls.take k)).length ≤ at_) (h2 : k < ls.length → at_ < (flat (ls.take (k + 1))).length) :
    ∃ r, Scans ((flat ls).take at_) (ls.take k) r ∧ (flat (ls.take k)).length + r.length = at_ := by
  obtain ⟨n, r, hn, hs, h3, h4⟩ := scans_cut hl at_ ha
  have hkn : k = n := by
    have e1 := h4 k hk h1
    rcases Nat.lt_or_ge k n with h | h
    · have h5 := h2 (by omega)
      have := flat_mono ls (show k + 1 ≤ n from h)
      omega
    · omega
  subst hkn
  refine ⟨r, hs, ?_⟩
  have := congrArg List.length hs.bytes
  rw [List.length_append, List.length_take] at this
  omega
theorem BL.take {w : World} {lo up n : Nat} {A : Option Addr} {ls : List (List UInt8)} {vs : List Value} (h : BL w lo up A n ls vs) {k : Nat} (hk : k ≤ n) : BL w lo up A k (ls.take k) (vs.take k) :=
  ⟨h.row.take hk, by rw [List.length_take, h.len]; omega, fun j l hl => by
    have hj : j < k := by have := (List.getElem?_eq_some_iff.1 hl).1; rw [List.length_take] at this; omega
    rw [List.getElem?_take_of_lt hj] at hl
    obtain ⟨B, m, c, e, r⟩ := h.at_ j l hl
    exact ⟨B, m, c, by rw [List.getElem?_take_of_lt hj]; exact e, r⟩⟩
theorem JoinPost.at {w w' : World} {ls : List (List UInt8)} {e : Ending} {n : Nat} (h : JoinPost w ls e w') (hn : ls.length = n) :
    ∃ A m c B d, e = .returned (.tuple #[.slice A m c, .slice B n d, .bool true]) ∧ Hid ((flat ls).length = m) ∧ Hid (A = none → c = 0) ∧ w'.ownsRow w.heap.size 5 1 (.slice A m c) m (U (flat ls)) ∧
    w'.ownsRow w.heap.size 3 1 (.slice B n d) n (I (endsOf ls n)) ∧ Below w.heap.size w w' := by
  subst hn
  exact h
set_option maxHeartbeats 8000000 in
set_option maxRecDepth 40000 in
theorem back_walk (A : Option Addr) (n c : Nat) (ls : List (List UInt8)) (vs : List Value) (x : Int) (w : World) (hR : BL w 0 w.heap.size A n ls vs) (hA : A = none → c = 0) (hn : n ≤ c ∧ c ≤ maxLen) :
    Calls Try.prog 5 #[.slice A n c, .int .i64 x] w fun e w' => e = .returned (.bool true) ∧ Below w.heap.size w w' := by
  have LV := hid (lives7_any w)
  have RL : Hid (∀ W, Below w.heap.size w W → BL W 0 w.heap.size A n ls vs) := hid fun W hW => hR.below hW (Nat.le_refl _)
  have HLL := hid hR.len
  have HA := hid hA
  clear hR hA
  go_enter Try.func5, Try.ntmps5
  go_wp2_with fail
  refine LV.out.mono ?_
  rintro e w1 ⟨rfl, hb1⟩
  have HB1 := hid hb1
  clear LV hb1
  have LT := hid (lightb_any A n c 0 w.heap.size ls vs 60 400 w1 (RL.out w1 HB1.out) (by have := hn; unfold maxLen at this; omega))
  go_wp2_with fail
  refine LT.out.mono ?_
  rintro e w2 ⟨lb, rfl, hlight, rfl⟩
  cases lb
  case false =>
    go_wp2
    go_ret
    exact ⟨rfl, HB1.out⟩
  obtain ⟨hmany, hlong⟩ := hlight rfl
  have hn6 : n ≤ 60 := by rw [HLL.out] at hmany; exact hmany
  have HLONG := hid hlong
  have HSH : Hid (∀ p ∈ ls, p.length ≤ 33554432) := hid (fun p hp => by have := hlong p hp; omega)
  clear LT hlong hmany hlight
  have JO := hid (joined_any A n c 0 w.heap.size ls vs w2 (RL.out w2 HB1.out) HB1.out.size hn6 HLONG.out)
  go_wp2_with fail
  refine JO.out.mono ?_
  intro e w3 P3
  obtain ⟨A3, n3, c3, B3, d3, rfl, hl3, hA3, hown3, hend3, hb3⟩ := P3.at HLL.out
  clear P3
  have hn3 : n3 ≤ 60 * 408 := by
    have := flat_short HLONG.out n
    rw [List.take_of_length_le (by rw [HLL.out]; exact Nat.le_refl _), hl3.out] at this
    omega
  have HB3 := hid (HB1.out.trans (hb3.mono HB1.out.size))
  have hcap3 := own_caps hown3
  have hcap4 := own_caps hend3
  have RF : Hid (∀ W, Below w3.heap.size w3 W → Row W w2.heap.size w3.heap.size A3 n3 (U (flat ls))) := hid fun W hW => (Row.of_own hown3).below hW (Nat.le_refl _)
  have RE : Hid (∀ W, Below w3.heap.size w3 W → Row W w2.heap.size w3.heap.size B3 n (I (endsOf ls n))) := hid fun W hW => (Row.of_own hend3).below hW (Nat.le_refl _)
  clear hown3 hend3 hb3 JO
  have AL := hid (all_any A3 n3 c3 w2.heap.size w3.heap.size (flat ls) w3 (RF.out w3 (Below.refl _ _)) hA3.out (Nat.le_refl _) hcap3 (by omega))
  go_wp2_with fail
  refine AL.out.mono ?_
  rintro e w4 ⟨ps, r, A4, n4, c4, vs4, z4, hS4, rfl, hA4, hc4, hc4', hb4, hx4⟩
  obtain ⟨hps, hr⟩ := scans_unique hS4.out (scans_all HSH.out)
  have hx : z4 = 0 ∧ BL w4 w3.heap.size w4.heap.size A4 n4 ls vs4 := by
    rcases hx4 with ⟨_, h2, h3⟩ | ⟨h1, _⟩
    · rw [hps] at h3; exact ⟨h2, h3.out⟩
    · exact absurd hr h1.out
  obtain ⟨rfl, hBL4⟩ := hx
  have B34 := hid hb4
  have HB4 := hid (HB3.out.trans (hb4.mono HB3.out.size))
  have Z34 : w3.heap.size ≤ w4.heap.size := hb4.size
  have LS := lists_any A4 A n4 n c4 c _ _ _ _ ls ls vs4 vs w4 hBL4 (RL.out w4 HB4.out) (Nat.le_refl _) HB4.out.size (by unfold maxLen at hc4'; omega)
  rw [decide_eq_true rfl] at LS
  have LS2 := hid LS
  clear hx4 hS4 hps hr hb4 hBL4 LS AL
  go_wp2_with fail
  refine LS2.out.mono ?_
  rintro e w5 ⟨rfl, hb5⟩
  have B35 := hid (B34.out.trans (hb5.mono Z34))
  have HB5 := hid (HB4.out.trans (hb5.mono HB4.out.size))
  clear hb5 LS2 B34
  obtain ⟨pp, hpp⟩ : ∃ pp : Nat, (pp : Int) = x % ((n3 : Int) + 1) := ⟨(x % ((n3 : Int) + 1)).toNat, Int.toNat_of_nonneg (Int.emod_nonneg _ (by omega))⟩
  have hp3 : pp ≤ n3 := by have := Int.emod_lt_of_pos x (show (0 : Int) < (n3 : Int) + 1 by omega); omega
  have PK := hid (pick_at x ((n3 : Int) + 1) (pp : Int) w5 (by omega) (by omega) hpp.symm)
  clear hpp
  go_wp2_with fail
  refine PK.out.mono ?_
  rintro e w6 ⟨rfl, rfl⟩
  go_wp2
  go_loopw [10, 11, 12] (fun a b i wr => ∃ (k z q : Nat), k ≤ n ∧ a = .int .i64 (k : Int) ∧ b = .int .i64 (z : Int) ∧ i = .int .i64 (k : Int) ∧ Hid (z = (flat (ls.take k)).length) ∧ z ≤ pp ∧ w5.drewN q = wr) (fun _ _ i _ => n - (intOf i).toNat)
  case atStart => exact ⟨0, 0, 0, Nat.zero_le _, rfl, rfl, rfl, hid (by simp [flat]), Nat.zero_le _, rfl⟩
  case round =>
    obtain ⟨k, z, q, hk, rfl, rfl, rfl, HZ, hzp, rfl⟩ := hrel
    have B3r := hid (below_drewN B35.out q)
    have HBr := hid (below_drewN HB5.out q)
    have hfl3 : (flat ls).length = n3 := hl3.out
    by_cases hgo : k < n ∧ (flat (ls.take (k + 1))).length ≤ pp
    · obtain ⟨hlt, hyp⟩ := hgo
      obtain ⟨b, off, u, rfl, _, hbl, hu, hc⟩ := (RE.out _ B3r.out).at_ hlt
      rw [I_at ls hlt] at hu
      injection hu with hu
      subst hu
      obtain ⟨y, hy⟩ : ∃ y, y = (flat (ls.take (k + 1))).length := ⟨_, rfl⟩
      rw [← hy] at hc hyp
      have hc' : w5.cell? ⟨b, off + k, none⟩ = some (.int .i64 (y : Int)) := hc
      have HY := hid hy
      clear hy hfl3
      go_wp2
      go_quiet (fail)
      go_wp2
      go_roundw
      case rel => exact ⟨k + 1, y, _, by omega, by go_num, rfl, by go_num, HY, hyp, rfl⟩
      case measure => simp [intOf]; omega
    · obtain ⟨r, hS, hzr⟩ := cut_known HSH.out (at_ := pp) (k := k) (by omega) (by rw [HLL.out]; exact hk) (by rw [← HZ.out]; exact hzp) (fun h => by rw [HLL.out] at h; exact (Nat.lt_or_ge pp (flat (ls.take (k + 1))).length).elim id (fun h2 => absurd ⟨h, h2⟩ hgo))
      rw [← HZ.out] at hzr
      have HS := hid hS
      clear hS hfl3
      have HPC : Hid (pp ≤ c3) := hid (by omega)
      have hpc : (pp : Int) ≤ (c3 : Int) := by omega
      have hpc2 : pp ≤ c3 := HPC.out
      have hkc : (k : Int) ≤ (c : Int) := by omega
      have hkc2 : k ≤ c := by omega
      have RT : Hid (∀ W, Below w3.heap.size w3 W → Row W w2.heap.size w3.heap.size A3 pp (U ((flat ls).take pp))) := hid fun W hW => by
        have := (RF.out W hW).take hp3
        rwa [U_take] at this
      have hx : Hid ((r = [] ∧ z = pp) ∨ (r ≠ [] ∧ z ≠ pp)) := hid (by
        by_cases hr : r = []
        · rw [hr] at hzr; simp at hzr; exact .inl ⟨hr, hzr⟩
        · have := List.length_pos_iff.2 hr; exact .inr ⟨hr, by omega⟩)
      rcases Nat.lt_or_ge k n with hlt | hge
      case' inl =>
        obtain ⟨b, off, u, rfl, _, hbl, hu, hc⟩ := (RE.out _ B3r.out).at_ hlt
        rw [I_at ls hlt] at hu
        injection hu with hu
        subst hu
        have hyp : pp < (flat (ls.take (k + 1))).length := (Nat.lt_or_ge pp (flat (ls.take (k + 1))).length).elim id (fun h2 => absurd ⟨hlt, h2⟩ hgo)
        generalize (flat (ls.take (k + 1))).length = y at hc hyp
        have hyp2 : ¬ y ≤ pp := by omega
      case' inr =>
        obtain rfl : k = n := by omega
      all_goals
        clear hgo
        have SC := hid (scan_any A3 pp c3 w2.heap.size w3.heap.size ((flat ls).take pp) (w5.drewN q) (RT.out _ B3r.out) hA3.out B3r.out.size ⟨HPC.out, hcap3.2⟩ (by omega))
        go_wp2_with fail
        refine SC.out.mono ?_
        rintro e w7 ⟨ps, r7, A7, n7, c7, vs7, rfl, hS7, hBL7, hA7, hc7, hc7', hb7⟩
        obtain ⟨hps, hr7⟩ := scans_unique hS7.out HS.out
        subst hps
        subst hr7
        have B37 := hid (B3r.out.trans (hb7.mono B3r.out.size))
        have HB7 := hid (HBr.out.trans (hb7.mono HBr.out.size))
        rw [← HZ.out]
        have Z57 : (w5.drewN q).heap.size ≤ w7.heap.size := hb7.size
        clear hb7 SC
        have AL7 := hid (all_any A3 pp c3 w2.heap.size w3.heap.size ((flat ls).take pp) w7 (RT.out _ B37.out) hA3.out B37.out.size ⟨HPC.out, hcap3.2⟩ (by omega))
        trace_state
        go_wp2_with fail
        refine AL7.out.mono ?_
        rintro e w8 ⟨ps8, r8, A8, n8, c8, vs8, z8, hS8, rfl, _, _, _, hb8, hx8⟩
        obtain ⟨_, hr8⟩ := scans_unique hS8.out HS.out
        subst hr8
        have HB8 := hid (HB7.out.trans (hb8.mono HB7.out.size))
        have Z78 : w7.heap.size ≤ w8.heap.size := hb8.size
        have BLX := hBL7.out.below hb8 (Nat.le_refl _)
        have BLY := (RL.out w8 HB8.out).take hk
        have LS8 := lists_any A7 A n7 k c7 c _ _ _ _ _ _ vs7 _ w8 BLX BLY Z78 HB8.out.size (by unfold maxLen at hc7'; omega)
        rw [decide_eq_true rfl] at LS8
        have LS9 := hid LS8
        clear LS8 BLX BLY hb8 AL7 hS8
        have hz8 : Hid ((z8 = 0 ∧ z = pp) ∨ (z8 = 4 ∧ z ≠ pp)) := hid (by
          rcases hx8 with ⟨h1, h2, _⟩ | ⟨h1, h2, _⟩ <;> rcases hx.out with ⟨h3, h4⟩ | ⟨h3, h4⟩
          · exact .inl ⟨h2, h4⟩
          · exact absurd h1.out h3
          · exact absurd h3 h1.out
          · exact .inr ⟨h2, h4⟩)
        clear hx8
        rcases hz8.out with ⟨rfl, hzp2⟩ | ⟨rfl, hzp2⟩
        case' inl =>
          have hbz : ((z : Int) == (pp : Int)) = true := by simp; omega
        case' inr =>
          have hbz : ((z : Int) == (pp : Int)) = false := by simp; omega
        all_goals
          have HZP := hid hzp2
          clear hzp2
          go_wp2_with fail
          refine LS9.out.mono ?_
          rintro e w9 ⟨rfl, hb9⟩
          have HB9 := hid (HB8.out.trans (hb9.mono HB8.out.size))
          clear hb9
          go_wp2
          go_ret
          exact ⟨rfl, HB9.out⟩
end Go.Proofs.Ytdbbgcbdkafghaa
