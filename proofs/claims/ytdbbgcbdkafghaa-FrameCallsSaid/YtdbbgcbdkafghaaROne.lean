/-
  Contract of the document's One.
-/
import Derived.Test.YtdbbgcbdkafghaaRFrame
import Derived.Test.YtdbbgcbdkafghaaJoins7
import Derived.Laws.IdiomStrings
namespace Go.Proofs.Ytdbbgcbdkafghaa
open Go.RowKit Go.Joins Regs

/-- The frame of what is read is what was read, just if the sums are alike. -/
theorem frm_alike {b : List UInt8} {z : Nat} (h8 : 8 + z ≤ b.length) (hz : z = num (b.take 4)) : (frm ((b.drop 8).take z) = b.take (8 + z)) ↔ num ((b.drop 4).take 4) = (csum (b.take 4 ++ (b.drop 8).take z)).toNat := by
  have hpl : ((b.drop 8).take z).length = z := by rw [List.length_take, List.length_drop]; omega
  have t4 : (b.take 4).length = 4 := by rw [List.length_take]; omega
  have d4 : ((b.drop 4).take 4).length = 4 := by rw [List.length_take, List.length_drop]; omega
  have e1 : hdr ((b.drop 8).take z) = b.take 4 := by unfold hdr; rw [hpl, hz]; exact putB_num _ _ t4
  have e3 : b.take (8 + z) = (b.take 4 ++ (b.drop 4).take 4) ++ (b.drop 8).take z := by
    rw [List.take_add, show (8 : Nat) = 4 + 4 from rfl, List.take_add]
  unfold frm
  rw [e3, e1]
  constructor
  · intro h
    have h2 := List.append_cancel_left (List.append_cancel_right h)
    rw [← h2]
    unfold chk
    rw [num_put4 _ (csum_lt _)]
  · intro h
    congr 2
    unfold chk
    rw [← h]
    exact putB_num _ _ d4
theorem back_any {w : World} {lo up : Nat} {A : Option Addr} {n c : Nat} {l : List UInt8} (h : Row w lo up A n (U l)) (hn : 0 < n) : (convert 22 9 (.slice A n c)).run Try.prog w = .ok (.string ⟨l.toArray⟩) w := by
  have hl : l.length = n := by have := h.len; rwa [U_len] at this
  obtain ⟨b, off, rfl, _, _, hc⟩ := h.2 hn
  subst hl
  refine run_convert_bytes_back w 22 9 5 ⟨b, off, none⟩ c l Try.underlying22 Try.underlying5 Try.underlying9 (fun j hj => ?_)
  rw [addr_add]
  exact hc j _ (U_get l j hj)
theorem ba_ne {l m : List UInt8} : ((⟨l.toArray⟩ : ByteArray) = ⟨m.toArray⟩) ↔ l = m := by
  constructor
  · intro h
    injection h with h
    simpa using h
  · rintro rfl; rfl
set_option maxHeartbeats 2000000 in
set_option maxRecDepth 20000 in
theorem rone_any (A : Option Addr) (n c lo up : Nat) (b : List UInt8) (w : World) (hR : Row w lo up A n (U b)) (hA : A = none → c = 0) (hup : up ≤ w.heap.size) (hn : n ≤ 300000) (hc : n ≤ c ∧ c ≤ maxLen) :
    Calls Try.prog 17 #[.slice A n c] w (OnePost w (one b)) := by
  obtain ⟨i0, hi, hz0, hz1, hz2⟩ := info_parts info5
  have hl : b.length = n := by have := hR.len; rwa [U_len] at this
  have hcm : c ≤ 9223372036854775807 := by have := hc.2; unfold maxLen at this; exact this
  have hnc := hc.1
  by_cases h8 : n < 8
  · have e1 : one b = (5, [], 0) := by unfold one; rw [if_pos (by omega)]
    rw [e1]
    clear e1
    go_enter Try.func17, Try.ntmps17
    go_wp2
    go_ret3
    exact one_none (Below.refl _ _)
  · have R4 := hR.take (k := 4) (by omega)
    rw [U_take] at R4
    have O4 := rof_any A 4 c lo up (b.take 4) w R4 (by omega)
    rw [List.take_take, Nat.min_eq_right (by omega)] at O4
    obtain ⟨z, hz⟩ : ∃ z : Nat, z = num (b.take 4) := ⟨_, rfl⟩
    rw [← hz] at O4
    have hzl : z < 4294967296 := by rw [hz]; have := num_take_lt b 4; have e : (256 : Nat) ^ 4 = 4294967296 := by decide
                                    omega
    have O1 := hid O4
    have HZ := hid hz
    have HL := hid hl
    have HR := hid hR
    have HR4 := hid R4
    have HA := hid hA
    clear O4 hz hl hR R4 hA
    by_cases hlong : 33554432 < z
    · have e1 : one b = (3, [], 0) := by unfold one; rw [if_neg (by have := HL.out; omega), ← HZ.out, if_pos hlong]
      rw [e1]
      clear e1
      go_enter Try.func17, Try.ntmps17
      go_wp2_with fail
      refine O1.out.mono ?_
      rintro e w' ⟨rfl, rfl⟩
      go_wp2
      go_ret3
      exact one_none (Below.refl _ _)
    · by_cases hmore : n < 8 + z
      · have e1 : one b = (5, [], 0) := by unfold one; rw [if_neg (by have := HL.out; omega), ← HZ.out, if_neg hlong, if_pos (by have := HL.out; omega)]
        rw [e1]
        clear e1
        have hcv : IntKind.u64.wrap ((n : Int) - 8) = (n : Int) - 8 := IntWalk.u64_in _ (by omega)
        have hlt : (n : Int) - 8 < (z : Int) := by omega
        go_enter Try.func17, Try.ntmps17
        go_wp2_with fail
        refine O1.out.mono ?_
        rintro e w' ⟨rfl, rfl⟩
        go_wp2
        go_ret3
        exact one_none (Below.refl _ _)
      · have hzm : 8 + z ≤ n := by omega
        have hcv : IntKind.u64.wrap ((n : Int) - 8) = (n : Int) - 8 := IntWalk.u64_in _ (by omega)
        have hlt : ¬ (n : Int) - 8 < (z : Int) := by omega
        have hu8 : IntKind.u64.wrap (8 + (z : Int)) = 8 + (z : Int) := IntWalk.u64_in _ (by omega)
        have g2 : (8 : Int) ≤ (c : Int) := by omega
        have g4 : 8 + (z : Int) ≤ (c : Int) := by omega
        have hal := frm_alike (b := b) (z := z) (by rw [HL.out]; exact hzm) HZ.out
        obtain ⟨pl, hpl⟩ : ∃ pl, pl = (b.drop 8).take z := ⟨_, rfl⟩
        have hone : one b = if frm pl ≠ b.take (8 + z) then (4, [], 0) else (0, pl, 8 + z) := by
          unfold one
          rw [if_neg (by have := HL.out; omega), ← HZ.out, if_neg hlong, if_neg (by have := HL.out; omega), ← hpl]
          rw [← hpl] at hal
          simp only [ne_eq, hal]
        have hpll : pl.length = z := by rw [hpl, List.length_take, List.length_drop, HL.out]; omega
        have RPL : Hid (Row w lo up (if c = 8 then A else A.map (·.add 8)) z (U pl)) := hid (by
          have r := (HR.out.drop (k := 8) (cap := c) (by omega) (by omega)).take (k := z) (by omega)
          rwa [U_drop, U_take, ← hpl] at r)
        have RB : Hid (Row w lo up A (8 + z) (U (b.take (8 + z)))) := hid (by
          have r := HR.out.take (k := 8 + z) (by omega)
          rwa [U_take] at r)
        have HONE := hid hone
        have HPLL := hid hpll
        clear hal hpl hone hpll
        obtain ⟨g, off, rfl⟩ : ∃ g off, A = some ⟨g, off, none⟩ := by
          obtain ⟨g, off, e, _⟩ := HR.out.2 (by omega)
          exact ⟨g, off, e⟩
        obtain ⟨y, hy⟩ : ∃ y, y = 8 + z := ⟨_, rfl⟩
        obtain ⟨tk, htk⟩ : ∃ tk, tk = b.take (8 + z) := ⟨_, rfl⟩
        obtain ⟨fr, hfr⟩ : ∃ fr, fr = frm pl := ⟨_, rfl⟩
        have hone := HONE.out
        rw [← hfr, ← htk] at hone
        have hfl : fr.length = y := by rw [hfr, frm_len, HPLL.out]; omega
        have RB2 := RB.out
        rw [← htk, ← hy] at RB2
        have RB3 := hid RB2
        have HFR := hid hfr
        have HFL := hid hfl
        have hy8 : 0 < y := by omega
        have hyz : (y : Int) = 8 + (z : Int) := by omega
        clear RB RB2 htk hfr hfl HONE
        have HD : Hid ((decide (fr = tk) = true ∧ one b = (0, pl, 8 + z)) ∨ (decide (fr = tk) = false ∧ one b = (4, [], 0))) := hid (by
          by_cases hs : fr = tk
          · rw [if_neg (by simp [hs])] at hone
            exact .inl ⟨by simp [hs], hone⟩
          · rw [if_pos hs] at hone
            exact .inr ⟨by simp [hs], hone⟩)
        clear hone
        rcases Nat.lt_or_ge 8 c with h8c | h8c
        case' inl =>
          have hc8 : ¬ c = 8 := by omega
          have hz8 : 8 + z - 8 = z := by omega
          have RPL2 : Hid (Row w lo up (some ⟨g, off + 8, none⟩) (8 + z - 8) (U pl)) := hid (by have := RPL.out; rw [if_neg hc8, Option.map_some, addr_add] at this; rw [hz8]; exact this)
          have HZ8 := hid hz8
          clear hz8
        case' inr =>
          obtain rfl : c = 8 := by omega
          have RPL2 : Hid (Row w lo up (some ⟨g, off, none⟩) z (U pl)) := hid (by have := RPL.out; rw [if_pos rfl] at this; exact this)
          obtain rfl : z = 0 := by omega
          have hy : y = 8 := by omega
        all_goals
          rcases HD.out with ⟨hdd, hone⟩ | ⟨hdd, hone⟩
        all_goals
          rw [hone]
          have HDD := hid hdd
          clear hone hdd HD
          go_enter Try.func17, Try.ntmps17
          go_wp2_with fail
          refine O1.out.mono ?_
          rintro e w' ⟨rfl, rfl⟩
          go_wp2_with (at_builtin; go_loud (refine wpList_append_row _ rfl _ _ 22 rfl w.heap.size 5 i0 (.int .u8 0) 1 Try.underlying22 hi hz0 hz1 hz2 rfl (.slice (some ⟨w.heap.size, 0, none⟩) 0 0) 0 [] rfl (World.ownsRow_made w #[] 0 (Nat.le_refl _) (by decide) rfl) lo up _ _ _ rfl (fun e => by cases e) (U pl) (RPL2.out.alloc hup _) (U_one _) (by unfold maxLen; omega) (by omega) (by simp) ?_); intro v2 w2 own2 grow2 at2)
          rw [List.nil_append, Nat.zero_add] at own2
          try rw [HZ8.out] at own2
          try rw [HZ8.out]
          obtain ⟨A2, c2, rfl, hA2, _⟩ := own_shape own2
          have hb2 : Below w.heap.size w w2 := ((Below.refl _ w).alloc (Nat.le_refl _) _).grown grow2 (by simp) (fun j hj => by simp [Value.ownBlock] at hj; omega)
          have HB2 := hid hb2
          have HO2 := hid own2
          have B2 := hid (rbytes7_any A2 _ c2 w.heap.size w2.heap.size pl w2 (Row.of_own own2) hA2 (Nat.le_refl _) (by omega))
          have HC2 := hid (own_caps own2)
          have HA2 := hid hA2
          clear own2 grow2 at2 hb2 hA2
          go_wp2_with fail
          refine B2.out.mono ?_
          rintro e w3 ⟨A3, n3, c3, rfl, hl3, hA3, hown3, hb3⟩
          have HB3 := hid (HB2.out.trans (hb3.mono HB2.out.size))
          have HO3 := hid (own_on HO2.out hb3)
          rw [← HFR.out] at hl3 hown3
          have hn3 : n3 = y := by rw [← hl3.out]; exact HFL.out
          subst hn3
          have CV1 : ∀ k, (convert 22 9 (.slice A3 n3 c3)).run Try.prog (w3.drewN k) = .ok (.string ⟨fr.toArray⟩) (w3.drewN k) := fun k => back_any ((Row.of_own hown3).drewN k) hy8
          have CV2 : ∀ q k, (convert 22 9 (.slice (some ⟨g, off, none⟩) n3 q)).run Try.prog (w3.drewN k) = .ok (.string ⟨tk.toArray⟩) (w3.drewN k) := fun q k => back_any ((RB3.out.below HB3.out hup).drewN k) hy8
          have HXY : Hid (((⟨fr.toArray⟩ : ByteArray).toList == (⟨tk.toArray⟩ : ByteArray).toList) = decide (fr = tk)) := hid (by rw [Lib.toList_data, Lib.toList_data, Bool.eq_iff_iff]; simp)
          generalize (⟨fr.toArray⟩ : ByteArray) = s1 at CV1 HXY
          generalize (⟨tk.toArray⟩ : ByteArray) = s2 at CV2 HXY
          clear hown3 hb3 hl3
          subst hy
          have hbe := HXY.out
          rw [HDD.out] at hbe
          all_goals
            go_wp2
            go_quiet (fail)
            go_wp2
            go_ret3
            first
              | exact one_none (below_drewN HB3.out _)
              | (refine ⟨A2, _, c2, by first | rfl | (simp; try omega), hid HPLL.out, HA2, ?_, below_drewN HB3.out _⟩
                 exact own_drewN HO3.out _)
end Go.Proofs.Ytdbbgcbdkafghaa
