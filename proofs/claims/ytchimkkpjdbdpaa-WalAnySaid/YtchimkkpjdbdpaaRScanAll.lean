/-
  Contracts of the document's frame: Size, Bytes.
  Contract of the document's One.
  Contracts of the document's Scan and All.
-/
import Derived.Test.YtchimkkpjdbdpaaFrameBytes
import Derived.Test.YtchimkkpjdbdpaaNums
import Derived.Test.YtchimkkpjdbdpaaJoins7
import Derived.Laws.IdiomStrings
namespace Go.Proofs.Ytchimkkpjdbdpaa
set_option maxRecDepth 40000
open Go.RowKit Go.Joins Regs

theorem rsize_any (n : Int) (w : World) : Calls Try.prog 45 #[.int .i64 n] w fun e w' => e = .returned (.int .i64 (fsize n)) ∧ w' = w := by
  unfold fsize
  by_cases h0 : n < 0
  · rw [if_pos (.inl h0)]
    go_enter Try.func45, Try.ntmps45
    go_wp2
    go_ret
    exact ⟨rfl, rfl⟩
  · by_cases h1 : 33554432 < n
    · rw [if_pos (.inr h1)]
      go_enter Try.func45, Try.ntmps45
      go_wp2
      go_ret
      exact ⟨rfl, rfl⟩
    · rw [if_neg (by omega), Int.add_comm]
      go_enter Try.func45, Try.ntmps45
      go_wp2
      go_ret
      exact ⟨by go_num, rfl⟩
set_option maxHeartbeats 1000000 in
theorem rbytes7_any (A : Option Addr) (n c lo up : Nat) (p : List UInt8) (w : World) (hR : Row w lo up A n (U p)) (hA : A = none → c = 0) (hup : up ≤ w.heap.size) (hn : n ≤ 300000) :
    Calls Try.prog 75 #[.slice A n c] w (FreshE w (frm p)) := by
  obtain ⟨i0, hi, hz0, hz1, hz2⟩ := info_parts info5
  have hl : p.length = n := by have := hR.len; rwa [U_len] at this
  have hc4 : clampN 4 = 4 := rfl
  have P0 := rput_any none 0 0 0 0 [] (n : Int) 4 w Row.empty (fun _ => rfl) (Nat.zero_le _) (by omega) (by omega)
  rw [hc4, List.nil_append] at P0
  have P1 := hid P0
  clear P0
  have RP : Hid (∀ W, Below w.heap.size w W → Row W lo up A n (U p)) := hid fun W hW => hR.below hW hup
  have HL := hid hl
  have HA := hid hA
  have HUP := hid hup
  clear hR hA hl hup hc4
  go_enter Try.func75, Try.ntmps75
  go_wp2_with fail
  refine P1.out.mono ?_
  rintro e w1 ⟨A1, n1, c1, rfl, hl1, hA1, hown1, hb1⟩
  have hn1 : n1 = 4 := by have := hl1.out; rw [putB_len] at this; exact this.symm
  subst hn1
  have HB1 := hid hb1
  have R1 := hid (Row.of_own hown1)
  clear hown1 hb1 hl1
  have S1 := hid (rsumof_any A1 4 c1 w.heap.size w1.heap.size (putB (n : Int) 4) w1 R1.out (by omega))
  have M1 := rmore_any (crc 0#32 (Ws (putB (n : Int) 4))) A n c lo up p w1 (RP.out w1 HB1.out) (by omega)
  rw [crc_append] at M1
  obtain ⟨q, hq⟩ : ∃ q : Nat, q = (csum (putB (n : Int) 4 ++ p)).toNat := ⟨_, rfl⟩
  have hq2 : V (crc 0#32 (Ws (putB (n : Int) 4) ++ Ws p)) = .int .u32 (q : Int) := by
    rw [hq]
    unfold csum
    rw [show Ws (putB (n : Int) 4 ++ p) = Ws (putB (n : Int) 4) ++ Ws p by simp [Ws]]
  have hql : q < 4294967296 := by rw [hq]; exact csum_lt _
  rw [hq2] at M1
  have M2 := hid M1
  have HQ := hid hq
  clear M1 hq hq2
  generalize crc 0#32 (Ws (putB (n : Int) 4)) = s0 at S1 M2
  go_wp2_with fail
  refine S1.out.mono ?_
  rintro e w2 ⟨rfl, rfl⟩
  go_wp2_with fail
  refine M2.out.mono ?_
  rintro e w3 ⟨rfl, rfl⟩
  have P2 := rput_any A1 4 c1 w.heap.size w3.heap.size (putB (n : Int) 4) (q : Int) 4 w3 R1.out hA1.out (Nat.le_refl _) (by omega) (by omega)
  rw [show clampN 4 = 4 from rfl] at P2
  have P3 := hid P2
  clear P2
  go_wp2_with fail
  refine P3.out.mono ?_
  rintro e w4 ⟨A4, n4, c4, rfl, hl4, hA4, hown4, hb4⟩
  have hn4 : n4 = 8 := by have := hl4.out; rw [List.length_append, putB_len, putB_len] at this; exact this.symm
  subst hn4
  have HB4 := hid (HB1.out.trans (hb4.mono HB1.out.size))
  have HO4 := hid hown4
  have ef : (putB (n : Int) 4 ++ putB (q : Int) 4) ++ p = frm p := by
    unfold frm chk hdr
    rw [HL.out, HQ.out]
  have HEF := hid ef
  have hz4 : w3.heap.size ≤ w4.heap.size := hb4.size
  clear hown4 hb4 hl4 ef hql
  go_wp2_with (at_builtin; go_loud (refine wpList_append_row _ rfl _ _ 34 rfl w3.heap.size 5 i0 (.int .u8 0) 1 Try.underlying34 hi hz0 hz1 hz2 rfl (.slice A4 8 c4) 8 (U (putB (n : Int) 4 ++ putB (q : Int) 4)) rfl HO4.out lo up A n c rfl HA.out (U p) (RP.out w4 HB4.out) (U_one _) (by unfold maxLen; omega) (by omega) hz4 ?_); intro v5 w5 own5 grow5 at5)
  rw [← U_append, HEF.out] at own5
  obtain ⟨A5, c5, rfl, hA5, _⟩ := own_shape own5
  have HB5 := hid (HB4.out.grown grow5 HB4.out.size (fun g hg => Nat.le_trans HB1.out.size (HO4.out.lt g hg).1))
  have HO5 := hid (ownsRow_le own5 HB1.out.size)
  have HA5 := hid hA5
  have HLF : Hid ((frm p).length = 8 + n) := hid (by rw [frm_len, HL.out]; omega)
  clear own5 grow5 at5 hA5
  go_wp2
  go_ret2
  exact ⟨A5, 8 + n, c5, rfl, HLF, HA5, HO5.out, HB5.out⟩
end Go.Proofs.Ytchimkkpjdbdpaa
namespace Go.Proofs.Ytchimkkpjdbdpaa
set_option maxRecDepth 40000
open Go.RowKit Go.Joins Regs

/-- The frame of what is read is what was read, just if the sums are alike. -/
theorem frm_alike {b : List UInt8} {z : Nat} (h8 : 8 + z ≤ b.length) (hz : z = num (b.take 4)) : (frm ((b.drop 8).take z) = b.take (8 + z)) ↔ num ((b.drop 4).take 4) = (csum (b.take 4 ++ (b.drop 8).take z)).toNat := by
  have hpl : ((b.drop 8).take z).length = z := by rw [List.length_take, List.length_drop]; omega
  have t4 : (b.take 4).length = 4 := by rw [List.length_take]; omega
  have d4 : ((b.drop 4).take 4).length = 4 := by rw [List.length_take, List.length_drop]; omega
  have e1 : hdr ((b.drop 8).take z) = b.take 4 := by unfold hdr; rw [hpl, hz]; exact putB_num _ _ t4
  have e3 : b.take (8 + z) = (b.take 4 ++ (b.drop 4).take 4) ++ (b.drop 8).take z := by
    rw [List.take_add, show (8 : Nat) = 4 + 4 from rfl, List.take_add]
  unfold frm
  rw [e3, e1]
  constructor
  · intro h
    have h2 := List.append_cancel_left (List.append_cancel_right h)
    rw [← h2]
    unfold chk
    rw [num_put4 _ (csum_lt _)]
  · intro h
    congr 2
    unfold chk
    rw [← h]
    exact putB_num _ _ d4
theorem back_any {w : World} {lo up : Nat} {A : Option Addr} {n c : Nat} {l : List UInt8} (h : Row w lo up A n (U l)) (hn : 0 < n) : (convert 34 9 (.slice A n c)).run Try.prog w = .ok (.string ⟨l.toArray⟩) w := by
  have hl : l.length = n := by have := h.len; rwa [U_len] at this
  obtain ⟨b, off, rfl, _, _, hc⟩ := h.2 hn
  subst hl
  refine run_convert_bytes_back w 34 9 5 ⟨b, off, none⟩ c l Try.underlying34 Try.underlying5 Try.underlying9 (fun j hj => ?_)
  rw [addr_add]
  exact hc j _ (U_get l j hj)
theorem ba_ne {l m : List UInt8} : ((⟨l.toArray⟩ : ByteArray) = ⟨m.toArray⟩) ↔ l = m := by
  constructor
  · intro h
    injection h with h
    simpa using h
  · rintro rfl; rfl
set_option maxHeartbeats 2000000 in
set_option maxRecDepth 20000 in
theorem rone_any (A : Option Addr) (n c lo up : Nat) (b : List UInt8) (w : World) (hR : Row w lo up A n (U b)) (hA : A = none → c = 0) (hup : up ≤ w.heap.size) (hn : n ≤ 300000) (hc : n ≤ c ∧ c ≤ maxLen) :
    Calls Try.prog 67 #[.slice A n c] w (OnePost w (one b)) := by
  obtain ⟨i0, hi, hz0, hz1, hz2⟩ := info_parts info5
  have hl : b.length = n := by have := hR.len; rwa [U_len] at this
  have hcm : c ≤ 9223372036854775807 := by have := hc.2; unfold maxLen at this; exact this
  have hnc := hc.1
  by_cases h8 : n < 8
  · have e1 : one b = (5, [], 0) := by unfold one; rw [if_pos (by omega)]
    rw [e1]
    clear e1
    go_enter Try.func67, Try.ntmps67
    go_wp2
    go_ret3
    exact one_none (Below.refl _ _)
  · have R4 := hR.take (k := 4) (by omega)
    rw [U_take] at R4
    have O4 := rof_any A 4 c lo up (b.take 4) w R4 (by omega)
    rw [List.take_take, Nat.min_eq_right (by omega)] at O4
    obtain ⟨z, hz⟩ : ∃ z : Nat, z = num (b.take 4) := ⟨_, rfl⟩
    rw [← hz] at O4
    have hzl : z < 4294967296 := by rw [hz]; have := num_take_lt b 4; have e : (256 : Nat) ^ 4 = 4294967296 := by decide
                                    omega
    have O1 := hid O4
    have HZ := hid hz
    have HL := hid hl
    have HR := hid hR
    have HR4 := hid R4
    have HA := hid hA
    clear O4 hz hl hR R4 hA
    by_cases hlong : 33554432 < z
    · have e1 : one b = (3, [], 0) := by unfold one; rw [if_neg (by have := HL.out; omega), ← HZ.out, if_pos hlong]
      rw [e1]
      clear e1
      go_enter Try.func67, Try.ntmps67
      go_wp2_with fail
      refine O1.out.mono ?_
      rintro e w' ⟨rfl, rfl⟩
      go_wp2
      go_ret3
      exact one_none (Below.refl _ _)
    · by_cases hmore : n < 8 + z
      · have e1 : one b = (5, [], 0) := by unfold one; rw [if_neg (by have := HL.out; omega), ← HZ.out, if_neg hlong, if_pos (by have := HL.out; omega)]
        rw [e1]
        clear e1
        have hcv : IntKind.u64.wrap ((n : Int) - 8) = (n : Int) - 8 := IntWalk.u64_in _ (by omega)
        have hlt : (n : Int) - 8 < (z : Int) := by omega
        go_enter Try.func67, Try.ntmps67
        go_wp2_with fail
        refine O1.out.mono ?_
        rintro e w' ⟨rfl, rfl⟩
        go_wp2
        go_ret3
        exact one_none (Below.refl _ _)
      · have hzm : 8 + z ≤ n := by omega
        have hcv : IntKind.u64.wrap ((n : Int) - 8) = (n : Int) - 8 := IntWalk.u64_in _ (by omega)
        have hlt : ¬ (n : Int) - 8 < (z : Int) := by omega
        have hu8 : IntKind.u64.wrap (8 + (z : Int)) = 8 + (z : Int) := IntWalk.u64_in _ (by omega)
        have g2 : (8 : Int) ≤ (c : Int) := by omega
        have g4 : 8 + (z : Int) ≤ (c : Int) := by omega
        have hal := frm_alike (b := b) (z := z) (by rw [HL.out]; exact hzm) HZ.out
        obtain ⟨pl, hpl⟩ : ∃ pl, pl = (b.drop 8).take z := ⟨_, rfl⟩
        have hone : one b = if frm pl ≠ b.take (8 + z) then (4, [], 0) else (0, pl, 8 + z) := by
          unfold one
          rw [if_neg (by have := HL.out; omega), ← HZ.out, if_neg hlong, if_neg (by have := HL.out; omega), ← hpl]
          rw [← hpl] at hal
          simp only [ne_eq, hal]
        have hpll : pl.length = z := by rw [hpl, List.length_take, List.length_drop, HL.out]; omega
        have RPL : Hid (Row w lo up (if c = 8 then A else A.map (·.add 8)) z (U pl)) := hid (by
          have r := (HR.out.drop (k := 8) (cap := c) (by omega) (by omega)).take (k := z) (by omega)
          rwa [U_drop, U_take, ← hpl] at r)
        have RB : Hid (Row w lo up A (8 + z) (U (b.take (8 + z)))) := hid (by
          have r := HR.out.take (k := 8 + z) (by omega)
          rwa [U_take] at r)
        have HONE := hid hone
        have HPLL := hid hpll
        clear hal hpl hone hpll
        obtain ⟨g, off, rfl⟩ : ∃ g off, A = some ⟨g, off, none⟩ := by
          obtain ⟨g, off, e, _⟩ := HR.out.2 (by omega)
          exact ⟨g, off, e⟩
        obtain ⟨y, hy⟩ : ∃ y, y = 8 + z := ⟨_, rfl⟩
        obtain ⟨tk, htk⟩ : ∃ tk, tk = b.take (8 + z) := ⟨_, rfl⟩
        obtain ⟨fr, hfr⟩ : ∃ fr, fr = frm pl := ⟨_, rfl⟩
        have hone := HONE.out
        rw [← hfr, ← htk] at hone
        have hfl : fr.length = y := by rw [hfr, frm_len, HPLL.out]; omega
        have RB2 := RB.out
        rw [← htk, ← hy] at RB2
        have RB3 := hid RB2
        have HFR := hid hfr
        have HFL := hid hfl
        have hy8 : 0 < y := by omega
        have hyz : (y : Int) = 8 + (z : Int) := by omega
        clear RB RB2 htk hfr hfl HONE
        have HD : Hid ((decide (fr = tk) = true ∧ one b = (0, pl, 8 + z)) ∨ (decide (fr = tk) = false ∧ one b = (4, [], 0))) := hid (by
          by_cases hs : fr = tk
          · rw [if_neg (by simp [hs])] at hone
            exact .inl ⟨by simp [hs], hone⟩
          · rw [if_pos hs] at hone
            exact .inr ⟨by simp [hs], hone⟩)
        clear hone
        rcases Nat.lt_or_ge 8 c with h8c | h8c
        case' inl =>
          have hc8 : ¬ c = 8 := by omega
          have hz8 : 8 + z - 8 = z := by omega
          have RPL2 : Hid (Row w lo up (some ⟨g, off + 8, none⟩) (8 + z - 8) (U pl)) := hid (by have := RPL.out; rw [if_neg hc8, Option.map_some, addr_add] at this; rw [hz8]; exact this)
          have HZ8 := hid hz8
          clear hz8
        case' inr =>
          obtain rfl : c = 8 := by omega
          have RPL2 : Hid (Row w lo up (some ⟨g, off, none⟩) z (U pl)) := hid (by have := RPL.out; rw [if_pos rfl] at this; exact this)
          obtain rfl : z = 0 := by omega
          have hy : y = 8 := by omega
        all_goals
          rcases HD.out with ⟨hdd, hone⟩ | ⟨hdd, hone⟩
        all_goals
          rw [hone]
          have HDD := hid hdd
          clear hone hdd HD
          go_enter Try.func67, Try.ntmps67
          go_wp2_with fail
          refine O1.out.mono ?_
          rintro e w' ⟨rfl, rfl⟩
          go_wp2_with (at_builtin; go_loud (refine wpList_append_row _ rfl _ _ 34 rfl w.heap.size 5 i0 (.int .u8 0) 1 Try.underlying34 hi hz0 hz1 hz2 rfl (.slice (some ⟨w.heap.size, 0, none⟩) 0 0) 0 [] rfl (World.ownsRow_made w #[] 0 (Nat.le_refl _) (by decide) rfl) lo up _ _ _ rfl (fun e => by cases e) (U pl) (RPL2.out.alloc hup _) (U_one _) (by unfold maxLen; omega) (by omega) (by simp) ?_); intro v2 w2 own2 grow2 at2)
          rw [List.nil_append, Nat.zero_add] at own2
          try rw [HZ8.out] at own2
          try rw [HZ8.out]
          obtain ⟨A2, c2, rfl, hA2, _⟩ := own_shape own2
          have hb2 : Below w.heap.size w w2 := ((Below.refl _ w).alloc (Nat.le_refl _) _).grown grow2 (by simp) (fun j hj => by simp [Value.ownBlock] at hj; omega)
          have HB2 := hid hb2
          have HO2 := hid own2
          have B2 := hid (rbytes7_any A2 _ c2 w.heap.size w2.heap.size pl w2 (Row.of_own own2) hA2 (Nat.le_refl _) (by omega))
          have HC2 := hid (own_caps own2)
          have HA2 := hid hA2
          clear own2 grow2 at2 hb2 hA2
          go_wp2_with fail
          refine B2.out.mono ?_
          rintro e w3 ⟨A3, n3, c3, rfl, hl3, hA3, hown3, hb3⟩
          have HB3 := hid (HB2.out.trans (hb3.mono HB2.out.size))
          have HO3 := hid (own_on HO2.out hb3)
          rw [← HFR.out] at hl3 hown3
          have hn3 : n3 = y := by rw [← hl3.out]; exact HFL.out
          subst hn3
          have CV1 : ∀ k, (convert 34 9 (.slice A3 n3 c3)).run Try.prog (w3.drewN k) = .ok (.string ⟨fr.toArray⟩) (w3.drewN k) := fun k => back_any ((Row.of_own hown3).drewN k) hy8
          have CV2 : ∀ q k, (convert 34 9 (.slice (some ⟨g, off, none⟩) n3 q)).run Try.prog (w3.drewN k) = .ok (.string ⟨tk.toArray⟩) (w3.drewN k) := fun q k => back_any ((RB3.out.below HB3.out hup).drewN k) hy8
          have HXY : Hid (((⟨fr.toArray⟩ : ByteArray).toList == (⟨tk.toArray⟩ : ByteArray).toList) = decide (fr = tk)) := hid (by rw [Lib.toList_data, Lib.toList_data, Bool.eq_iff_iff]; simp)
          generalize (⟨fr.toArray⟩ : ByteArray) = s1 at CV1 HXY
          generalize (⟨tk.toArray⟩ : ByteArray) = s2 at CV2 HXY
          clear hown3 hb3 hl3
          subst hy
          have hbe := HXY.out
          rw [HDD.out] at hbe
          all_goals
            go_wp2
            go_quiet (fail)
            go_wp2
            go_ret3
            first
              | exact one_none (below_drewN HB3.out _)
              | (refine ⟨A2, _, c2, by first | rfl | (simp; try omega), hid HPLL.out, HA2, ?_, below_drewN HB3.out _⟩
                 exact own_drewN HO3.out _)
end Go.Proofs.Ytchimkkpjdbdpaa
namespace Go.Proofs.Ytchimkkpjdbdpaa
set_option maxRecDepth 40000
open Go.RowKit Go.Joins Regs

set_option maxHeartbeats 2000000 in
set_option maxRecDepth 20000 in
theorem rscan_any (A : Option Addr) (n c lo up : Nat) (b : List UInt8) (w : World) (hR : Row w lo up A n (U b)) (hA : A = none → c = 0) (hup : up ≤ w.heap.size) (hc : n ≤ c ∧ c ≤ maxLen) (hn : n ≤ 300000) :
    Calls Try.prog 43 #[.slice A n c] w (ScanPost w b) := by
  obtain ⟨i0, hi, hz0, hz1, hz2⟩ := info_parts info_slice
  have hbl : b.length = n := by have := hR.len; rwa [U_len] at this
  have hcm : c ≤ 9223372036854775807 := by have := hc.2; unfold maxLen at this; exact this
  have HR := hid hR
  have HA := hid hA
  have HBL := hid hbl
  clear hR hA hbl
  go_enter Try.func43, Try.ntmps43
  go_wp2
  go_loopw [4, 5] (fun v i wr => ∃ (z : Nat) (xs : List Pay), z ≤ n ∧ i = .int .i64 (z : Int) ∧ Hid (b = flat (xs.map (·.p)) ++ b.drop z) ∧ Hid ((flat (xs.map (·.p))).length = z) ∧ Hid (∀ x ∈ xs, x.p.length ≤ 33554432) ∧ Hid (wr.ownsRow w.heap.size 34 1 v xs.length (xs.map Pay.v)) ∧ Hid (∀ x ∈ xs, Paid w.heap.size x wr) ∧ Hid (Below w.heap.size w wr)) (fun _ i _ => n - (intOf i).toNat)
  case atStart => exact ⟨0, [], Nat.zero_le _, rfl, hid (by simp [flat]), hid (by simp [flat]), hid (fun x hx => by cases hx), hid (World.ownsRow_nil _ _ _ _), hid (fun x hx => by cases hx), hid (Below.refl _ _)⟩
  case round =>
    obtain ⟨z, xs, hz, rfl, HB, HL, HP, HO, HPD, HBR⟩ := hrel
    have hd := HR.out.drop (k := z) (cap := c) hz hc.1
    rw [U_drop] at hd
    obtain ⟨rest, hrest⟩ : ∃ rest, rest = b.drop z := ⟨_, rfl⟩
    have HREST := hid hrest
    rw [← hrest] at hd
    have HD := hid hd
    have hb := HB.out
    rw [← hrest] at hb
    have HB2 := hid hb
    clear hd hb hrest HB
    have hmany : 8 * xs.length ≤ z := by have := flat_many (xs.map (·.p)); rw [List.length_map, HL.out] at this; exact this
    have hsz : w.heap.size ≤ wr.heap.size := HBR.out.size
    have HD2 : Hid (Row wr lo up (if c = z then A else A.map (·.add z)) (n - z) (U rest)) := hid (HD.out.below HBR.out hup)
    have hA2 : (if c = z then A else A.map (·.add z)) = none → c - z = 0 := fun e => by
      split at e
      · omega
      · cases A with
        | none => have := HA.out rfl; omega
        | some a => cases e
    have O1 := hid (rone_any (if c = z then A else A.map (·.add z)) (n - z) (c - z) lo up rest wr HD2.out hA2 (by omega) (by omega) ⟨by omega, by have := hc.2; omega⟩)
    clear hA2
    by_cases h0 : (one rest).1 = 0
    · obtain ⟨p, k, hone⟩ := one_zero h0
      clear h0
      obtain ⟨hp1, hk, hbs, hkl⟩ := one_ok hone
      have hrl : rest.length = n - z := by have := HD.out.len; rwa [U_len] at this
      rw [hone] at O1
      have hk2 : z + k ≤ n := by omega
      have hk8 : 8 ≤ k := by omega
      have HBS := hid hbs
      have HP1 := hid hp1
      have HKE := hid hk
      clear hone hbs hp1 hk hkl hrl
      rcases Nat.lt_or_ge z c with hzc | hzc
      case inr => omega
      have hzc2 : ¬ c = z := by omega
      rw [if_neg hzc2] at O1
      have hcz : ((c : Int) == (z : Int)) = false := by simp; omega
      go_wp2_with fail
      refine O1.out.mono ?_
      rintro e w2 ⟨A2, n2, c2, rfl, hl2, hA2, hown2, hb2⟩
      have HO2 := hid (own_on HO.out hb2)
      have HP2 := hid (show Paid w.heap.size ⟨p, A2, n2, c2⟩ w2 from ⟨hl2.out, hA2.out, ownsRow_le hown2 hsz⟩)
      have HPS := hid (fun x hx => pay_below (HPD.out x hx) hb2)
      have HB3 := hid (HBR.out.trans (hb2.mono hsz))
      have hs2 : w.heap.size ≤ w2.heap.size := HB3.out.size
      have one1 : ∀ u ∈ [Value.slice A2 n2 c2], u.oneCell' = true := by intro u hu; simp at hu; subst hu; rfl
      clear hown2 hb2 O1
      go_wp2_with (at_builtin; go_loud (refine wpList_append_row _ rfl _ _ 51 rfl w.heap.size 34 i0 (.slice none 0 0) 24 Try.underlying51 hi hz0 hz1 hz2 rfl _ xs.length _ rfl (HO2.out.alloc _) w2.heap.size (w2.heap.size + 1) (some ⟨w2.heap.size, 0, none⟩) 1 1 rfl (fun e => by cases e) [.slice A2 n2 c2] (row_one w2 _ _) one1 (by unfold maxLen; omega) (by omega) (by simp; omega) ?_); intro v' w3 own3 grow3 at3)
      have g3 : Below w.heap.size w w3 := (HB3.out.alloc hs2 _).grown grow3 (by simp; omega) (fun g hg => (HO2.out.lt g hg).1)
      refine ⟨⟨z + k, xs ++ [⟨p, A2, n2, c2⟩], hk2, by first | rfl | go_num, hid ?_, hid ?_, hid (fun x hx => ?_), hid ?_, hid (fun x hx => ?_), hid g3⟩, by simp [intOf]; omega⟩
      · rw [List.map_append, List.map_cons, List.map_nil, flat_snoc, List.append_assoc, ← List.drop_drop, ← HREST.out, ← HBS.out]
        exact HB2.out
      · rw [List.map_append, List.map_cons, List.map_nil, flat_len_snoc, HL.out, HKE.out]
        show z + (p.length + 8) = z + (8 + p.length)
        omega
      · rcases List.mem_append.1 hx with hx | hx
        · exact HP.out x hx
        · rw [List.mem_singleton] at hx
          subst hx
          exact HP1.out
      · rw [List.map_append, List.length_append]
        exact own3
      · rcases List.mem_append.1 hx with hx | hx
        · exact (HPS.out x hx).appended HO2.out (by decide) grow3
        · rw [List.mem_singleton] at hx
          subst hx
          exact HP2.out.appended HO2.out (by decide) grow3
    · obtain ⟨q, hq⟩ : ∃ q, q = (one rest).1 := ⟨_, rfl⟩
      have hr2 := one_code rest h0
      have hone : one rest = (q, [], 0) := by rw [hq, ← hr2]
      rw [hone] at O1
      have HSTOP := hid h0
      rw [← hq] at h0
      clear hone hr2 hq
      have hqb : (q != 0) = true := by simpa using h0
      have HSC : Hid (Scans b (xs.map (·.p)) rest) := hid ⟨HB2.out, fun x hx => by obtain ⟨y, hy, rfl⟩ := List.mem_map.1 hx; exact HP.out y hy, HSTOP.out⟩
      rcases Nat.lt_or_ge z c with hzc | hzc
      case' inl =>
        have hzc2 : ¬ c = z := by omega
        have hcz : ((c : Int) == (z : Int)) = false := by simp; omega
        rw [if_neg hzc2] at O1
      case' inr =>
        obtain rfl : c = z := by omega
        obtain rfl : c = n := by omega
        rw [if_pos rfl, Nat.sub_self] at O1
      all_goals
        go_wp2_with fail
        refine O1.out.mono ?_
        rintro e w2 ⟨A2, n2, c2, rfl, _, _, _, hb2⟩
        obtain ⟨A', c', rfl, hA', h1', h2', hbl⟩ := bl_of_paid (own_on HO.out hb2) (fun x hx => pay_below (HPD.out x hx) hb2)
        have HBE := hid (HBR.out.trans (hb2.mono hsz))
        have HBL2 := hid hbl
        have HA' := hid hA'
        clear hbl hA' hb2
        go_wp2
        go_ret2
        exact ⟨xs.map (·.p), rest, A', xs.length, c', xs.map Pay.v, by rw [HL.out]; rfl, HSC, HBL2, HA', h1', h2', HBE.out⟩
end Go.Proofs.Ytchimkkpjdbdpaa
