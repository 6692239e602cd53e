/-
  The walk of WalAny.
-/
import Derived.Test.YtchimkkpjdbdpaaWalNames
import Derived.Test.YtchimkkpjdbdpaaRWal
import Derived.Test.YtchimkkpjdbdpaaRecsEq
namespace Go.Proofs.Ytchimkkpjdbdpaa
set_option maxRecDepth 40000
open Go.RowKit Go.Joins Go.Maps Dsk Regs

theorem clone_live {W : World} {d : Nat} {F : List Nat} {D : Dk} {k : Nat} (hD : DAt W d F D) (f : Fit D k) (hk : k < 100000) : Calls Try.prog 24 #[ptr d] W fun e W' => ∃ c G, e = .returned (ptr c) ∧ DAt W' c G D ∧ (∀ b ∈ G, W.heap.size ≤ b) ∧ Below W.heap.size W W' := at_clone hD f hk
theorem wscan_two {b : List UInt8} {xs ys : List RP} (h : WScans b (xs.map RP.r)) (h2 : WScans b (ys.map RP.r)) : decide (xs.map RP.r = ys.map RP.r) = true := decide_eq_true (wscans_unique h h2)
theorem log_end {b : List UInt8} {rs : List Rec} (h : WScans b rs) : WScans (logB rs) rs := by
  refine wscans_log (wscans_chain h) (wscans_first h).2.2
set_option maxHeartbeats 8000000 in
theorem walAny_walk (A : Option Addr) (n c : Nat) (b : List UInt8) (q : Int) (w : World) (hR : Row w 0 w.heap.size A n (U b)) (hA : A = none → c = 0) (hc : n ≤ c ∧ c ≤ maxLen) : Calls Try.prog 4 #[.slice A n c, .int .i64 q] w fun e w' => e = .returned (.bool true) ∧ Below w.heap.size w w' := by
  have LV := hid (lives_any w)
  have hbl : b.length = n := by have := hR.len; rwa [U_len] at this
  have HBL := hid hbl
  have HR : Hid (∀ W, Below w.heap.size w W → Row W 0 w.heap.size A n (U b)) := hid fun W h => hR.below h (Nat.le_refl _)
  have HA := hid hA
  clear hR hA hbl
  by_cases hn : 400 < n
  · go_enter Try.func4, Try.ntmps4
    go_wp2_with fail
    refine LV.out.mono ?_
    rintro e w1 ⟨rfl, hb1⟩
    have HB1 := hid hb1
    clear hb1
    go_wp2
    go_ret
    exact ⟨rfl, HB1.out⟩
  go_enter Try.func4, Try.ntmps4
  go_wp2_with fail
  refine LV.out.mono ?_
  rintro e w1 ⟨rfl, hb1⟩
  have HB1 := hid hb1
  have Z1 : w.heap.size ≤ w1.heap.size := hb1.size
  have OW := hid (own_any A n c 0 w.heap.size b w1 (HR.out w1 hb1) HA.out hb1.size (by omega))
  clear hb1 LV
  go_wp2_with fail
  refine OW.out.mono ?_
  rintro e w2 ⟨A2, n2, c2, rfl, hl2, hA2, hown2, hb2⟩
  have hn2 : n2 = n := by rw [← hl2.out, HBL.out]
  subst hn2
  obtain ⟨hc2, hc2'⟩ := own_caps hown2
  have SC := hid (wscan_any A2 n2 c2 w1.heap.size w2.heap.size b w2 (Row.of_own hown2) hA2.out (Nat.le_refl _) ⟨hc2, hc2'⟩ (by omega))
  have HB2 := hid (HB1.out.trans (hb2.mono Z1))
  clear hown2 hb2 hA2 hl2 OW HB1
  go_wp2_with fail
  refine SC.out.mono ?_
  rintro e w3 ⟨xs, v3, rfl, hS3, hown3, hbod3, hb3⟩
  have Z2 : w.heap.size ≤ w2.heap.size := HB2.out.size
  have HB3 := hid (HB2.out.trans (hb3.mono Z2))
  have HRL3 := hid (rl_own hown3 hbod3.out)
  have Z3 : w.heap.size ≤ w3.heap.size := HB3.out.size
  have RS := hid (rwscan_any A n2 c 0 w.heap.size b w3 (HR.out w3 HB3.out) HA.out Z3 hc (by omega))
  clear hown3 hbod3 hb3 SC HB2 hc2 hc2'
  go_wp2_with fail
  refine RS.out.mono ?_
  rintro e w4 ⟨ys, v4, rfl, hS4, hown4, hbod4, hb4⟩
  have HB4 := hid (HB3.out.trans (hb4.mono Z3))
  have HRL4 := hid (rl_own hown4 hbod4.out)
  have Z34 : w3.heap.size ≤ w4.heap.size := hb4.size
  have HRL3' := hid (HRL3.out.below hb4 (Nat.le_refl _))
  have HRL3x := hid HRL3'.out
  have EQ := wscan_two hS3.out hS4.out
  have REQ := recs_any v3 v4 _ _ _ _ xs ys w4 HRL3'.out HRL4.out Z34 (Nat.le_refl _)
  unfold RecsPost at REQ
  rw [EQ] at REQ
  have HREQ := hid REQ
  have hlz : logB (xs.map RP.r) = logB (ys.map RP.r) := by rw [of_decide_eq_true EQ]
  rw [hlz]
  obtain ⟨z, hz⟩ : ∃ z, z = (logB (ys.map RP.r)).length := ⟨_, rfl⟩
  rw [← hz]
  have HZ := hid hz
  have CO : Hid (∀ W, Calls Try.prog 15 #[.int .i64 q] W fun e w' => e = .returned (.int .i64 (wcost q)) ∧ w' = W) := hid fun W => wcost_any q W
  have RCO : Hid (∀ W, Calls Try.prog 20 #[.int .i64 q] W fun e w' => e = .returned (.int .i64 (wcost q)) ∧ w' = W) := hid fun W => rcost_any q W
  obtain ⟨cq, hcq⟩ : ∃ cq, cq = wcost q := ⟨_, rfl⟩
  rw [← hcq] at CO RCO
  have HYS := hid hS4.out
  clear hcq REQ EQ hlz hz hown4 hbod4 hb4 RS HRL3 HB3 HRL3'
  obtain ⟨A3, c3, rfl, _⟩ := HRL3x.out.shape
  obtain ⟨A4, c4, rfl, _⟩ := HRL4.out.shape
  have Z4 : w.heap.size ≤ w4.heap.size := HB4.out.size
  clear hS3 hS4
  go_wp2_with fail
  refine HREQ.out.mono ?_
  rintro e w5 ⟨rfl, hb5⟩
  have HB5 := hid (HB4.out.trans (hb5.mono Z4))
  have HR5 := hid (HRL4.out.below hb5 (Nat.le_refl _))
  have Z45 : w4.heap.size ≤ w5.heap.size := hb5.size
  clear hb5 HREQ
  go_wp2_with fail
  refine (CO.out _).mono ?_
  rintro e w' ⟨rfl, rfl⟩
  go_wp2_with fail
  refine (RCO.out _).mono ?_
  rintro e w' ⟨rfl, rfl⟩
  have NW := hid (new_log w' 1000 (by omega) (by omega))
  clear CO RCO
  go_wp2_with fail
  refine NW.out.mono ?_
  rintro e w6 ⟨d, F6, rfl, L6⟩
  have Z5 : w.heap.size ≤ w'.heap.size := HB5.out.size
  have AP := L6.append (by omega) logN log_len w.heap.size A n2 c b ⟨0, HR.out w6 (HB5.out.trans (L6.below.mono Z5)), Nat.le_trans Z5 L6.below.size, fun b hb => .inr (Nat.le_trans Z5 (L6.new b hb)), HA.out, hc⟩
  rw [append_ND b (by rw [HBL.out]; omega)] at AP
  have HAP := hid AP
  clear AP NW L6
  go_wp2_with fail
  rw [S_log]
  refine HAP.out.mono ?_
  rintro e w7 ⟨rfl, F7, L7, _⟩
  have SY := L7.sync logN log_len
  rw [sync_one] at SY
  have HSY := hid SY
  clear SY HAP L7
  go_wp2_with fail
  rw [S_log]
  refine HSY.out.mono ?_
  rintro e w8 ⟨rfl, F8, L8, _⟩
  have OP := hid (open_log (w := w') (W := w8) L8.below.size L8.below L8.at_ L8.fit L8.new (by rw [HBL.out]; omega))
  have HLT8 := hid L8.lt
  have Z58 : w'.heap.size ≤ w8.heap.size := L8.below.size
  clear HSY L8
  go_wp2_with fail
  refine OP.out.mono ?_
  rintro e w9 ⟨rs, g, F9, v9, us, m9, hs9, rfl, hx9, hl9, hm9, hm9', L9, hT9, hF9, hg9⟩
  have hrs : rs = ys.map RP.r := wscans_unique hs9 HYS.out
  have HRS := hid hrs
  have HL9 := hid L9
  have HU9 := hid hl9.out
  have HX9 := hid hx9.out
  have HF9 := hid hF9
  obtain ⟨A9, c9, rfl, _⟩ := hl9.out.shape
  have R9 := hid (HR5.out.below L9.below Z45)
  have REQ9 := recs_any _ _ _ _ _ _ us ys w9 hl9.out R9.out hm9' (Nat.le_trans Z45 L9.below.size)
  unfold RecsPost at REQ9
  rw [decide_eq_true (by rw [hx9.out, hrs])] at REQ9
  have HREQ9 := hid REQ9
  have e9 := eql_ptr w9 g
  clear OP hs9 hrs L9 hx9 hl9 hT9 hF9 REQ9
  go_wp2_with fail
  refine HREQ9.out.mono ?_
  rintro e w10 ⟨rfl, hb10⟩
  have L10 := HL9.out.then hb10
  have SZ := at_size L10.log.at_ logN log_len
  rw [dsize_log, if_neg (by rw [get_LD]; simp), wSize_LD, HRS.out, ← HZ.out] at SZ
  have HSZ := hid SZ
  have HL10 := hid L10
  have HU10 := hid (HU9.out.below hb10 hm9')
  have Z9t : m9 ≤ w10.heap.size := Nat.le_trans hm9' hb10.size
  clear SZ L10 hb10 HREQ9 e9
  go_wp2_with fail
  rw [S_log]
  refine HSZ.out.mono ?_
  rintro e w11 ⟨rfl, hb11⟩
  have HL11 := hid (HL10.out.then hb11)
  have HU11 := hid (HU10.out.below hb11 Z9t)
  have Z11 : m9 ≤ w11.heap.size := Nat.le_trans Z9t hb11.size
  have CL := hid (clone_live HL11.out.log.at_ HL11.out.fit (by omega))
  clear HSZ HL10 HU10 hb11 HL9 HU9
  go_wp2_with fail
  refine CL.out.mono ?_
  rintro e w12 ⟨cl, G, rfl, hC12, hG12, hb12⟩
  have L12 := HL11.out.then hb12
  have HU12 := hid (HU11.out.below hb12 Z11)
  have Z12 : m9 ≤ w12.heap.size := Nat.le_trans Z11 hb12.size
  have OP2 := hid (open_log (w := w') (W := w12) L12.below.size L12.below L12.log.at_ L12.fit L12.new (by
    have h1 := (wscans_first HYS.out).2.1
    have h2 := HBL.out
    show (logB rs).length ≤ _
    rw [HRS.out]
    omega))
  have HL12 := hid L12
  have HC12 := hid hC12
  have HG12 : Hid (∀ b ∈ G, b ∉ F9) := hid fun b hb hm => by have := hG12 b hb; have := HL11.out.log.at_.lt b hm; omega
  have HSH : Hid (WScans (logB rs) rs) := hid (by rw [HRS.out]; exact log_end HYS.out)
  have HF12 : Hid (∀ i ∈ F9, i < w8.heap.size ∨ m9 ≤ i) := hid fun i hi => (HF9.out i hi).imp (fun h => HLT8.out i h) id
  clear CL HL11 HU11 hb12 L12 hC12 hG12
  go_wp2_with fail
  refine OP2.out.mono ?_
  rintro e w13 ⟨rs2, g2, F13, v13, us2, m13, hs13, rfl, hx13, hl13, hm13, hm13', L13, hT13, hF13, hg13⟩
  obtain rfl : rs = rs2 := wscans_unique HSH.out hs13
  have HU13 := hid (HU12.out.touch hT13 Z12 HF12.out)
  have hC13 : DAt w13 cl G (LD 1000 (logB rs)) := HC12.out.touch hT13 HG12.out
  have hW13 : WB w13 g d (nextOf rs) false := Blk.touch HL12.out.log.blk hT13 HL12.out.log.off
  have Z9w : m9 ≤ w13.heap.size := Nat.le_trans Z12 hT13.size
  have REQ13 := recs_any _ _ _ _ _ _ us us2 w13 HU13.out hl13.out Z9w hm13'
  unfold RecsPost at REQ13
  rw [decide_eq_true (by rw [HX9.out, hx13.out])] at REQ13
  have HREQ13 := hid REQ13
  have hoff : g ∉ F13 := fun hm => by
    rcases hF13 g hm with h | h
    · exact HL12.out.log.off h
    · have := Blk.lt HL12.out.log.blk; omega
  have HL13 := hid L13
  have HL1 : Hid (LLog w' w13 g d F13 ⟨LD 1000 (logB rs), nextOf rs, false⟩ 4) := hid ⟨⟨hW13, L13.log.at_, hoff⟩, L13.fit.mono (by omega), L13.new, HL12.out.newg, L13.below⟩
  have HC13 := hid hC13
  have HCF : Hid (Fit (LD 1000 (logB rs)) 4) := hid (L13.fit.mono (by omega))
  obtain ⟨A13, c13, rfl, _⟩ := hl13.out.shape
  have e13 : (binOp .neq 23 (ptr g2) (.pointer none)).run Try.prog w13 = .ok (.bool true) w13 := by kernel_rfl
  clear OP2 hs13 hx13 hl13 hm13 hm13' L13 hT13 hF13 hg13 HU12 HU13 hC13 hW13 REQ13 hoff HL12 HC12
  go_wp2_with fail
  refine HREQ13.out.mono ?_
  rintro e w14 ⟨rfl, hb14⟩
  have HL14 := hid (HL13.out.then hb14)
  have HL14' := hid (HL1.out.then hb14)
  have SM := at_same HL14.out.log.at_ (HC13.out.below hb14) HCF.out HCF.out
  rw [decide_eq_true rfl] at SM
  have HSM := hid SM
  clear hb14 HREQ13 SM HL13 HL1 HC13 e13
  go_wp2_with fail
  refine HSM.out.mono ?_
  rintro e w15 ⟨rfl, hb15⟩
  have HL15 := hid (HL14.out.then hb15)
  have HL15' := hid (HL14'.out.then hb15)
  have N1 := hid (next_w HL15.out.blk)
  have N2 := hid (next_w HL15'.out.blk)
  have S1 := hid HL15.out.size
  obtain ⟨nx, hnx⟩ : ∃ nx, nx = nextOf rs := ⟨_, rfl⟩
  obtain ⟨zz, hzz⟩ : ∃ zz, zz = wSize (LD 1000 (logB rs)) := ⟨_, rfl⟩
  have HZZ := hid hzz
  replace N1 : Hid (Calls Try.prog 14 #[ptr g2] w15 fun e w' => e = .returned (.int .u64 (nx : Int)) ∧ w' = w15) := hid (by rw [hnx]; exact N1.out)
  replace N2 : Hid (Calls Try.prog 14 #[ptr g] w15 fun e w' => e = .returned (.int .u64 (nx : Int)) ∧ w' = w15) := hid (by rw [hnx]; exact N2.out)
  replace S1 : Hid (Calls Try.prog 26 #[ptr g2] w15 fun e w' => e = .returned (.int .i64 (zz : Int)) ∧ Below w15.heap.size w15 w') := hid (by rw [hzz]; exact S1.out)
  clear hb15 HSM HL14 HL14' hnx hzz
  go_wp2_with fail
  refine N1.out.mono ?_
  rintro e wx ⟨rfl, rfl⟩
  go_wp2_with fail
  refine N2.out.mono ?_
  rintro e wx ⟨rfl, rfl⟩
  go_wp2_with fail
  refine S1.out.mono ?_
  rintro e w16 ⟨rfl, hb16⟩
  have HL16 := hid (HL15'.out.then hb16)
  have S2 : Hid (Calls Try.prog 26 #[ptr g] w16 fun e w' => e = .returned (.int .i64 (zz : Int)) ∧ Below w16.heap.size w16 w') := hid (by rw [HZZ.out]; exact HL16.out.size)
  clear hb16 S1 N1 N2 HL15 HL15'
  go_wp2_with fail
  refine S2.out.mono ?_
  rintro e w17 ⟨rfl, hb17⟩
  have HL17 := hid (HL16.out.then hb17)
  clear hb17 S2 HL16
  go_wp2
  go_ret
  exact ⟨rfl, HB5.out.trans (HL17.out.below.mono Z5)⟩
end Go.Proofs.Ytchimkkpjdbdpaa
