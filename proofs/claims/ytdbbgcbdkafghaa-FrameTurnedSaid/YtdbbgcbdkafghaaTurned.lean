/-
  The walk of FrameTurned.
-/
import Derived.Test.YtdbbgcbdkafghaaLives7
import Derived.Test.YtdbbgcbdkafghaaTurnedMath
namespace Go.Proofs.Ytdbbgcbdkafghaa
open Go.RowKit Go.Joins Regs

theorem Head.far {w : World} {g : Nat} {l : List UInt8} (h : Head w g l) {a : Addr} (hne : g ≠ a.block) (u : Value) : Head (w.setCell a u) g l := by
  obtain ⟨cur, h1, h2⟩ := h
  exact ⟨cur, h1.far hne u, h2⟩
theorem shr_byte32 (x : BitVec 32) (k : Nat) : IntKind.u8.wrap ((x >>> (8 * k)).toNat : Int) = ((byteAt (x.toNat : Int) k).toNat : Int) := by
  rw [byteAt_nat, IntKind.wrap_u8]
  simp only [BitVec.toNat_ushiftRight, Int.toNat_natCast]
  rw [Nat.shiftRight_eq_div_pow, pow256]
  omega
set_option maxHeartbeats 4000000 in
set_option maxRecDepth 20000 in
theorem turned_walk (A : Option Addr) (n c : Nat) (p : List UInt8) (at_ : Int) (bs other : BitVec 32) (w : World) (hR : Row w 0 w.heap.size A n (U p)) (hA : A = none → c = 0) :
    Calls Try.prog 6 #[.slice A n c, .int .i64 at_, V bs, V other] w fun e w' => e = .returned (.bool true) ∧ Below w.heap.size w w' := by
  have LV := hid (lives7_any w)
  have hl : p.length = n := by have := hR.len; rwa [U_len] at this
  have HL := hid hl
  have HR := hid hR
  have HA := hid hA
  clear hl hR hA
  by_cases hn : n ≤ 400
  case neg =>
    go_enter Try.func6, Try.ntmps6
    go_wp2_with fail
    refine LV.out.mono ?_
    rintro e w1 ⟨rfl, hb1⟩
    go_wp2
    go_ret
    exact ⟨rfl, hb1⟩
  obtain ⟨fr, hfr⟩ : ∃ fr, fr = frm p := ⟨_, rfl⟩
  have hfl : fr.length = n + 8 := by rw [hfr, frm_len, HL.out]
  have HFR := hid hfr
  have HFL := hid hfl
  clear hfr hfl
  go_enter Try.func6, Try.ntmps6
  go_wp2_with fail
  refine LV.out.mono ?_
  rintro e w1 ⟨rfl, hb1⟩
  have B1 := bytes7_any A n c 0 w.heap.size p w1 (HR.out.below hb1 (Nat.le_refl _)) HA.out hb1.size (by omega)
  rw [← HFR.out] at B1
  have B2 := hid B1
  have HB1 := hid hb1
  clear B1 hb1 LV
  go_wp2_with fail
  refine B2.out.mono ?_
  rintro e w2 ⟨A2, n2, c2, rfl, hl2, hA2, hown2, hb2⟩
  have hn2 : n2 = n + 8 := by have := hl2.out; rw [HFL.out] at this; exact this.symm
  subst hn2
  have RB := hid (Row.of_own hown2)
  have HB2 := hid (HB1.out.trans (hb2.mono HB1.out.size))
  clear hown2 hb2 B2 hl2
  have W1 := hid (own_any A2 (n + 8) c2 w1.heap.size w2.heap.size fr w2 RB.out hA2.out (Nat.le_refl _) (by omega))
  go_wp2_with fail
  refine W1.out.mono ?_
  rintro e w3 ⟨A3, n3, c3, rfl, hl3, hA3, hown3, hb3⟩
  have hn3 : n3 = n + 8 := by have := hl3.out; rw [HFL.out] at this; exact this.symm
  subst hn3
  have RB3 := hid (RB.out.below hb3 (Nat.le_refl _))
  have HB3 := hid (HB2.out.trans (hb3.mono HB2.out.size))
  have hz23 : w2.heap.size ≤ w3.heap.size := hb3.size
  have W2 := hid (own_any A2 (n + 8) c2 w1.heap.size w2.heap.size fr w3 RB3.out hA2.out hb3.size (by omega))
  have hcap3 := own_caps hown3
  obtain ⟨g3, hg3, hg3b, _, hd3⟩ := Head.of_own hown3 (by omega)
  have hg3lt := hd3.lt
  have HD3 := hid hd3
  clear hown3 hb3 W1 hl3 hd3
  go_wp2_with fail
  refine W2.out.mono ?_
  rintro e w4 ⟨A4, n4, c4, rfl, hl4, hA4, hown4, hb4⟩
  have hn4 : n4 = n + 8 := by have := hl4.out; rw [HFL.out] at this; exact this.symm
  subst hn4
  have HB4 := hid (HB3.out.trans (hb4.mono HB3.out.size))
  have RB4 := hid (RB3.out.below hb4 hz23)
  have hcap4 := own_caps hown4
  obtain ⟨g4, hg4, hg4b, _, hd4⟩ := Head.of_own hown4 (by omega)
  have HD3' := hid (HD3.out.below hb4)
  have HD4 := hid hd4
  have hz34 : w3.heap.size ≤ w4.heap.size := hb4.size
  subst hg3 hg4
  have hne : ¬ g3 = g4 := by omega
  have hgw3 : w.heap.size ≤ g3 := by have := HB2.out.size; omega
  have hgw4 : w.heap.size ≤ g4 := by have := HB3.out.size; omega
  have hb23 : w2.heap.size ≤ g3 := hg3b
  have hb24 : w2.heap.size ≤ g4 := by omega
  have HC3 := hid hcap3
  have HC4 := hid hcap4
  clear hown4 hb4 W2 HD3 hl4 hd4 hg3b hg4b hg3lt hz34 hz23 hcap3 hcap4 RB3 RB
  go_wp2
  go_loopw [13] (fun i wr => ∃ k : Nat, k ≤ 4 ∧ i = .int .i64 (k : Int) ∧ Head wr g4 (turnb other fr k) ∧ Head wr g3 fr ∧ Row wr w1.heap.size w2.heap.size A2 (n + 8) (U fr) ∧ Below w.heap.size w wr) (fun i _ => 4 - (intOf i).toNat)
  case atStart => exact ⟨0, Nat.zero_le _, rfl, HD4.out, HD3'.out, RB4.out, HB4.out⟩
  case round =>
    clear HD4 HD3' RB4 HB4
    obtain ⟨k, hk, rfl, h4, h3, hrb, hbel⟩ := hrel
    have HD4 := hid h4
    have HD3 := hid h3
    have RB := hid hrb
    have BB := hid hbel
    clear h4 h3 hrb hbel
    by_cases hlt : k < 4
    · obtain ⟨hc, hf⟩ := HD4.out.get (4 + k) (by rw [turnb_len, HFL.out]; omega)
      have HS : Hid (turnb other fr (k + 1) = (turnb other fr k).set (4 + k) ((turnb other fr k).getD (4 + k) 0 ^^^ byteAt (other.toNat : Int) k)) := hid rfl
      generalize (turnb other fr k).getD (4 + k) 0 = y at hc HS
      have h1 := shr_word other (8 * k)
      have h2 := shr_byte32 other k
      generalize (other >>> (8 * k)) = x at h1 h2
      generalize byteAt (other.toNat : Int) k = z at h2 HS
      have hxor := xor8 y z
      generalize y ^^^ z = yz at HS hxor
      have hw : IntKind.u64.wrap (8 * (k : Int)) = 8 * (k : Int) := by
        simp [IntKind.wrap, IntKind.bits, IntKind.signed]; omega
      have h8 : (8 * (k : Int)).toNat = 8 * k := by omega
      go_wp2_with fail
      have hgr : wr.grownBy (wr.setCell ⟨g4, 4 + k, none⟩ (.int .u8 (yz.toNat : Int))) (some g4) := only_set (only_of_below (Below.refl _ _) (some g4)) (4 + k) _
      refine ⟨⟨k + 1, by omega, by go_num, ?_, HD3.out.far (by show g3 ≠ g4; exact hne) _, RB.out.grown hgr (by have := HD4.out.lt; omega) (fun x hx => by injection hx with hx; omega), BB.out.setCell hgw4 _⟩, by simp [intOf]; omega⟩
      rw [HS.out]
      exact HD4.out.set (4 + k) yz
    · obtain rfl : k = 4 := by omega
      clear hlt hk
      have hlt4 := HD4.out.lt
      have O1 := one_any (some ⟨g4, 0, none⟩) (n + 8) c4 g4 (g4 + 1) (turnb other fr 4) wr (HD4.out.row (by rw [turnb_len, HFL.out])) (fun e => by cases e) hlt4 (by omega) HC4.out
      obtain ⟨r, hr⟩ : ∃ r, r = one (turnb other fr 4) := ⟨_, rfl⟩
      rw [← hr] at O1
      have hr1 : r.1 = if other = 0#32 then 0 else 4 := by rw [hr, HFR.out]; exact one_turned (by rw [HL.out]; omega) other
      have O2 := hid O1
      have HR1 := hid hr1
      clear O1 hr hr1 HD4
      go_wp2_with fail
      refine O2.out.mono ?_
      rintro e w5 ⟨A5, n5, c5, he, _, _, _, hb5⟩
      have HD5 := hid (HD3.out.below hb5)
      have RB5 := hid (RB.out.below hb5 (by omega))
      have BB5 := hid (BB.out.trans (hb5.mono BB.out.size))
      clear HD3 RB BB hb5 O2 hlt4
      rw [HR1.out] at he
      generalize r.2.2 = z5 at he
      clear HR1
      by_cases ho : other = 0#32
      case' pos =>
        rw [if_pos ho] at he
        have hbo : ((other.toNat : Int) == 0) = true := by rw [ho]; rfl
      case' neg =>
        rw [if_neg ho] at he
        have hbo : ((other.toNat : Int) == 0) = false := by
          rw [beq_eq_false_iff_ne]
          intro h
          exact ho (BitVec.eq_of_toNat_eq (by simpa using h))
      all_goals
        subst he
        have HO := hid ho
        clear ho
        by_cases hz : n = 0
        case pos =>
          subst hz
          go_wp2_with fail
          go_ret
          exact ⟨rfl, BB5.out⟩
        case neg =>
          have hpos : 0 < n := by omega
          obtain ⟨pp, hp, hp1⟩ : ∃ pp : Nat, at_ % (8 * (n : Int)) = (pp : Int) ∧ pp < 8 * n := ⟨(at_ % (8 * (n : Int))).toNat, by have := Int.emod_nonneg at_ (b := 8 * (n : Int)) (by omega); omega, by have := Int.emod_lt_of_pos at_ (b := 8 * (n : Int)) (by omega); omega⟩
          obtain ⟨hh, hhd⟩ : ∃ hh, hh = hed p (csum (hdr p ++ p)).toNat := ⟨_, rfl⟩
          have HHL : Hid (hh.length = 8) := hid (by rw [hhd]; exact hed_len _ _)
          have HFE : Hid (fr = hh ++ p) := hid (by rw [hhd, HFR.out]; exact frm_hed p)
          have HHD := hid hhd
          have P1 := hid (pick_wide at_ (8 * (n : Int)) pp w5 (by omega) (by omega) hp)
          clear hhd hp
          go_wp2_with fail
          refine P1.out.mono ?_
          rintro e w6 ⟨rfl, rfl⟩
          clear P1
          go_wp2
          go_loopw [17] (fun i wr => ∃ k : Nat, k ≤ 32 ∧ pp + k ≤ 8 * n ∧ i = .int .i64 (k : Int) ∧ Head wr g3 (hh ++ flipb pp bs p k) ∧ Row wr w1.heap.size w2.heap.size A2 (n + 8) (U fr) ∧ Below w.heap.size w wr) (fun i _ => 32 - (intOf i).toNat)
          case atStart => exact ⟨0, Nat.zero_le _, by omega, rfl, by have := HD5.out; rw [HFE.out] at this; exact this, RB5.out, BB5.out⟩
          case round =>
            clear HD5 RB5 BB5
            obtain ⟨k, hk, hk2, rfl, hd, hrb, hbel⟩ := hrel
            have HD := hid hd
            have RB := hid hrb
            have BB := hid hbel
            clear hd hrb hbel
            by_cases hlt : k < 32 ∧ pp + k < 8 * n
            · obtain ⟨hlt1, hlt2⟩ := hlt
              have h1 := shr_word bs k
              have HBIT := hid (bit_word bs k)
              obtain ⟨x, hx⟩ : ∃ x, x = bs >>> k := ⟨_, rfl⟩
              rw [← hx] at h1 HBIT
              clear hx
              have hw : IntKind.u64.wrap (k : Int) = (k : Int) := by
                simp [IntKind.wrap, IntKind.bits, IntKind.signed]; omega
              by_cases hodd : (x.toNat : Int) % 2 = 1
              · have hb : ((x.toNat : Int) % 2 == 1) = true := by simpa using hodd
                have HG : Hid (bs.getLsbD k = true) := hid (by have := HBIT.out; rw [hodd] at this; split at this <;> simp_all)
                clear hodd
                obtain ⟨j, hj⟩ : ∃ j, j = (pp + k) / 8 := ⟨_, rfl⟩
                obtain ⟨m, hm⟩ : ∃ m, m = (pp + k) % 8 := ⟨_, rfl⟩
                have hj1 : j < n := by omega
                have hm1 : m < 8 := by omega
                have q1 : ((pp : Int) + (k : Int)) / 8 = (j : Int) := by omega
                have q2 : ((pp : Int) + (k : Int)) % 8 = (m : Int) := by omega
                have q3 : ((pp : Int) + (k : Int)).tdiv 8 = (j : Int) := by rw [Int.tdiv_eq_ediv_of_nonneg (by omega)]; exact q1
                have q4 : ((pp : Int) + (k : Int)).tmod 8 = (m : Int) := by rw [Int.tmod_eq_emod_of_nonneg (by omega)]; exact q2
                have HJ := hid hj
                have HM := hid hm
                clear hj hm
                obtain ⟨hc, hf⟩ := HD.out.get (8 + j) (by rw [List.length_append, HHL.out, flipb_len, HL.out]; omega)
                have eg : (hh ++ flipb pp bs p k).getD (8 + j) 0 = (flipb pp bs p k).getD j 0 := by
                  rw [List.getD_eq_getElem?_getD, List.getElem?_append_right (by rw [HHL.out]; omega), HHL.out, Nat.add_sub_cancel_left, List.getD_eq_getElem?_getD]
                rw [eg] at hc
                have HS : Hid (hh ++ flipb pp bs p (k + 1) = (hh ++ flipb pp bs p k).set (8 + j) ((flipb pp bs p k).getD j 0 ^^^ UInt8.ofNat (2 ^ m))) := hid (by
                  rw [List.set_append_right _ _ (by rw [HHL.out]; omega), HHL.out, Nat.add_sub_cancel_left, HJ.out, HM.out]
                  simp only [flipb]
                  rw [if_pos HG.out])
                clear eg
                generalize (flipb pp bs p k).getD j 0 = y at hc HS
                have hsh : (2 : Int) ^ m % 256 = ((UInt8.ofNat (2 ^ m)).toNat : Int) := by
                  have : ∀ m : Fin 8, (2 : Int) ^ m.val % 256 = ((UInt8.ofNat (2 ^ m.val)).toNat : Int) := by decide
                  exact this ⟨m, hm1⟩
                have hxor := xor8 y (UInt8.ofNat (2 ^ m))
                generalize UInt8.ofNat (2 ^ m) = z at hsh HS hxor
                generalize y ^^^ z = yz at HS hxor
                have hw2 : IntKind.u64.wrap (m : Int) = (m : Int) := by
                  simp [IntKind.wrap, IntKind.bits, IntKind.signed]; omega
                go_wp2_with fail
                have hgr : wr.grownBy (wr.setCell ⟨g3, 8 + j, none⟩ (.int .u8 (yz.toNat : Int))) (some g3) := only_set (only_of_below (Below.refl _ _) (some g3)) (8 + j) _
                refine ⟨⟨k + 1, by omega, by omega, by go_num, ?_, RB.out.grown hgr (by have := HD.out.lt; omega) (fun x hx => by injection hx with hx; omega), BB.out.setCell hgw3 _⟩, by simp [intOf]; omega⟩
                rw [HS.out]
                exact HD.out.set (8 + j) yz
              · have hb : ((x.toNat : Int) % 2 == 1) = false := by simpa using hodd
                have HG : Hid (bs.getLsbD k = false) := hid (by have := HBIT.out; split at this <;> simp_all)
                clear hodd
                have HS : Hid (flipb pp bs p (k + 1) = flipb pp bs p k) := hid (by simp only [flipb]; rw [HG.out]; rfl)
                go_wp2_with fail
                go_roundw
                case rel => exact ⟨k + 1, by omega, by omega, by go_num, by rw [HS.out]; exact HD.out, RB.out, BB.out⟩
                case measure => simp [intOf]; omega
            · obtain ⟨cl, hcl⟩ : ∃ cl, cl = hh ++ flipb pp bs p k := ⟨_, rfl⟩
              have hcll : cl.length = n + 8 := by rw [hcl, List.length_append, HHL.out, flipb_len, HL.out]; omega
              have hdc : Head wr g3 cl := by rw [hcl]; exact HD.out
              have hltg := hdc.lt
              have hone : (one cl).1 = 0 ↔ fr = cl := by
                have := one_flipped (p := p) (by rw [HL.out]; omega) pp bs k hk (by rw [HL.out]; exact hk2)
                rw [← HHD.out, ← hcl, ← HFR.out] at this
                exact this
              have O1 := one_any (some ⟨g3, 0, none⟩) (n + 8) c3 g3 (g3 + 1) cl wr (hdc.row hcll) (fun e => by cases e) hltg (by omega) HC3.out
              obtain ⟨r, hr⟩ : ∃ r, r = one cl := ⟨_, rfl⟩
              rw [← hr] at O1 hone
              have O2 := hid O1
              have HONE := hid hone
              have RC := hid (hdc.row hcll)
              have HLG := hid hltg
              clear O1 hr hone hcl hcll hdc hltg HD
              have h32 : k < 32 ∨ ¬ k < 32 := by omega
              rcases h32 with h32 | h32
              case' inl =>
                have h33 : ¬ pp + k < 8 * n := by omega
              all_goals
                go_wp2_with fail
                refine O2.out.mono ?_
                rintro e w7 ⟨A7, n7, c7, he, _, _, _, hb7⟩
                have BB7 := hid (BB.out.trans (hb7.mono BB.out.size))
                have SM := same_any A2 (some ⟨g3, 0, none⟩) (n + 8) (n + 8) c2 c3 _ _ _ _ fr cl w7 (RB.out.below hb7 (by have := HLG.out; omega)) (RC.out.below hb7 HLG.out) (by omega)
                clear hb7 O2 BB RB
                generalize r.2.2 = z7 at he
                by_cases hs : fr = cl
                · rw [decide_eq_true hs] at SM
                  have hr0 : r.1 = 0 := HONE.out.2 hs
                  rw [hr0] at he
                  subst he
                  have SM2 := hid SM
                  have HSS := hid hs
                  clear SM hs hr0
                  go_wp2_with fail
                  refine SM2.out.mono ?_
                  rintro e w8 ⟨rfl, kk, rfl⟩
                  go_wp2
                  go_ret
                  exact ⟨rfl, below_drewN BB7.out kk⟩
                · rw [decide_eq_false hs] at SM
                  have hr0 : ¬ r.1 = 0 := fun h => hs (HONE.out.1 h)
                  generalize r.1 = r1 at he hr0
                  subst he
                  have hrb : (r1 == 0) = false := by simpa using hr0
                  have SM2 := hid SM
                  have HSS := hid hs
                  clear SM hs
                  go_wp2_with fail
                  refine SM2.out.mono ?_
                  rintro e w8 ⟨rfl, kk, rfl⟩
                  go_wp2
                  go_ret
                  exact ⟨rfl, below_drewN BB7.out kk⟩
end Go.Proofs.Ytdbbgcbdkafghaa
