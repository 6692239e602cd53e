/-
  The walk of DrawFew over its words.
-/
import Derived.Test.YtjnbdlbgfgdopaaDrawFew
namespace Go.Proofs.Ytjnbdlbgfgdopaa
set_option maxRecDepth 40000
set_option linter.unusedVariables false
open Go.RowKit

theorem few_light (A B : Option Addr) (len cap blen bcap : Nat) (n k : Int) (w : World) (h : 300 < len ∨ 300 < blen) :
    Calls Try.prog 7 #[.slice A len cap, .int .i64 n, .int .i64 k, .slice B blen bcap] w fun e w' => e = .returned (.bool true) ∧ Below w.heap.size w w' := by
  have W0 := hid (lives_any w)
  by_cases hl : 300 < len
  · clear h
    go_enter Try.func7, Try.ntmps7
    go_wp2_with fail
    refine W0.out.mono ?_
    rintro e w0 ⟨rfl, hb0⟩
    go_wp2
    go_ret
    exact ⟨rfl, hb0⟩
  · have hb : 300 < blen := by omega
    clear h
    go_enter Try.func7, Try.ntmps7
    go_wp2_with fail
    refine W0.out.mono ?_
    rintro e w0 ⟨rfl, hb0⟩
    go_wp2
    go_ret
    exact ⟨rfl, hb0⟩
set_option maxHeartbeats 1600000 in
theorem few_walk (A B : Option Addr) (len cap blen bcap : Nat) (l b : List Int) (n k : Int) (w : World) (h : Row w 0 w.heap.size A len (IK .u64 l)) (hwf : ∀ x ∈ l, 0 ≤ x ∧ x ≤ 18446744073709551615) (hA : A = none → cap = 0) (hcap : len ≤ cap)
    (h' : Row w 0 w.heap.size B blen (IK .u64 b)) (hwf' : ∀ x ∈ b, 0 ≤ x ∧ x ≤ 18446744073709551615) (hB : B = none → bcap = 0) :
    Calls Try.prog 7 #[.slice A len cap, .int .i64 n, .int .i64 k, .slice B blen bcap] w fun e w' => e = .returned (.bool true) ∧ Below w.heap.size w w' := by
  by_cases hl : 300 < len ∨ 300 < blen
  · exact few_light A B len cap blen bcap n k w hl
  have W0 := hid (lives_any w)
  have hl1 : len ≤ 300 := by omega
  have hl2 : blen ≤ 300 := by omega
  obtain ⟨N0, hN0⟩ := Int.eq_ofNat_of_zero_le (Int.emod_nonneg n (show (60 : Int) ≠ 0 by omega))
  have hN1 : N0 < 60 := by have := Int.emod_lt_of_pos n (show (0 : Int) < 60 by omega); omega
  obtain ⟨N, hN⟩ : ∃ N, N = N0 + 1 := ⟨_, rfl⟩
  have hN2 : 1 ≤ N := by omega
  have hN3 : N ≤ 60 := by omega
  obtain ⟨K, hK0⟩ := Int.eq_ofNat_of_zero_le (Int.emod_nonneg k (show ((N : Int) + 1) ≠ 0 by omega))
  have hK1 : K ≤ N := by have := Int.emod_lt_of_pos k (show (0 : Int) < (N : Int) + 1 by omega); omega
  have cn := fun W => pick_at n 60 _ W (by omega) (by omega) hN0
  have ck := fun W => pick_at k ((N : Int) + 1) _ W (by omega) (by omega) hK0
  have e1 : (1 : Int) + (N0 : Int) = (N : Int) := by omega
  clear hN0 hK0 hN hN1 hl
  by_cases hKl : len < K
  · clear h h'
    go_enter Try.func7, Try.ntmps7
    go_wp2_with fail
    refine W0.out.mono ?_
    rintro e w0 ⟨rfl, hb0⟩
    go_wp2_with fail
    refine (cn _).mono ?_
    rintro e w1 ⟨rfl, rfl⟩
    go_wp2_with fail
    refine (ck _).mono ?_
    rintro e w2 ⟨rfl, rfl⟩
    go_wp2
    go_ret
    exact ⟨rfl, hb0⟩
  · have hKl : K ≤ len := by omega
    have hR : Row w 0 w.heap.size A K (IK .u64 (l.take K)) := by
      have := h.take hKl
      unfold IK at this ⊢
      rwa [← List.map_take] at this
    have HL : Hid ((l.take K).length = K) := by
      have := hR.len
      rwa [IK_len] at this
    have HLW : Hid (∀ x ∈ l.take K, 0 ≤ x ∧ x ≤ 18446744073709551615) := fun x hx => hwf x (List.mem_of_mem_take hx)
    have hKc : K ≤ cap := by omega
    have HA := hid hA
    have HB := hid hB
    have HH := hid h'
    have HWB := hid hwf'
    clear h hwf h' hwf' hA hB
    generalize l.take K = L at *
    go_enter Try.func7, Try.ntmps7
    go_wp2_with fail
    refine W0.out.mono ?_
    rintro e w0 ⟨rfl, hb0⟩
    go_wp2_with fail
    refine (cn _).mono ?_
    rintro e w1 ⟨rfl, rfl⟩
    go_wp2_with fail
    refine (ck _).mono ?_
    rintro e w2 ⟨rfl, rfl⟩
    go_wp2_with fail
    have hR0 := hR.below hb0 (Nat.le_refl _)
    have hs0 := hb0.size
    refine (ownU A K cap 0 w.heap.size L w0 hR0 HA.out hs0 (by omega)).mono ?_
    rintro e w3 ⟨v3, rfl, own3, hb3⟩
    have HB0 := hid hb0
    have HR0 := hid hR0
    clear hR hR0 hb0
    go_wp2
    go_loopw [10] (fun i wr => ∃ j : Nat, j ≤ K ∧ i = .int .i64 j ∧ wr.ownsRow w0.heap.size 27 1 v3 K (IK .u64 (mixL (moreF N) L j)) ∧ Below w0.heap.size w0 wr) (fun i _ => K - (intOf i).toNat)
    case atStart => exact ⟨0, Nat.zero_le _, rfl, by rw [mix_none]; exact own3, hb3⟩
    case round =>
      obtain ⟨j, hj, rfl, hown, hb⟩ := hrel
      by_cases hlt : j < K
      · obtain ⟨g, c, rfl, hg, hg2, hKc3, hcell, hfz, hset⟩ := own_at hown hlt
        rw [mix_at] at hcell
        have hx0 : 0 ≤ L.getD j 0 := by
          rw [List.getD_eq_getElem?_getD, List.getElem?_eq_getElem (by rw [HL.out]; exact hlt)]
          exact (HLW.out _ (List.getElem_mem _)).1
        obtain ⟨y, hy⟩ := Int.eq_ofNat_of_zero_le (Int.emod_nonneg (L.getD j 0) (show (1099511627776 : Int) ≠ 0 by omega))
        have hy2 : (y : Int) < 1099511627776 := by have := Int.emod_lt_of_pos (L.getD j 0) (show (0 : Int) < 1099511627776 by omega); omega
        have hm : (L.getD j 0).tmod 1099511627776 = (y : Int) := by rw [Int.tmod_eq_emod_of_nonneg hx0]; exact hy
        obtain ⟨z, hz⟩ : ∃ z, z = (N - j) * (j + 1) := ⟨_, rfl⟩
        have hz2 : z ≤ 3600 := by rw [hz]; exact Nat.mul_le_mul (show N - j ≤ 60 by omega) (show j + 1 ≤ 60 by omega)
        have hmul : ((N : Int) - (j : Int)) * ((j : Int) + 1) = (z : Int) := by
          rw [hz, show (N : Int) - (j : Int) = ((N - j : Nat) : Int) by omega, show (j : Int) + 1 = ((j + 1 : Nat) : Int) by omega, ← Int.natCast_mul]
        have HS : Hid ((wr.setCell ⟨g, j, none⟩ (.int .u64 ((y : Int) + (z : Int)))).ownsRow w0.heap.size 27 1 (.slice (some ⟨g, 0, none⟩) K c) K (IK .u64 (mixL (moreF N) L (j + 1)))) := by
          have h9 := hset ((y : Int) + (z : Int))
          have e9 : (y : Int) + (z : Int) = moreF N j (L.getD j 0) := by unfold moreF; rw [hy, hz, Int.natCast_mul]
          rw [e9, mix_succ] at h9
          rw [e9]
          exact h9
        have HB9 : Hid (Below w0.heap.size w0 (wr.setCell ⟨g, j, none⟩ (.int .u64 ((y : Int) + (z : Int))))) := hb.setCell hg _
        have HY := hid hy
        clear hset hz hx0 hown hb hy
        generalize L.getD j 0 = X at *
        go_wp2
        exact ⟨⟨j + 1, by omega, by go_num, HS.out, HB9.out⟩, by simp [intOf]; omega⟩
      · obtain rfl : j = K := by omega
        have HO4 := hid hown
        have HB4 := hid hb
        have hR4 := HR0.out.below hb hs0
        have hs4 := hb.size
        clear hown hb
        generalize wr = w4 at *
        go_wp2_with fail
        refine (ownU A j cap 0 w.heap.size L w4 hR4 HA.out (Nat.le_trans hs0 hs4) (by omega)).mono ?_
        rintro e w5 ⟨v5, rfl, own5, hb5⟩
        have HO5 : Hid (w5.ownsRow w0.heap.size 27 1 v3 j (IK .u64 (mixL (moreF N) L j))) := hid (own_touched HO4.out (touch_below hb5 []) (fun g hg hm => by cases hm))
        have HB5 := hid (HB4.out.trans (hb5.mono hs4))
        have HV3 : Hid (∀ g, v3.ownBlock = some g → g < w4.heap.size) := fun g hg => (HO4.out.lt g hg).2
        clear hR4
        go_wp2
        go_loopw [12] (fun i wq => ∃ p : Nat, p ≤ j ∧ i = .int .i64 p ∧ wq.ownsRow w4.heap.size 27 1 v5 j (IK .u64 (mixL lowF L p)) ∧ Below w4.heap.size w5 wq) (fun i _ => j - (intOf i).toNat)
        case atStart => exact ⟨0, Nat.zero_le _, rfl, by rw [mix_none]; exact own5, Below.refl _ _⟩
        case round =>
          obtain ⟨p, hp, rfl, hown, hb⟩ := hrel
          by_cases hlt : p < j
          · obtain ⟨g, c, rfl, hg, hg2, hKc3, hcell, hfz, hset⟩ := own_at hown hlt
            rw [mix_at] at hcell
            have hx0 : 0 ≤ L.getD p 0 := by
              rw [List.getD_eq_getElem?_getD, List.getElem?_eq_getElem (by rw [HL.out]; exact hlt)]
              exact (HLW.out _ (List.getElem_mem _)).1
            obtain ⟨y, hy⟩ := Int.eq_ofNat_of_zero_le (Int.emod_nonneg (L.getD p 0) (show (1099511627776 : Int) ≠ 0 by omega))
            have hm : (L.getD p 0).tmod 1099511627776 = (y : Int) := by rw [Int.tmod_eq_emod_of_nonneg hx0]; exact hy
            have HS : Hid ((wr.setCell ⟨g, p, none⟩ (.int .u64 (y : Int))).ownsRow w4.heap.size 27 1 (.slice (some ⟨g, 0, none⟩) j c) j (IK .u64 (mixL lowF L (p + 1)))) := by
              have h9 := hset (y : Int)
              have e9 : (y : Int) = lowF p (L.getD p 0) := by unfold lowF; rw [hy]
              rw [e9, mix_succ] at h9
              rw [e9]
              exact h9
            have HB9 : Hid (Below w4.heap.size w5 (wr.setCell ⟨g, p, none⟩ (.int .u64 (y : Int)))) := hb.setCell hg _
            clear hset hx0 hown hb hy
            generalize L.getD p 0 = X at *
            go_wp2
            exact ⟨⟨p + 1, by omega, by go_num, HS.out, HB9.out⟩, by simp [intOf]; omega⟩
          · obtain rfl : p = j := by omega
            obtain ⟨A5, c5, rfl, hA5, hc5⟩ := own_shape hown
            obtain ⟨A3, c3, rfl, hA3, hc3⟩ := own_shape HO5.out
            have HA5 := hid hA5
            have HA3 := hid hA3
            have HOL := hid hown
            have HBL := hid hb
            have hsq := hb.size
            have hs5 := hb5.size
            have hRL := Row.of_own hown
            have HR4 := hid (((Row.of_own HO4.out).below hb5 (Nat.le_refl _)).below hb (Nat.le_refl _))
            have HBW := hid ((HB0.out.trans (HB5.out.mono hs0)).trans (hb.mono (Nat.le_trans hs0 hs4)))
            have HRL := hid hRL
            have e1 : pks (mixL lowF L p ++ b) N p = pks (mixL lowF L p) N p := low_same HL.out hK1
            have e2 : pks (mixL lowF L p) N p = pks (mixL (moreF N) L p) N p := more_same HL.out hK1
            have HE := hid (And.intro e1 e2)
            have w1f := hid (low_wf HL.out)
            have w2f := hid (more_wf (n := N) HL.out hK1 hN3)
            have hll := mix_len lowF L p
            have HLL : Hid ((mixL lowF L p).length = p) := by rw [hll]; exact HL.out
            generalize hlow : mixL lowF L p = low at *
            generalize hmore : mixL (moreF N) L p = more at *
            obtain ⟨i0, hi, hz0, hz1, hz2⟩ := info_parts infoU
            clear hown hb hA5 hA3 hRL e1 e2 hll hlow hmore own5 hb5 own3 hb3
            go_wp2_with fail
            refine (ownU A5 p c5 _ _ low wr HRL.out HA5.out (Nat.le_refl _) (by omega)).mono ?_
            rintro e w6 ⟨v6, rfl, own6, hb6⟩
            have HB6 := hid hb6
            have hs6 := hb6.size
            have RB6 := hid ((HH.out.below HBW.out (Nat.le_refl _)).below hb6 HBW.out.size)
            clear hb6
            go_wp2_with (at_builtin; go_loud (refine wpList_append_row _ rfl _ _ 28 rfl wr.heap.size 27 i0 (.int .u64 0) 8 Try.underlying28 hi hz0 hz1 hz2 rfl v6 p (IK .u64 low) rfl own6 0 w.heap.size B blen bcap rfl HB.out (IK .u64 b) RB6.out (IK_one _ _) (by unfold maxLen; omega) (by omega) hs6 ?_); intro v7 w7 own7 grow7 at7)
            obtain ⟨A7, c7, rfl, _, _⟩ := own_shape own7
            have hb7 : Below wr.heap.size wr w7 := HB6.out.grown grow7 hs6 (fun g hg => (own6.lt g hg).1)
            have HB7 := hid (HBW.out.trans (hb7.mono HBW.out.size))
            have hsr := HBW.out.size
            have hs7 := hb7.size
            have HRL7 := hid (HRL.out.below hb7 (Nat.le_refl _))
            have HR47 := hid (HR4.out.below hb7 (Nat.le_trans hs5 hsq))
            have R7 := Row.of_own own7
            rw [← IK_append] at R7
            have wfA : ∀ x ∈ low ++ b, 0 ≤ x ∧ x ≤ 18446744073709551615 := fun x hx => by
              rcases List.mem_append.1 hx with h | h
              · exact w1f.out x h
              · exact HWB.out x h
            have cx := picks_at A7 (p + blen) c7 _ _ (low ++ b) N p w7 R7 (Nat.le_refl _) (by omega) wfA (by omega) (by omega) (by omega)
            clear own6 own7 grow7 at7 hb7 R7 wfA
            go_wp2_with fail
            refine cx.mono ?_
            rintro e w8 ⟨g8, rfl, R8, hb8, hg8, hz8⟩
            have HRL8 := hid (HRL7.out.below hb8 hs7)
            have HR48 := hid (HR47.out.below hb8 (Nat.le_trans (Nat.le_trans hs5 hsq) hs7))
            have HB8 := hid (HB7.out.trans (hb8.mono HB7.out.size))
            have cy := picks_at A5 p c5 _ _ low N p w8 HRL8.out (Nat.le_trans hs7 hb8.size) (by omega) w1f.out (by omega) (by omega) (by omega)
            have hs8 := hb8.size
            clear hb8 hg8 hz8 cx
            go_wp2_with fail
            refine cy.mono ?_
            rintro e w9 ⟨g9, rfl, R9, hb9, hg9, hz9⟩
            have R89 := R8.below hb9 (Nat.le_refl _)
            have HR49 := hid (HR48.out.below hb9 (by omega))
            have HB9 := hid (HB8.out.trans (hb9.mono HB8.out.size))
            have cz := picks_at A3 p c3 _ _ more N p w9 HR49.out (by have := hb9.size; omega) (by omega) w2f.out (by omega) (by omega) (by omega)
            have hs9 := hb9.size
            clear hb9 hg9 hz9 cy R8
            go_wp2_with fail
            refine cz.mono ?_
            rintro e w10 ⟨g10, rfl, R10, hb10, hg10, hz10⟩
            have R810 := R89.below hb10 (by omega)
            have R910 := R9.below hb10 (Nat.le_refl _)
            have c1 := sameI (some ⟨g8, 0, none⟩) (some ⟨g9, 0, none⟩) p p p p _ _ _ _ _ _ w10 R810 R910 (by omega)
            have c2 := fun q => sameI (some ⟨g9, 0, none⟩) (some ⟨g10, 0, none⟩) p p p p _ _ _ _ _ _ (w10.drewN q) (R910.drewN q) (R10.drewN q) (by omega)
            rw [HE.out.1, decide_eq_true rfl] at c1
            rw [HE.out.2, decide_eq_true rfl] at c2
            have HB10 := hid (HB9.out.trans (hb10.mono HB9.out.size))
            have C2 := hid c2
            clear R89 R9 R10 R810 R910 hb10 hg10 hz10 cz c2
            go_wp2_with fail
            refine c1.mono ?_
            rintro e w11 ⟨rfl, q, rfl⟩
            go_wp2_with fail
            refine (C2.out q).mono ?_
            rintro e w12 ⟨rfl, q2, rfl⟩
            go_wp2
            go_ret
            exact ⟨rfl, below_drewN HB10.out _⟩
end Go.Proofs.Ytjnbdlbgfgdopaa
