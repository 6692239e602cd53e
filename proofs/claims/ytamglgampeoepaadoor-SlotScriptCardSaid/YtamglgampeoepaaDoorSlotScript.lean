/-
  The walk of SlotScript.
-/
import Derived.Test.YtamglgampeoepaaDoorScriptState
import Derived.Deep.CutBlock
import Derived.Deep.DeepCutAuto
namespace Go.Proofs.YtamglgampeoepaaDoor
set_option maxRecDepth 40000
open Go.RowKit Go.Joins

theorem snil_snil (W : World) : (binOp .eql 25 (.pointer none) (.pointer none)).run Tryd.prog W = .ok (.bool true) W := by kernel_rfl
theorem rnil_rnil (W : World) : (binOp .eql 29 (.pointer none) (.pointer none)).run Tryd.prog W = .ok (.bool true) W := by kernel_rfl
theorem rnil_ne (W : World) : (binOp .neq 29 (.pointer none) (.pointer none)).run Tryd.prog W = .ok (.bool false) W := by kernel_rfl
theorem row_none9 (w : World) : Row w 0 0 none 0 (IK .i16 []) := ⟨rfl, fun h => absurd h (Nat.lt_irrefl 0)⟩
theorem Lit.wf_i64 {n : Int} (h : (Lit.int .i64 n).wf = true) : -9223372036854775808 ≤ n ∧ n ≤ 9223372036854775807 := by
  simp only [Lit.wf, Bool.and_eq_true, decide_eq_true_eq] at h
  have h1 : IntKind.i64.min = -9223372036854775808 := by decide
  have h2 : IntKind.i64.max = 9223372036854775807 := by decide
  omega
theorem un_undrew {B : Nat} {a b : World} (h : Below B a.drew b) : Below B a b := ⟨h.os, h.tape, h.output, h.size, h.block⟩
def actCells (a : Ar) : Array Value := #[.int .i64 a.kind, .int .i64 a.n, .slice a.va a.vl a.vc]
/-- Where a round stands behind its act. -/
def Acted (w2 wx : World) (g h dim room ba k : Nat) (a : Ar) : Prop :=
  ∃ (F O E : List Nat) (st : Sts) (tr : List Int), SX w2 wx g h F O E ⟨dim, room, st, tr⟩ ⟨dim, room, st, tr⟩ ∧ tr.length ≤ k + 1 ∧ Blk wx ba 34 (actCells a) ∧ w2.heap.size ≤ ba
set_option maxRecDepth 40000 in
set_option maxHeartbeats 8000000 in
theorem slotScript_walk (d0 r0 : Int) (A : Option Addr) (n c : Nat) (l : List Ar) (w : World) (hT : Tab w) (hA : Acts w w.heap.size A n l) (hn : n ≤ 9223372036854775807) :
    Calls Tryd.prog 3 #[.int .i64 d0, .int .i64 r0, .slice A n c] w fun e w' => e = .returned (.bool true) ∧ Below w.heap.size w w' := by
  have LV := hid (lives9_any w hT)
  have HT0 := hid hT
  have HA := hid hA
  clear hT hA
  go_enter Tryd.func3, Tryd.ntmps3
  go_wp2_with fail
  refine LV.out.mono ?_
  rintro e w1 ⟨rfl, hb1⟩
  have HB1 := hid hb1
  have HT := hid (HT0.out.below hb1)
  have LG := hid (light9_any A n c w.heap.size l w1 (HA.out.below hb1) hn)
  clear hb1 LV
  go_wp2_with fail
  refine LG.out.mono ?_
  rintro e w2 ⟨bl, rfl, hl, rfl⟩
  cases bl
  · go_wp2
    go_ret
    exact ⟨rfl, HB1.out⟩
  · have HLT := hid (hl rfl)
    have hn9 : n ≤ 100 := by have h1 := HLT.out.1; have h2 := HA.out.len; omega
    clear hl LG
    by_cases hok : 1 ≤ d0 ∧ d0 ≤ 1024 ∧ 1 ≤ r0 ∧ r0 ≤ 16777216
    · obtain ⟨dim, rfl⟩ : ∃ dim : Nat, d0 = (dim : Int) := ⟨d0.toNat, by omega⟩
      obtain ⟨room, rfl⟩ : ∃ room : Nat, r0 = (room : Int) := ⟨r0.toNat, by omega⟩
      have hdim : 1 ≤ dim ∧ dim ≤ 1024 := by omega
      have hroom : 1 ≤ room ∧ room ≤ 16777216 := by omega
      have NA := hid (new_ok dim room w2 hdim hroom)
      clear hok
      go_wp2_with fail
      refine NA.out.mono ?_
      rintro e w3 ⟨g, rfl, hS, hg, hb⟩
      have LA : Sl w2 w3 g [g] ⟨dim, room, [], []⟩ := ⟨hS, fun b hb => by rw [List.mem_singleton] at hb; rw [hb]; exact hg, hb⟩
      have HLA := hid LA
      have NR := hid (rnew_ok dim room w3 hdim hroom)
      clear NA LA hS hg hb
      go_wp2_with fail
      refine NR.out.mono ?_
      rintro e w4 ⟨h, rfl, hR, hh, hb⟩
      have HS : Hid (SX w2 w4 g h [g] [h] [] ⟨dim, room, [], []⟩ ⟨dim, room, [], []⟩ ∧ ([] : List Int).length ≤ 0) := hid ⟨⟨HLA.out.then hb, hR, fun b hx hy => by
        rw [List.mem_singleton] at hx hy
        have := HLA.out.at_.lt b (by rw [hx]; exact List.mem_singleton.2 rfl)
        omega, (fun b _ hy => by cases hy), (fun b hx => by rw [List.mem_singleton] at hx; rw [hx]; exact Nat.le_trans HLA.out.below.size hh), (fun b hx => by cases hx)⟩, Nat.le_refl _⟩
      have e1 := eql_nil_ptr w4 g
      have e2 := req_nil w4 h
      clear NR hR hh hb HLA
      go_wp2
      go_loopw [11] (fun i wr => ∃ (k : Nat) (F O E : List Nat) (st : Sts) (tr : List Int), k ≤ n ∧ i = .int .i64 (k : Int) ∧ Hid (SX w2 wr g h F O E ⟨dim, room, st, tr⟩ ⟨dim, room, st, tr⟩ ∧ tr.length ≤ k)) (fun i _ => n - (intOf i).toNat)
      case atStart => exact ⟨0, _, _, _, _, _, Nat.zero_le _, rfl, HS⟩
      case round =>
        clear HS
        obtain ⟨k, F, O, E, st, tr, hkn, rfl, HS⟩ := hrel
        have e3 := rne_nil wr h
        by_cases hlt : k < n
        · have HBr := hid (HB1.out.trans (HS.out.1.a.below.mono HB1.out.size))
          obtain ⟨b, off, rfl, hbl, hcell⟩ := (HA.out.below HBr.out).at_ (by omega)
          obtain ⟨a, ha⟩ : ∃ a, l[k]? = some a := ⟨l[k]'(by have := HA.out.len; omega), List.getElem?_eq_getElem _⟩
          have g0 : wr.cell? ⟨b, off + k * 3, none⟩ = some (.int .i64 a.kind) := hcell k a ha 0 _ rfl
          have g1 := hcell k a ha 1 _ rfl
          have g2 := hcell k a ha 2 _ rfl
          have HF := hid ((HA.out.below HBr.out).fine a (List.mem_of_getElem? ha))
          have hvl : a.vl ≤ 100 := HLT.out.2 a (List.mem_of_getElem? ha)
          clear hcell ha
          obtain ⟨y, HY, hy⟩ : ∃ y : Nat, Hid (a.kind % 6 = (y : Int)) ∧ (y < 6) := ⟨(a.kind % 6).toNat, hid (by omega), by omega⟩
          have HSA := hid (HS.out.1.below ((Below.refl _ _).alloc (Nat.le_refl _) (.cells (actCells a) 34)))
          have HBA := hid (Blk.new wr 34 (actCells a))
          have HBL := hid ((Below.refl wr.heap.size wr).alloc (Nat.le_refl _) (.cells (actCells a) 34))
          have hba : w2.heap.size ≤ wr.heap.size := HS.out.1.a.below.size
          go_wp2_with fail
          refine (pick_at a.kind 6 (y : Int) _ (by omega) (by omega) HY.out).mono ?_
          rintro e w5 ⟨rfl, hw5⟩
          subst hw5
          obtain ⟨wA, hwA⟩ : ∃ wA, wA = wr.alloc (.cells #[.int .i64 a.kind, .int .i64 a.n, .slice a.va a.vl a.vc] 34) := ⟨_, rfl⟩
          obtain ⟨ba, hba2⟩ : ∃ ba, ba = wr.heap.size := ⟨_, rfl⟩
          have HXA : Hid (SX w2 wA g h F O E ⟨dim, room, st, tr⟩ ⟨dim, room, st, tr⟩ ∧ tr.length ≤ k) := hid (by rw [hwA]; exact ⟨HSA.out, HS.out.2⟩)
          have HBK : Hid (Blk wA ba 34 (actCells a)) := hid (by rw [hwA, hba2]; exact HBA.out)
          have HFA : Hid (Fine wA w.heap.size a) := hid (HF.out.below (by rw [hwA]; exact HBL.out.mono HBr.out.size))
          have HBF : Hid ((∀ x ∈ F, x ≠ ba) ∧ ∀ x ∈ O, x ≠ ba) := hid ⟨fun x hx => by have := HS.out.1.a.at_.lt x hx; omega, fun x hx => by have := HS.out.1.r.lo x hx; omega⟩
          have HWW : Hid (w.heap.size ≤ w2.heap.size) := hid HB1.out.size
          rw [← hwA, ← hba2]
          rw [← hba2] at hba
          have HBA3 := hid hba
          clear hwA hba2 HSA HBA HBL HS HF g0 g1 g2 HY hba
          go_upto_block 2 with fail
          go_cut [13] (fun same wx => same = .bool true ∧ Acted w2 wx g h dim room ba k a)
          case first =>
            have b2 : wA.cell? ⟨ba, 2, none⟩ = some (.slice a.va a.vl a.vc) := HBK.out.cell 2
            have b1 : wA.cell? ⟨ba, 1, none⟩ = some (.int .i64 a.n) := HBK.out.cell 1
            have hlA : w2.heap.size ≤ wA.heap.size := HXA.out.1.a.below.size
            have hbaA : ba < wA.heap.size := HBK.out.lt
            rcases (by omega : y < 2 ∨ y = 2 ∨ y = 3 ∨ y = 4 ∨ y = 5) with hy2 | rfl | rfl | rfl | rfl
            · as_aux_lemma =>
                have OW := hid (own16_any a.va a.vl a.vc 0 w.heap.size a.v wA HFA.out.rv HFA.out.nv (by have := HWW.out; omega) (by omega))
                have hvl2 : a.v.length = a.vl := by have := HFA.out.rv.len; rwa [IK_len] at this
                have HVL2 := hid hvl2
                obtain ⟨p, hp⟩ := low_exists st
                have HP := hid hp
                clear hvl2 hp
                by_cases hv : a.vl = dim
                · have hc0 : chk a.vl (dim : Int) = 0 := by unfold chk; rw [if_pos (by omega)]
                  have HC0 := hid hc0
                  have HV := hid hv
                  clear hv hc0
                  by_cases hroomf : cnt st = room
                  · have HRM := hid hroomf
                    clear hroomf
                    rcases (by omega : y = 0 ∨ y = 1) with rfl | rfl
                    all_goals
                      go_wp2_with fail
                      refine OW.out.mono ?_
                      rintro e w5 ⟨A5, n5, c5, rfl, l5, z5, own5, hb5⟩
                      obtain rfl : a.vl = n5 := HVL2.out.symm.trans l5.out
                      have X5 := hid (HXA.out.1.below hb5)
                      have PF := hid (put_full X5.out.a.at_ A5 a.vl c5 HC0.out HRM.out)
                      have HK5 := hid (HBK.out.below hb5 hbaA)
                      clear own5 hb5
                      go_wp2_with fail
                      refine PF.out.mono ?_
                      rintro e w6 ⟨rfl, k6, rfl⟩
                      have X6 := hid (X5.out.draws k6)
                      have RF := hid (rput_full X6.out.r a.va a.vl a.vc HC0.out HRM.out)
                      have b26 : (w5.drewN k6).cell? ⟨ba, 2, none⟩ = some (.slice a.va a.vl a.vc) := HK5.out.cell 2
                      clear PF
                      go_wp2_with fail
                      refine RF.out.mono ?_
                      rintro e w7 ⟨rfl, rfl⟩
                      go_wp2
                      go_meet
                      exact ⟨rfl, F, O, E, st, tr, X6.out, Nat.le_trans HXA.out.2 (Nat.le_succ k), HK5.out.drewN k6, HBA3.out⟩
                  · have hrm : cnt st < room := by have h1 := HXA.out.1.a.at_.fit.cnt; simp only at h1; omega
                    clear hroomf
                    rcases (by omega : y = 0 ∨ y = 1) with rfl | rfl
                    all_goals
                      go_wp2_with fail
                      refine OW.out.mono ?_
                      rintro e w5 ⟨A5, n5, c5, rfl, l5, z5, own5, hb5⟩
                      obtain rfl : a.vl = n5 := HVL2.out.symm.trans l5.out
                      have X5 := hid (HXA.out.1.below hb5)
                      have P1 := hid (Sl.put X5.out.a HT.out A5 c5 wA.heap.size w5.heap.size a.vl a.v HV.out (Row.of_own own5) (Nat.le_refl _) z5.out (fun b hb => .inl (HXA.out.1.a.at_.lt b hb)) hrm HP.out)
                      have HK5 := hid (HBK.out.below hb5 hbaA)
                      have HF5 := hid (HFA.out.below (hb5.mono (by have := HWW.out; omega)))
                      clear own5 hb5
                      go_wp2_with fail
                      refine P1.out.mono ?_
                      rintro e w6 ⟨rfl, F6, L6, T6, hF6⟩
                      have X6 := hid (X5.out.prog L6 T6 hF6)
                      have HK6 := hid (HK5.out.touch T6 (fun hm => HBF.out.1 ba hm rfl))
                      have b26 : w6.cell? ⟨ba, 2, none⟩ = some (.slice a.va a.vl a.vc) := HK6.out.cell 2
                      have HF6 := hid (HF5.out.below (T6.below (by have := HWW.out; have := X5.out.a.below.size; omega) (fun b hb => by have := HWW.out; have := X5.out.a.new b hb; omega)))
                      have RP := hid (rput_at X6.out.r a.va a.vc 0 w.heap.size a.vl a.v HV.out HF6.out.rv (by have := HWW.out; have := X6.out.a.below.size; omega) HF6.out.nv (fun b hb => .inr (by have := HWW.out; have := X6.out.ro b hb; omega)) hrm HP.out)
                      clear P1 L6 T6 hF6
                      go_wp2_with fail
                      refine RP.out.mono ?_
                      rintro e w7 ⟨rfl, hd7⟩
                      obtain ⟨O7, E7, X7, T7⟩ := X6.out.refs hd7
                      have HK7 := hid (HK6.out.touch T7 (fun hm => HBF.out.2 ba hm rfl))
                      have HX7 := hid X7
                      clear RP hd7 X7 T7
                      go_wp2
                      go_meet
                      exact ⟨rfl, F6, O7, E7, _, tr, HX7.out, Nat.le_trans HXA.out.2 (Nat.le_succ k), HK7.out, HBA3.out⟩
                · have hc2 : chk a.vl (dim : Int) = 2 := by unfold chk; rw [if_neg (by omega)]
                  have HC2 := hid hc2
                  clear hv hc2
                  rcases (by omega : y = 0 ∨ y = 1) with rfl | rfl
                  all_goals
                    go_wp2_with fail
                    refine OW.out.mono ?_
                    rintro e w5 ⟨A5, n5, c5, rfl, l5, z5, own5, hb5⟩
                    obtain rfl : a.vl = n5 := HVL2.out.symm.trans l5.out
                    have X5 := hid (HXA.out.1.below hb5)
                    have PF := hid (put_bad X5.out.a.at_ A5 a.vl c5 HC2.out)
                    have HK5 := hid (HBK.out.below hb5 hbaA)
                    clear own5 hb5
                    go_wp2_with fail
                    refine PF.out.mono ?_
                    rintro e w6 ⟨rfl, rfl⟩
                    have RF := hid (rput_bad X5.out.r a.va a.vl a.vc HC2.out)
                    have b26 : w6.cell? ⟨ba, 2, none⟩ = some (.slice a.va a.vl a.vc) := HK5.out.cell 2
                    clear PF
                    go_wp2_with fail
                    refine RF.out.mono ?_
                    rintro e w7 ⟨rfl, rfl⟩
                    go_wp2
                    go_meet
                    exact ⟨rfl, F, O, E, st, tr, X5.out, Nat.le_trans HXA.out.2 (Nat.le_succ k), HK5.out, HBA3.out⟩
            · as_aux_lemma =>
                by_cases hh : hasI st a.n = true
                · obtain ⟨m, hm, hh2⟩ := hasI_true hh
                  obtain ⟨v, hv⟩ := has_some hh2
                  have GT := get_ok HXA.out.1.a.at_ m v hv (by have := HXA.out.2; simp only; omega)
                  rw [← hm] at GT
                  have HGT := hid GT
                  have HV := hid hv
                  have HM := hid hm
                  have hv9 : v.length ≤ 1024 := by have h1 := HXA.out.1.a.at_.fit.fit v (List.mem_of_getElem? hv); simp only at h1; omega
                  clear GT hv hm hh hh2
                  go_wp2_with fail
                  refine HGT.out.mono ?_
                  rintro e w6 ⟨A6, m6, c6, F6, rfl, l6, z6, own6, hat6, T6, hF6, hx6⟩
                  have L6 : Sl w2 w6 g F6 ⟨dim, room, st, tr ++ [a.n]⟩ := ⟨hat6, fun b hb => (hF6 b hb).elim (HXA.out.1.a.new b) (fun h => Nat.le_trans HXA.out.1.a.below.size h), HXA.out.1.a.below.trans (T6.below HXA.out.1.a.below.size HXA.out.1.a.new)⟩
                  have X6 := hid (HXA.out.1.prog L6 T6 hF6)
                  have HK6 := hid (HBK.out.touch T6 (fun hm => HBF.out.1 ba hm rfl))
                  have b16 : w6.cell? ⟨ba, 1, none⟩ = some (.int .i64 a.n) := HK6.out.cell 1
                  have RG := rget_ok X6.out.r m v HV.out (by have := HXA.out.2; simp only; omega)
                  rw [← HM.out] at RG
                  have HRG := hid RG
                  have HO6 := hid own6
                  have HL6 := hid l6.out
                  clear RG own6 hat6 T6 hF6 hx6 L6 HGT l6
                  go_wp2_with fail
                  refine HRG.out.mono ?_
                  rintro e w7 ⟨A7, m7, c7, O7, rfl, l7, own7, hr7, T7, hO7⟩
                  obtain ⟨O8, E8, X8, T8⟩ := X6.out.refs ⟨O7, E, hr7, T7, hO7, fun b h => .inl h⟩
                  have HX8 := hid X8
                  have HK8 := hid (HK6.out.touch T8 (fun hm => HBF.out.2 ba hm rfl))
                  have own6' := own_touched HO6.out T8 (fun e he hm => by have h1 := (HO6.out.lt e he).1; have h2 := HXA.out.1.r.lo e hm; omega)
                  have SM := same16 A6 A7 m6 m7 c6 c7 _ _ _ _ v v w7 (Row.of_own own6') (Row.of_own own7) (by have := HL6.out; omega)
                  rw [decide_eq_true rfl] at SM
                  have HSM := hid SM
                  clear SM own7 own6' hr7 T7 hO7 X8 T8 l7 HRG
                  go_wp2_with fail
                  refine HSM.out.mono ?_
                  rintro e w9 ⟨rfl, k9, rfl⟩
                  go_wp2
                  go_meet
                  exact ⟨rfl, F6, O8, E8, st, _, HX8.out.draws k9, by have := HXA.out.2; simp; omega, HK8.out.drewN k9, HBA3.out⟩
                · have hh : hasI st a.n = false := by simpa using hh
                  have hw2 := HFA.out.w2
                  have hn9' : a.n ≤ 9223372036854775807 := (Lit.wf_i64 hw2).2
                  have GT := hid (get_no HXA.out.1.a.at_ a.n hn9' hh)
                  have HH := hid hh
                  clear hh hw2
                  go_wp2_with fail
                  refine GT.out.mono ?_
                  rintro e w6 ⟨rfl, k6, rfl⟩
                  have X6 := hid (HXA.out.1.draws k6)
                  have HK6 := hid (HBK.out.drewN k6)
                  have b16 : (wA.drewN k6).cell? ⟨ba, 1, none⟩ = some (.int .i64 a.n) := HK6.out.cell 1
                  have RG := hid (rget_no X6.out.r a.n HH.out)
                  clear GT
                  go_wp2_with fail
                  refine RG.out.mono ?_
                  rintro e w7 ⟨rfl, rfl⟩
                  have HSM := hid (fun W : World => same16 none none 0 0 0 0 0 0 0 0 [] [] W (row_none9 W) (row_none9 W) (by omega))
                  go_wp2_with fail
                  refine (HSM.out _).mono ?_
                  rintro e w9 ⟨rfl, k9, rfl⟩
                  go_wp2
                  go_meet
                  exact ⟨rfl, F, O, E, st, tr, HXA.out.1.draws (k6 + k9), Nat.le_trans HXA.out.2 (Nat.le_succ k), HBK.out.drewN (k6 + k9), HBA3.out⟩
            · as_aux_lemma =>
                by_cases hh : hasI st a.n = true
                · obtain ⟨m, hm, hh2⟩ := hasI_true hh
                  have FR := sl_free (W := wA.drew) (HXA.out.1.draws 1).a m hh2
                  rw [← hm] at FR
                  have HFR := hid FR
                  have HM := hid hm
                  have HH2 := hid hh2
                  have HXD := hid (HXA.out.1.draws 1)
                  have HKD := hid (HBK.out.drewN 1)
                  clear FR hm hh hh2
                  go_upto_region 30 with fail
                  go_region_held3 (fun W' => W'.cell? ⟨ba, 1, none⟩ = some (.int .i64 a.n))
                    (first | exact b1 | exact q6 | exact q7)
                    (first
                      | (go_at_call 17; refine HFR.out.mono ?_; rintro e w6 ⟨rfl, F6, L6, T6, hF6⟩; have X6 := hid (HXD.out.prog L6 T6 hF6); have HK6 := hid (Blk.touch HKD.out T6 (fun hm => HBF.out.1 ba hm rfl)); have q6 := HK6.out.cell 1; have RF := rfree_ok X6.out.r m HH2.out; rw [← HM.out] at RF; have HRF := hid RF; clear RF L6 T6 hF6)
                      | (go_at_call 18; refine HRF.out.mono ?_; rintro e w7 ⟨rfl, hd7⟩; obtain ⟨O7, E7, X7, T7⟩ := X6.out.refs hd7; have HX7 := hid X7; have HK7 := hid (HK6.out.touch T7 (fun hm => HBF.out.2 ba hm rfl)); have q7 := HK7.out.cell 1; clear hd7 X7 T7))
                  go_wp2
                  go_meet
                  exact ⟨rfl, F6, O7, E7, _, tr, HX7.out, Nat.le_trans HXA.out.2 (Nat.le_succ k), HK7.out, HBA3.out⟩
                · have hh : hasI st a.n = false := by simpa using hh
                  have hw2 := HFA.out.w2
                  have FR := hid (free_no (w := wA.drew) (HXA.out.1.draws 1).a.at_ a.n (Lit.wf_i64 hw2).2 hh)
                  have RF := hid (fun j => rfree_no (HXA.out.1.draws j).r a.n hh)
                  clear hh hw2
                  go_upto_region 30 with fail
                  go_region_held3 (fun W' => W'.cell? ⟨ba, 1, none⟩ = some (.int .i64 a.n))
                    (first | exact b1)
                    (first
                      | (go_at_call 17; refine FR.out.mono ?_; rintro e w6 ⟨rfl, k6, rfl⟩)
                      | (go_at_call 18; refine (RF.out (1 + k6)).mono ?_; rintro e w7 ⟨rfl, rfl⟩))
                  go_wp2
                  go_meet
                  exact ⟨rfl, F, O, E, st, tr, HXA.out.1.draws (1 + k6), Nat.le_trans HXA.out.2 (Nat.le_succ k), HBK.out.drewN (1 + k6), HBA3.out⟩
            · as_aux_lemma =>
                have CL := hid (clear_s HXA.out.1.a.at_)
                go_wp2_with fail
                refine CL.out.mono ?_
                rintro e w6 ⟨rfl, hd6⟩
                obtain ⟨F6, L6, T6, hF6⟩ := HXA.out.1.a.did hd6
                have X6 := hid (HXA.out.1.prog L6 T6 hF6)
                have HK6 := hid (HBK.out.touch T6 (fun hm => HBF.out.1 ba hm rfl))
                obtain ⟨AT, cT, ct, _, _⟩ := X6.out.trace_at
                have ft : w6.frozen? ⟨h, 3, none⟩ = false := X6.out.frozen3
                obtain ⟨O7, E7, X7, T7⟩ := X6.out.refs (rclear X6.out.r)
                have HX7 := hid X7
                have HK7 := hid (HK6.out.touch T7 (fun hm => HBF.out.2 ba hm rfl))
                clear CL hd6 L6 T6 hF6 X7 T7
                go_wp2
                go_meet
                exact ⟨rfl, F6, O7, E7, st, [], HX7.out, Nat.zero_le _, HK7.out, HBA3.out⟩
            · as_aux_lemma =>
                by_cases hh : hasI st a.n = true
                · obtain ⟨m, hm, hh2⟩ := hasI_true hh
                  obtain ⟨v, hv⟩ := has_some hh2
                  have CL := hid (clone_s HXA.out.1.a.at_)
                  have HM := hid hm
                  have HH2 := hid hh2
                  have HV := hid hv
                  have htr : tr.length < 1000000 := by have := HXA.out.2; omega
                  have hv9 : v.length ≤ 1024 := by have h1 := HXA.out.1.a.at_.fit.fit v (List.mem_of_getElem? hv); simp only at h1; omega
                  clear hm hh hh2 hv
                  go_wp2_with fail
                  refine CL.out.mono ?_
                  rintro e w6 ⟨g6, F6, rfl, hat6, hn6, hb6⟩
                  have L6 : Sl wA w6 g6 F6 ⟨dim, room, st, tr⟩ := ⟨hat6, hn6, hb6⟩
                  have HL6 := hid L6
                  have HK6 := hid (HBK.out.below hb6 hbaA)
                  have b16 : w6.cell? ⟨ba, 1, none⟩ = some (.int .i64 a.n) := HK6.out.cell 1
                  have GT := get_ok HL6.out.at_ m v HV.out htr
                  rw [← HM.out] at GT
                  have HGT := hid GT
                  clear CL hat6 hn6 hb6 L6 GT
                  go_wp2_with fail
                  refine HGT.out.mono ?_
                  rintro e w7 ⟨A7, m7, c7, F7, rfl, l7, z7, own7, hat7, T7, hF7, hx7⟩
                  have hb7 : Below wA.heap.size wA w7 := HL6.out.below.trans (T7.below HL6.out.below.size HL6.out.new)
                  have L7 : Sl wA w7 g6 F7 ⟨dim, room, st, tr ++ [a.n]⟩ := ⟨hat7, fun b hb => (hF7 b hb).elim (HL6.out.new b) (fun h => Nat.le_trans HL6.out.below.size h), hb7⟩
                  have HL7 := hid L7
                  have X7 := hid (HXA.out.1.below hb7)
                  have XD7 := hid (X7.out.draws 1)
                  have HB7 := hid hb7
                  have HK7 := hid (HBK.out.below hb7 hbaA)
                  have b17 : w7.cell? ⟨ba, 1, none⟩ = some (.int .i64 a.n) := HK7.out.cell 1
                  have HO7 := hid own7
                  have HX7 := hid hx7
                  have HLL7 := hid l7.out
                  have RC := hid (rclone_s (w := w7.drew) XD7.out.r)
                  have hkb7 : ba < w7.heap.size := HK7.out.lt
                  clear hb7 L7 hat7 T7 hF7 hx7 own7 l7 HGT
                  go_upto_region 17 with fail
                  go_region_held3 (fun W' => W'.cell? ⟨ba, 1, none⟩ = some (.int .i64 a.n))
                    (first | exact b17 | exact q8 | exact q9)
                    (first
                      | (go_at_call 21; refine RC.out.mono ?_; rintro e w8 ⟨h8, O8, rfl, hat8, hn8, hb8⟩; have q8 := (Blk.below (w := w7.drew) (HK7.out.drewN 1) hb8 (by exact hkb7)).cell 1; have RG := rget_ok hat8 m v HV.out htr; rw [← HM.out] at RG; have HRG := hid RG; have HN8 := hid hn8; have HB8 := hid hb8; have HLO8 := hid hat8.lo; clear RG hat8 hn8 hb8)
                      | (go_at_call 15; refine HRG.out.mono ?_; rintro e w9 ⟨A9, m9, c9, O9, rfl, l9, own9, hat9, T9, hO9⟩; have hb79 := un_undrew (HB8.out.trans (T9.below (by exact HB8.out.size) HN8.out)); have HB79 := hid hb79; have q9 := (HK7.out.below hb79 hkb7).cell 1; have HO9 := hid own9; have HLL9 := hid l9.out; clear own9 hat9 T9 hO9 l9 hb79))
                  have b19 : w9.cell? ⟨ba, 1, none⟩ = some (.int .i64 a.n) := q9
                  clear q9 q8
                  have L9 := HL7.out.then HB79.out
                  have HL9 := hid L9
                  have FR := sl_free L9 m HH2.out
                  rw [← HM.out] at FR
                  have HFR := hid FR
                  clear FR L9
                  go_wp2_with fail
                  refine HFR.out.mono ?_
                  rintro e w10 ⟨rfl, F10, L10, T10, hF10⟩
                  have own7' := own_touched (own_touched HO7.out (touch_below HB79.out []) (fun _ _ h => by cases h)) T10 (fun e he hm => HX7.out e he hm)
                  have own9' := own_touched HO9.out T10 (fun e he hm => by have h1 := (HO9.out.lt e he).1; have h2 := HL7.out.at_.lt e hm; have h3 := HB8.out.size; have h4 : w7.drew.heap.size = w7.heap.size := rfl; omega)
                  have SM := same16 A7 A9 m7 m9 c7 c9 _ _ _ _ v v w10 (Row.of_own own7') (Row.of_own own9') (by have := HLL7.out; omega)
                  rw [decide_eq_true rfl] at SM
                  have HSM := hid SM
                  have hb10 : Below wA.heap.size wA w10 := L10.below
                  have HX10 := hid (HXA.out.1.below hb10)
                  have HK10 := hid (HBK.out.below hb10 hbaA)
                  clear SM own7' own9' L10 T10 hF10 hb10 HFR
                  go_wp2_with fail
                  refine HSM.out.mono ?_
                  rintro e w11 ⟨rfl, k11, rfl⟩
                  go_wp2
                  go_meet
                  exact ⟨rfl, F, O, E, st, tr, HX10.out.draws k11, Nat.le_trans HXA.out.2 (Nat.le_succ k), HK10.out.drewN k11, HBA3.out⟩
                · have hh : hasI st a.n = false := by simpa using hh
                  have hn9' : a.n ≤ 9223372036854775807 := (Lit.wf_i64 HFA.out.w2).2
                  have CL := hid (clone_s HXA.out.1.a.at_)
                  have HH := hid hh
                  clear hh
                  go_wp2_with fail
                  refine CL.out.mono ?_
                  rintro e w6 ⟨g6, F6, rfl, hat6, hn6, hb6⟩
                  have L6 : Sl wA w6 g6 F6 ⟨dim, room, st, tr⟩ := ⟨hat6, hn6, hb6⟩
                  have HL6 := hid L6
                  have HK6 := hid (HBK.out.below hb6 hbaA)
                  have b16 : w6.cell? ⟨ba, 1, none⟩ = some (.int .i64 a.n) := HK6.out.cell 1
                  have GT := hid (get_no HL6.out.at_ a.n hn9' HH.out)
                  have X6 := hid (HXA.out.1.below hb6)
                  clear CL hat6 hn6 hb6 L6
                  go_wp2_with fail
                  refine GT.out.mono ?_
                  rintro e w7 ⟨rfl, k7, rfl⟩
                  obtain ⟨w7, hw7⟩ : ∃ w7, w7 = w6.drewN k7 := ⟨_, rfl⟩
                  rw [← hw7]
                  have HL7 : Hid (Sl wA w7 g6 F6 ⟨dim, room, st, tr⟩) := hid (by rw [hw7]; exact HL6.out.draws k7)
                  have HK7 : Hid (Blk w7 ba 34 (actCells a)) := hid (by rw [hw7]; exact HK6.out.drewN k7)
                  have X7 : Hid (SX w2 w7 g h F O E ⟨dim, room, st, tr⟩ ⟨dim, room, st, tr⟩) := hid (by rw [hw7]; exact X6.out.draws k7)
                  have XD7 := hid (X7.out.draws 1)
                  have b17 : w7.cell? ⟨ba, 1, none⟩ = some (.int .i64 a.n) := HK7.out.cell 1
                  have RC := hid (rclone_s (w := w7.drew) XD7.out.r)
                  have hkb7 : ba < w7.heap.size := HK7.out.lt
                  clear hw7 b16 GT
                  go_upto_region 17 with fail
                  go_region_held3 (fun W' => W'.cell? ⟨ba, 1, none⟩ = some (.int .i64 a.n))
                    (first | exact b17 | exact q8)
                    (first
                      | (go_at_call 21; refine RC.out.mono ?_; rintro e w8 ⟨h8, O8, rfl, hat8, hn8, hb8⟩; have q8 := (Blk.below (w := w7.drew) (HK7.out.drewN 1) hb8 (by exact hkb7)).cell 1; have HRG := hid (rget_no hat8 a.n HH.out); have HB8 := hid (un_undrew hb8); clear hat8 hn8 hb8)
                      | (go_at_call 15; refine HRG.out.mono ?_; rintro e w9 ⟨rfl, rfl⟩))
                  have b19 : w9.cell? ⟨ba, 1, none⟩ = some (.int .i64 a.n) := q8
                  clear q8
                  have HL9 := hid (HL7.out.then HB8.out)
                  have FR := hid (free_no HL9.out.at_ a.n hn9' HH.out)
                  go_wp2_with fail
                  refine FR.out.mono ?_
                  rintro e w10 ⟨rfl, k10, rfl⟩
                  have HSM := hid (fun W : World => same16 none none 0 0 0 0 0 0 0 0 [] [] W (row_none9 W) (row_none9 W) (by omega))
                  go_wp2_with fail
                  refine (HSM.out _).mono ?_
                  rintro e w11 ⟨rfl, k11, rfl⟩
                  go_wp2
                  go_meet
                  exact ⟨rfl, F, O, E, st, tr, (X7.out.below HB8.out).draws (k10 + k11), Nat.le_trans HXA.out.2 (Nat.le_succ k), (HK7.out.below HB8.out hkb7).drewN (k10 + k11), HBA3.out⟩
          case rest =>
            as_aux_lemma =>
              obtain ⟨rfl, F, O, E, st, tr, X, ht, HK, hb4⟩ := hcut
              have XD := hid (X.draws 1)
              have HX := hid X
              have hw2 := HFA.out.w2
              have hn1 : a.n ≤ 9223372036854775807 := (Lit.wf_i64 hw2).2
              have hk9 : (k : Int) ≤ 9223372036854775807 := by omega
              have CN := hid (XD.out.a.count)
              have RN := hid (XD.out.r.count)
              have TR := hid (XD.out.a.trace)
              obtain ⟨AT, cT, ct, rowT, hh9⟩ := X.trace_at
              have HRT := hid rowT
              have b1 : wc.cell? ⟨ba, 1, none⟩ = some (.int .i64 a.n) := HK.cell 1
              have HKB := hid HK
              have hbl9 : ba < wc.heap.size := HK.lt
              have htr9 : tr.length ≤ 101 := by omega
              obtain ⟨q, hq⟩ : ∃ q, q = hasI st := ⟨_, rfl⟩
              have HQ := hid hq
              have n1 : ((cnt st : Int) != (cnt st : Int)) = false := by simp
              have n2 : ∀ x, (q x != q x) = false := fun x => by simp
              have HHT := hid ht
              clear hq X HK hw2 rowT ht hb4
              go_upto_region 34 with fail
              go_region_held3 (fun W' => W'.cell? ⟨ba, 1, none⟩ = some (.int .i64 a.n) ∧ W'.cell? ⟨h, 3, none⟩ = some (.slice AT tr.length cT))
                (first | exact ⟨b1, ct⟩ | exact S5.out)
                (first
                  | (go_at_call 22; refine CN.out.mono ?_; rintro e w5 ⟨rfl, rfl⟩)
                  | (go_at_call 23; refine RN.out.mono ?_; rintro e w5 ⟨rfl, rfl⟩)
                  | (go_at_call 25; refine TR.out.mono ?_; rintro e w5 ⟨A5, m5, c5, rfl, l5, z5, own5, hb5⟩; have X5 := hid (XD.out.below hb5); have S5 : Hid (w5.cell? ⟨ba, 1, none⟩ = some (.int .i64 a.n) ∧ w5.cell? ⟨h, 3, none⟩ = some (.slice AT tr.length cT)) := hid ⟨(hb5.cell (p := ⟨ba, 1, none⟩) (by exact hbl9)).trans b1, (hb5.cell (p := ⟨h, 3, none⟩) (by exact hh9)).trans ct⟩; have SM := same64 A5 AT m5 tr.length c5 cT _ _ _ _ tr tr w5 (Row.of_own own5) (Row.below (w := wc.drew) HRT.out hb5 (Nat.le_refl _)) (by have := l5.out; omega); rw [decide_eq_true rfl] at SM; have HSM := hid SM; have HAS := hid (fun (x : Int) (hx : x ≤ 9223372036854775807) j => (X5.out.draws j).a.has x hx); have RAS := hid (fun (x : Int) j => (X5.out.draws j).r.has x); have HK5 := hid (Blk.below (w := wc.drew) (HKB.out.drewN 1) hb5 (by exact hbl9)); simp only [← HQ.out] at HAS RAS; clear SM own5 hb5)
                  | (go_at_call 24; refine HSM.out.mono ?_; rintro e w6 ⟨rfl, k6, rfl⟩)
                  | (go_at_call 26; refine (HAS.out _ (by assumption) _).mono ?_; rintro e w7 ⟨rfl, k7, rfl⟩)
                  | (go_at_call 27; refine (RAS.out _ _).mono ?_; rintro e w8 ⟨rfl, rfl⟩))
              clear n1 n2 HAS RAS HSM CN RN TR
              go_wp2
              exact ⟨⟨k + 1, F, O, E, st, tr, hlt, by go_num, hid ⟨X5.out.draws _, HHT.out⟩⟩, by simp [intOf]; omega⟩
        · obtain rfl : k = n := by omega
          go_wp2
          go_ret
          exact ⟨rfl, HB1.out.trans (HS.out.1.a.below.mono HB1.out.size)⟩
    · have NB := hid (new_bad d0 r0 w2 hok)
      have NR := hid (rnew_bad d0 r0 w2 hok)
      clear hok
      go_wp2_with fail
      refine NB.out.mono ?_
      rintro e w3 ⟨rfl, rfl⟩
      go_wp2_with fail
      refine NR.out.mono ?_
      rintro e w4 ⟨rfl, rfl⟩
      have e1 := snil_snil w4
      have e2 := rnil_rnil w4
      have e3 := rnil_ne w4
      go_wp2
      go_loopw [11] (fun i wr => i = .int .i64 0 ∧ w4 = wr) (fun _ _ => 0)
      case atStart => exact ⟨rfl, rfl⟩
      case round =>
        obtain ⟨rfl, hw⟩ := hrel
        subst hw
        by_cases hlt : 0 < n
        · go_wp2
          go_ret
          exact ⟨rfl, HB1.out⟩
        · go_wp2
          go_ret
          exact ⟨rfl, HB1.out⟩
end Go.Proofs.YtamglgampeoepaaDoor
