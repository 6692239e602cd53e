/-
  The walk of SlotKeeps.
-/
import Derived.Test.YtamglgampeoepaaDoorSlotMade
namespace Go.Proofs.YtamglgampeoepaaDoor
set_option maxRecDepth 40000
open Go.RowKit Go.Joins

theorem row_none (w : World) : Row w 0 0 none 0 (IK .i16 []) := ⟨rfl, fun h => absurd h (Nat.lt_irrefl 0)⟩
theorem neq_nil_nil (W : World) : (binOp .neq 32 (.slice none 0 0) (.slice none 0 0)).run Tryd.prog W = .ok (.bool false) W := by kernel_rfl
theorem neq_nil_some (W : World) (b n c : Nat) : (binOp .neq 32 (.slice (some ⟨b, 0, none⟩) n c) (.slice none 0 0)).run Tryd.prog W = .ok (.bool true) W := by kernel_rfl
set_option maxRecDepth 40000 in
set_option maxHeartbeats 8000000 in
theorem slotKeeps_walk (d0 r0 : Int) (A : Option Addr) (n c : Nat) (l : List Ar) (w : World) (hT : Tab w) (hA : Acts w w.heap.size A n l) (hn : n ≤ 9223372036854775807) :
    Calls Tryd.prog 4 #[.int .i64 d0, .int .i64 r0, .slice A n c] w fun e w' => e = .returned (.bool true) ∧ Below w.heap.size w w' := by
  have LV := hid (lives9_any w hT)
  have HT0 := hid hT
  have HA := hid hA
  obtain ⟨d, HD, hd⟩ : ∃ d : Nat, Hid (d0 % 8 = (d : Int)) ∧ d < 8 := ⟨(d0 % 8).toNat, hid (by omega), by omega⟩
  obtain ⟨r, HK, hk⟩ : ∃ r : Nat, Hid (r0 % 40 = (r : Int)) ∧ r < 40 := ⟨(r0 % 40).toNat, hid (by omega), by omega⟩
  have hmm := @run_makeMap Tryd.prog
  clear hT hA
  go_enter Tryd.func4, Tryd.ntmps4
  go_wp2_with fail
  refine LV.out.mono ?_
  rintro e w1 ⟨rfl, hb1⟩
  have HB1 := hid hb1
  have HT := hid (HT0.out.below hb1)
  have LG := hid (light9_any A n c w.heap.size l w1 (HA.out.below hb1) hn)
  clear hb1 LV
  go_wp2_with fail
  refine LG.out.mono ?_
  rintro e w2 ⟨bl, rfl, hl, rfl⟩
  cases bl
  · go_wp2
    go_ret
    exact ⟨rfl, HB1.out⟩
  · have HLT := hid (hl rfl)
    have hn9 : n ≤ 100 := by have h1 := HLT.out.1; have h2 := HA.out.len; omega
    clear hl LG
    go_wp2_with fail
    refine (pick_at d0 8 (d : Int) _ (by omega) (by omega) HD.out).mono ?_
    rintro e w3 ⟨rfl, rfl⟩
    go_wp2_with fail
    refine (pick_at r0 40 (r : Int) _ (by omega) (by omega) HK.out).mono ?_
    rintro e w3 ⟨rfl, rfl⟩
    have NA := hid (new_ok (1 + d) (1 + r) w2 (by omega) (by omega))
    rw [show ((1 + r : Nat) : Int) = 1 + (r : Int) by omega, show ((1 + d : Nat) : Int) = 1 + (d : Int) by omega] at NA
    go_wp2_with fail
    refine NA.out.mono ?_
    rintro e w3 ⟨g, rfl, hS, hg, hb⟩
    have LA : Sl w2 w3 g [g] ⟨1 + d, 1 + r, [], []⟩ := ⟨hS, fun b hb => by rw [List.mem_singleton] at hb; rw [hb]; exact hg, hb⟩
    obtain ⟨dim, hdim⟩ : ∃ dim : Nat, dim = 1 + d := ⟨_, rfl⟩
    obtain ⟨room, hroom⟩ : ∃ room : Nat, room = 1 + r := ⟨_, rfl⟩
    have hdim1 : 1 ≤ dim ∧ dim ≤ 8 := by omega
    have hroom1 : 1 ≤ room ∧ room ≤ 40 := by omega
    rw [show 1 + (d : Int) = (dim : Int) by omega, show 1 + (r : Int) = (room : Int) by omega]
    rw [← hdim, ← hroom] at LA
    have HS : Hid (KS w2 (w3.alloc (.map #[] 0)) g w3.heap.size 0 dim room [g] [w3.heap.size] [] []) := hid ⟨LA.then ((Below.refl _ _).alloc (Nat.le_refl _) _), km_new w3 w2.heap.size LA.below.size, fun x hx hy => by
      rw [List.mem_singleton] at hx hy
      have := LA.at_.lt x (by rw [hx]; exact List.mem_singleton.2 rfl)
      omega, Nat.le_refl _⟩
    have e1 := eql_nil_ptr w3 g
    clear NA LA hS hg hb hdim hroom hd hk HD HK
    go_wp2
    go_loopw [10] (fun i wr => ∃ (k : Nat) (F B : List Nat) (st : Sts) (tr : List Int), k ≤ n ∧ i = .int .i64 (k : Int) ∧ Hid (KS w2 wr g w3.heap.size k dim room F B st tr)) (fun i _ => n - (intOf i).toNat)
    case atStart => exact ⟨0, _, _, _, _, Nat.zero_le _, rfl, HS⟩
    case round =>
      clear HS
      obtain ⟨k, F, B, st, tr, hkn, rfl, HS⟩ := hrel
      by_cases hlt : k < n
      · have HBr := hid (HB1.out.trans (HS.out.a.below.mono HB1.out.size))
        obtain ⟨b, off, rfl, hbl, hcell⟩ := (HA.out.below HBr.out).at_ (by omega)
        obtain ⟨a, ha⟩ : ∃ a, l[k]? = some a := ⟨l[k]'(by have := HA.out.len; omega), List.getElem?_eq_getElem _⟩
        have g0 : wr.cell? ⟨b, off + k * 3, none⟩ = some (.int .i64 a.kind) := hcell k a ha 0 _ rfl
        have g1 := hcell k a ha 1 _ rfl
        have g2 := hcell k a ha 2 _ rfl
        have HF := hid ((HA.out.below HBr.out).fine a (List.mem_of_getElem? ha))
        have hvl : a.vl ≤ 100 := HLT.out.2 a (List.mem_of_getElem? ha)
        clear hcell ha
        obtain ⟨z, HZ, hz⟩ : ∃ z : Nat, Hid (a.n % (room : Int) = (z : Int)) ∧ z < room := ⟨(a.n % (room : Int)).toNat, by
          have h1 := Int.emod_nonneg a.n (show (room : Int) ≠ 0 by omega)
          have h2 := Int.emod_lt_of_pos a.n (show 0 < (room : Int) by omega)
          exact ⟨hid (by omega), by omega⟩⟩
        obtain ⟨y, HY, hy⟩ : ∃ y : Nat, Hid (a.kind % 3 = (y : Int)) ∧ (y < 3) := ⟨(a.kind % 3).toNat, hid (by omega), by omega⟩
        go_wp2_with fail
        refine (pick_at a.n (room : Int) (z : Int) _ (by omega) (by omega) HZ.out).mono ?_
        rintro e w4 ⟨rfl, rfl⟩
        go_wp2_with fail
        refine (pick_at a.kind 3 (y : Int) _ (by omega) (by omega) HY.out).mono ?_
        rintro e w4 ⟨rfl, rfl⟩
        clear HZ HY
        rcases (by omega : y = 2 ∨ y < 2) with rfl | hy2
        · -- freeing
          by_cases hh : has st z = true
          · have FR := hid (sl_free HS.out.a z hh)
            obtain ⟨v5, hv5⟩ := has_some hh
            have HV5 := hid hv5
            clear hh hv5
            go_wp2_with fail
            refine FR.out.mono ?_
            rintro e w5 ⟨rfl, F5, L5, T5, hF5⟩
            obtain ⟨km5, ab5⟩ := HS.out.slots T5 hF5
            obtain ⟨x5, hrun5, hlk5⟩ := km5.look (n := z) (by omega)
            rw [getD_some HV5.out] at hlk5
            obtain ⟨b5, c5, rfl, _, _⟩ := hlk5
            have nn5 := neq_nil_some w5 b5 v5.length c5
            obtain ⟨w6, hrun6, km6, T6⟩ := km5.del (n := z) (by omega)
            have HP : KS w2 w6 g w3.heap.size (k + 1) dim room F5 B (freeS st z) tr := KS.more ⟨sl_beside L5 T6 (fun b hb hx => ab5 b hb (by rw [List.mem_singleton.1 hx]; exact km5.1)) (fun b hx => by rw [List.mem_singleton.1 hx]; exact (km5.2.1 _ km5.1).1), km6, ab5, HS.out.tr⟩ (Nat.le_succ k)
            have HTR := hid HS.out.tr
            clear FR L5 T5 hF5 km5 ab5 km6 T6
            have HS7 := hid HP
            clear HP
            by_cases h7 : has (freeS st z) z = true
            · obtain ⟨v7, hv7⟩ := has_some h7
              have GT := hid (get_ok HS7.out.a.at_ z v7 hv7 (by have := HTR.out; simp only; omega))
              have hv9 : v7.length = dim := HS7.out.a.at_.fit.fit v7 (List.mem_of_getElem? hv7)
              have HV9 := hid hv9
              have HV7 := hid hv7
              clear h7 hv7 hv9
              go_wp2_with fail
              refine GT.out.mono ?_
              rintro e w8 ⟨A8, m8, c8, F8, rfl, hm8, hA8, own8, hat8, ht8, hF8, hx8⟩
              have L8 : Sl w2 w8 g F8 ⟨dim, room, (freeS st z), tr ++ [(z : Int)]⟩ := ⟨hat8, fun b hb => (hF8 b hb).elim (HS7.out.a.new b) (fun h => Nat.le_trans HS7.out.a.below.size h), HS7.out.a.below.trans (ht8.below HS7.out.a.below.size HS7.out.a.new)⟩
              obtain ⟨km8, ab8⟩ := HS7.out.slots ht8 hF8
              have HS8 : Hid (KS w2 w8 g w3.heap.size (k + 1) dim room F8 B (freeS st z) (tr ++ [(z : Int)])) := hid ⟨L8, km8, ab8, by have := HTR.out; simp; omega⟩
              obtain rfl : dim = m8 := by rw [← hm8.out]; exact HV9.out.symm
              obtain ⟨x8, hrun8, hlk8⟩ := HS8.out.m.look (n := z) (by omega)
              rw [getD_some HV7.out] at hlk8
              obtain ⟨b9, c9, rfl, row9, _⟩ := hlk8
              have nn8 := neq_nil_some w8 b9 v7.length c9
              have SM := same16 A8 (some ⟨b9, 0, none⟩) dim v7.length c8 c9 _ _ _ _ v7 v7 w8 (Row.of_own own8) (Row.of_own row9) (by omega)
              rw [decide_eq_true rfl] at SM
              have HSM := hid SM
              obtain ⟨b8, rfl, hlo8, hlt8⟩ := own_some own8 (by omega)
              have HO8 := hid own8
              have HX8 := hid hx8
              have HB8 := hid (show ∀ b ∈ B, b < b8 from fun b hb => Nat.lt_of_lt_of_le (HS7.out.map b hb).2 hlo8)
              have HLO8 := hid (Nat.le_trans HS7.out.a.below.size hlo8)
              clear GT L8 km8 ab8 hat8 ht8 hF8 hx8 SM row9 own8 hA8
              go_wp2_with fail
              refine HSM.out.mono ?_
              rintro e w9 ⟨rfl, k9, rfl⟩
              have HS9 := hid (HS8.out.draws k9)
              have CN := hid HS9.out.a.count
              have ml := HS9.out.m.len
              go_wp2_with fail
              refine CN.out.mono ?_
              rintro e w10 ⟨rfl, rfl⟩
              have hm10 : (0 : Int) < (dim : Int) := by omega
              obtain ⟨x0, hx0⟩ : ∃ x0, v7[0]? = some x0 := ⟨v7[0]'(by rw [HV9.out]; omega), List.getElem?_eq_getElem _⟩
              have c8' : (w8.drewN k9).cell? ⟨b8, 0, none⟩ = some (.int .i16 x0) := by
                have h := HO8.out.cells (g := b8) rfl 0 (.int .i16 x0) (by simp [IK, hx0])
                exact h
              have f8' : (w8.drewN k9).frozen? ⟨b8, 0, none⟩ = false := HO8.out.frozenAt 0
              clear hrun8 hx0
              go_wp2
              have HE := hid (HS9.out.aside (touch_set (g := b8) (i := 0) (u := .int .i16 (IntKind.i16.wrap (x0 + 1))) (List.mem_singleton.2 rfl)) (fun b hb hx => HX8.out b8 rfl (by rw [← List.mem_singleton.1 hx]; exact hb)) (fun b hb hx => by
                have h1 := HB8.out b hb
                have h2 := List.mem_singleton.1 hx
                omega) (fun b hx => by rw [List.mem_singleton.1 hx]; exact HLO8.out))
              exact ⟨⟨k + 1, F8, B, (freeS st z), _, hlt, by go_num, HE⟩, by simp [intOf]; omega⟩
            · have h7 : has (freeS st z) z = false := by simpa using h7
              have GT := hid (get_no HS7.out.a.at_ (z : Int) (by omega) (by rw [hasI_nat]; exact h7))
              have H7 := hid h7
              clear h7
              go_wp2_with fail
              refine GT.out.mono ?_
              rintro e w8 ⟨rfl, k8, rfl⟩
              have HS8 := hid (HS7.out.draws k8)
              obtain ⟨x8, hrun8, hlk8⟩ := HS8.out.m.look (n := z) (by omega)
              rw [getD_none H7.out] at hlk8
              obtain rfl : x8 = .slice none 0 0 := hlk8
              have nn8 := neq_nil_nil
              have HSM := hid (fun W : World => same16 none none 0 0 0 0 0 0 0 0 [] [] W (row_none W) (row_none W) (by omega))
              go_wp2_with fail
              refine (HSM.out _).mono ?_
              rintro e w9 ⟨rfl, k9, rfl⟩
              have HS9 := hid (HS7.out.draws (k8 + k9))
              have CN := hid HS9.out.a.count
              have ml := HS9.out.m.len
              go_wp2_with fail
              refine CN.out.mono ?_
              rintro e w10 ⟨rfl, rfl⟩
              clear hrun8
              go_wp2
              exact ⟨⟨k + 1, F5, B, (freeS st z), tr, hlt, by go_num, HS9⟩, by simp [intOf]; omega⟩
          · have hh : has st z = false := by simpa using hh
            have FR := hid (free_no HS.out.a.at_ (z : Int) (by omega) (by rw [hasI_nat]; exact hh))
            have HH := hid hh
            clear hh
            go_wp2_with fail
            refine FR.out.mono ?_
            rintro e w5 ⟨rfl, k5, rfl⟩
            have HS5 := hid (HS.out.draws k5)
            obtain ⟨x5, hrun5, hlk5⟩ := HS5.out.m.look (n := z) (by omega)
            rw [getD_none HH.out] at hlk5
            obtain rfl : x5 = .slice none 0 0 := hlk5
            have nn5 := neq_nil_nil
            obtain ⟨w6, hrun6, km6, T6⟩ := HS5.out.m.del (n := z) (by omega)
            rw [free_same HH.out] at km6
            have HP : KS w2 w6 g w3.heap.size (k + 1) dim room F B st tr := KS.more ⟨sl_beside HS5.out.a T6 (fun b hb hx => HS5.out.ab b hb (by rw [List.mem_singleton.1 hx]; exact HS5.out.m.1)) (fun b hx => by rw [List.mem_singleton.1 hx]; exact (HS5.out.map _ HS5.out.m.1).1), km6, HS5.out.ab, HS5.out.tr⟩ (Nat.le_succ k)
            have HTR := hid HS.out.tr
            clear FR km6 T6
            have HS7 := hid HP
            clear HP
            by_cases h7 : has st z = true
            · obtain ⟨v7, hv7⟩ := has_some h7
              have GT := hid (get_ok HS7.out.a.at_ z v7 hv7 (by have := HTR.out; simp only; omega))
              have hv9 : v7.length = dim := HS7.out.a.at_.fit.fit v7 (List.mem_of_getElem? hv7)
              have HV9 := hid hv9
              have HV7 := hid hv7
              clear h7 hv7 hv9
              go_wp2_with fail
              refine GT.out.mono ?_
              rintro e w8 ⟨A8, m8, c8, F8, rfl, hm8, hA8, own8, hat8, ht8, hF8, hx8⟩
              have L8 : Sl w2 w8 g F8 ⟨dim, room, st, tr ++ [(z : Int)]⟩ := ⟨hat8, fun b hb => (hF8 b hb).elim (HS7.out.a.new b) (fun h => Nat.le_trans HS7.out.a.below.size h), HS7.out.a.below.trans (ht8.below HS7.out.a.below.size HS7.out.a.new)⟩
              obtain ⟨km8, ab8⟩ := HS7.out.slots ht8 hF8
              have HS8 : Hid (KS w2 w8 g w3.heap.size (k + 1) dim room F8 B st (tr ++ [(z : Int)])) := hid ⟨L8, km8, ab8, by have := HTR.out; simp; omega⟩
              obtain rfl : dim = m8 := by rw [← hm8.out]; exact HV9.out.symm
              obtain ⟨x8, hrun8, hlk8⟩ := HS8.out.m.look (n := z) (by omega)
              rw [getD_some HV7.out] at hlk8
              obtain ⟨b9, c9, rfl, row9, _⟩ := hlk8
              have nn8 := neq_nil_some w8 b9 v7.length c9
              have SM := same16 A8 (some ⟨b9, 0, none⟩) dim v7.length c8 c9 _ _ _ _ v7 v7 w8 (Row.of_own own8) (Row.of_own row9) (by omega)
              rw [decide_eq_true rfl] at SM
              have HSM := hid SM
              obtain ⟨b8, rfl, hlo8, hlt8⟩ := own_some own8 (by omega)
              have HO8 := hid own8
              have HX8 := hid hx8
              have HB8 := hid (show ∀ b ∈ B, b < b8 from fun b hb => Nat.lt_of_lt_of_le (HS7.out.map b hb).2 hlo8)
              have HLO8 := hid (Nat.le_trans HS7.out.a.below.size hlo8)
              clear GT L8 km8 ab8 hat8 ht8 hF8 hx8 SM row9 own8 hA8
              go_wp2_with fail
              refine HSM.out.mono ?_
              rintro e w9 ⟨rfl, k9, rfl⟩
              have HS9 := hid (HS8.out.draws k9)
              have CN := hid HS9.out.a.count
              have ml := HS9.out.m.len
              go_wp2_with fail
              refine CN.out.mono ?_
              rintro e w10 ⟨rfl, rfl⟩
              have hm10 : (0 : Int) < (dim : Int) := by omega
              obtain ⟨x0, hx0⟩ : ∃ x0, v7[0]? = some x0 := ⟨v7[0]'(by rw [HV9.out]; omega), List.getElem?_eq_getElem _⟩
              have c8' : (w8.drewN k9).cell? ⟨b8, 0, none⟩ = some (.int .i16 x0) := by
                have h := HO8.out.cells (g := b8) rfl 0 (.int .i16 x0) (by simp [IK, hx0])
                exact h
              have f8' : (w8.drewN k9).frozen? ⟨b8, 0, none⟩ = false := HO8.out.frozenAt 0
              clear hrun8 hx0
              go_wp2
              have HE := hid (HS9.out.aside (touch_set (g := b8) (i := 0) (u := .int .i16 (IntKind.i16.wrap (x0 + 1))) (List.mem_singleton.2 rfl)) (fun b hb hx => HX8.out b8 rfl (by rw [← List.mem_singleton.1 hx]; exact hb)) (fun b hb hx => by
                have h1 := HB8.out b hb
                have h2 := List.mem_singleton.1 hx
                omega) (fun b hx => by rw [List.mem_singleton.1 hx]; exact HLO8.out))
              exact ⟨⟨k + 1, F8, B, st, _, hlt, by go_num, HE⟩, by simp [intOf]; omega⟩
            · have h7 : has st z = false := by simpa using h7
              have GT := hid (get_no HS7.out.a.at_ (z : Int) (by omega) (by rw [hasI_nat]; exact h7))
              have H7 := hid h7
              clear h7
              go_wp2_with fail
              refine GT.out.mono ?_
              rintro e w8 ⟨rfl, k8, rfl⟩
              have HS8 := hid (HS7.out.draws k8)
              obtain ⟨x8, hrun8, hlk8⟩ := HS8.out.m.look (n := z) (by omega)
              rw [getD_none H7.out] at hlk8
              obtain rfl : x8 = .slice none 0 0 := hlk8
              have nn8 := neq_nil_nil
              have HSM := hid (fun W : World => same16 none none 0 0 0 0 0 0 0 0 [] [] W (row_none W) (row_none W) (by omega))
              go_wp2_with fail
              refine (HSM.out _).mono ?_
              rintro e w9 ⟨rfl, k9, rfl⟩
              have HS9 := hid (HS7.out.draws (k8 + k9))
              have CN := hid HS9.out.a.count
              have ml := HS9.out.m.len
              go_wp2_with fail
              refine CN.out.mono ?_
              rintro e w10 ⟨rfl, rfl⟩
              clear hrun8
              go_wp2
              exact ⟨⟨k + 1, F, B, st, tr, hlt, by go_num, HS9⟩, by simp [intOf]; omega⟩
        · have hmk := fun W => make_row .i16 32 39 2 dim W Tryd.underlying32 info16 (by omega) (by omega)
          have HTR := hid HS.out.tr
          obtain ⟨p, hp⟩ := low_exists st
          have HP0 := hid hp
          have hpc : p ≤ cnt st := hp.cnt_le
          have hcr : cnt st ≤ room := HS.out.a.at_.fit.cnt
          clear hp
          rcases (by omega : y = 0 ∨ y = 1) with rfl | rfl
          all_goals
            go_wp2
            obtain ⟨w4, rfl⟩ : ∃ w4, w4 = wr := ⟨wr, rfl⟩
            have HG2 := hid g2
            clear g0 g1 g2
            go_loopw [13] (fun i wq => ∃ (j : Nat) (pv : List Int), j ≤ dim ∧ j ≤ a.vl ∧ i = .int .i64 (j : Int) ∧ Hid (pv.length = dim ∧ Blk wq w4.heap.size 39 (IK .i16 pv).toArray ∧ Below w4.heap.size w4 wq)) (fun i _ => dim - (intOf i).toNat)
            case atStart => exact ⟨0, List.replicate dim 0, Nat.zero_le _, Nat.zero_le _, rfl, hid ⟨by simp, Blk.new _ _ _, (Below.refl _ _).alloc (Nat.le_refl _) _⟩⟩
            case round =>
              obtain ⟨j, pv, hj, hjv, rfl, HQ⟩ := hrel
              have g2 : wr.cell? ⟨b, off + k * 3 + 2, none⟩ = some (.slice a.va a.vl a.vc) := (HQ.out.2.2.cell (p := ⟨b, off + k * 3 + 2, none⟩) (World.block_lt_of_cell? w4 _ HG2.out)).trans HG2.out
              by_cases hjj : j < dim ∧ j < a.vl
              · obtain ⟨hjd, hjl⟩ := hjj
                obtain ⟨vb, voff, hva, _, hvb, hcl⟩ := cells_at HF.out.rv (k := j) (by have := HF.out.rv.len; rw [IK_len] at this; omega)
                rw [hva] at g2
                have hcx : wr.cell? ⟨vb, voff + j, none⟩ = some (.int .i16 (a.v[j]'(by have := HF.out.rv.len; rw [IK_len] at this; omega))) := (HQ.out.2.2.cell (p := ⟨vb, voff + j, none⟩) (World.block_lt_of_cell? w4 _ hcl)).trans hcl
                obtain ⟨x, hx⟩ : ∃ x, x = a.v[j]'(by have := HF.out.rv.len; rw [IK_len] at this; omega) := ⟨_, rfl⟩
                rw [← hx] at hcx
                obtain ⟨x0, hx0⟩ : ∃ x0, wr.cell? ⟨w4.heap.size, j, none⟩ = some x0 := ⟨(IK .i16 pv).toArray[j]'(by simp [IK]; have := HQ.out.1; omega), by rw [HQ.out.2.1.cell j]; exact Array.getElem?_eq_getElem _⟩
                have hfz := HQ.out.2.1.frozen j
                have HJ : Hid ((pv.set j x).length = dim ∧ Blk (wr.setCell ⟨w4.heap.size, j, none⟩ (.int .i16 x)) w4.heap.size 39 (IK .i16 (pv.set j x)).toArray ∧ Below w4.heap.size w4 (wr.setCell ⟨w4.heap.size, j, none⟩ (.int .i16 x))) := hid ⟨by rw [List.length_set]; exact HQ.out.1, by rw [← ik_put]; exact HQ.out.2.1.set j _, HQ.out.2.2.setCell (by simp) _⟩
                clear hx hcl hva
                go_wp2
                exact ⟨⟨j + 1, _, hjd, hjl, by go_num, HJ⟩, by simp [intOf]; omega⟩
              · have hex : ¬ j < dim ∨ (j < dim ∧ ¬ j < a.vl) := by omega
                have hsz : w4.heap.size ≤ wr.heap.size := HQ.out.2.2.size
                have HSR := hid (HS.out.below HQ.out.2.2)
                have HBK := hid HQ.out.2.1
                have HPV := hid HQ.out.1
                have HRV := hid (Row.of_own (owns_blk (base := w4.heap.size) HQ.out.2.1 HQ.out.1 (Nat.le_refl _) (by unfold maxLen; omega)))
                have hF4 : ∀ b ∈ F, b < w4.heap.size := HS.out.a.at_.lt
                have HF4 := hid hF4
                have HB4 := hid (show ∀ b ∈ B, b < w4.heap.size from fun b hb => (HS.out.map b hb).2)
                clear HQ hjj hF4
                by_cases hroom : cnt st = room
                · have PF := hid (put_full HSR.out.a.at_ (some ⟨w4.heap.size, 0, none⟩) dim dim (by show chk dim (dim : Int) = 0; unfold chk; rw [if_pos (by omega)]) hroom)
                  have HRM := hid hroom
                  clear hroom
                  rcases hex with hex | ⟨hex1, hex2⟩
                  all_goals
                    go_wp2_with fail
                    refine PF.out.mono ?_
                    rintro e w5 ⟨rfl, k5, rfl⟩
                    have HS5 := hid (HSR.out.draws k5)
                    have ml := HS5.out.m.len
                    rw [HRM.out] at ml
                    go_wp2
                    exact ⟨⟨k + 1, F, B, st, tr, hlt, by go_num, hid (HS5.out.more (Nat.le_succ k))⟩, by simp [intOf]; omega⟩
                · have P1 := hid (Sl.put HSR.out.a HT.out (some ⟨w4.heap.size, 0, none⟩) dim w4.heap.size wr.heap.size dim pv rfl HRV.out (Nat.le_refl _) (fun e => by cases e) (fun b hb => .inl (HF4.out b hb)) (by simp only; omega) HP0.out)
                  have hne : ((cnt st : Int) == (room : Int)) = false := by simp; omega
                  have hp9 : p < 40 := by omega
                  have hpl : p ≤ st.length := HP0.out.le
                  rcases hex with hex | ⟨hex1, hex2⟩
                  all_goals
                    go_wp2_with fail
                    refine P1.out.mono ?_
                    rintro e w5 ⟨rfl, F5, L5, T5, hF5⟩
                    obtain ⟨km5, ab5⟩ := HSR.out.slots T5 hF5
                    have ml := km5.len
                    have hlt5 : w4.heap.size < w5.heap.size := Nat.lt_of_lt_of_le HBK.out.lt T5.size
                    have HBK5 := hid (HBK.out.touch T5 (fun hm => by have := HF4.out _ hm; omega))
                    have HL5 := hid L5
                    have HKM5 := hid km5
                    have HAB5 := hid ab5
                    have HF5 := hid (show ∀ b ∈ F5, b ≠ w4.heap.size from fun b hb => by
                      rcases hF5 b hb with h1 | h1
                      · have := HF4.out b h1; omega
                      · have := HBK.out.lt; omega)
                    clear P1 L5 T5 hF5 km5 ab5
                    go_wp2
                    go_loopw [16] (fun v wq => ∃ j3 : Nat, j3 ≤ p ∧ v = .int .i64 (j3 : Int) ∧ w5 = wq) (fun v _ => p - (intOf v).toNat)
                    case atStart => exact ⟨0, Nat.zero_le _, rfl, rfl⟩
                    case round =>
                      obtain ⟨j3, hj3, rfl, hw5⟩ := hrel
                      subst hw5
                      obtain ⟨x3, hrun3, hlk3⟩ := HKM5.out.look (n := j3) (by omega)
                      by_cases hjp : j3 < p
                      · obtain ⟨v3, hv3⟩ := has_some (HP0.out.2 j3 hjp)
                        rw [getD_some hv3] at hlk3
                        obtain ⟨b3, c3, rfl, _, _⟩ := hlk3
                        have nn3 := neq_nil_some w5 b3 v3.length c3
                        clear hv3
                        go_wp2
                        exact ⟨⟨j3 + 1, hjp, by go_num, by trivial⟩, by simp [intOf]; omega⟩
                      · obtain rfl : p = j3 := by omega
                        rw [getD_none HP0.out.1] at hlk3
                        obtain rfl : x3 = .slice none 0 0 := hlk3
                        have nn3 := neq_nil_nil
                        have OW := hid (own16_any (some ⟨w4.heap.size, 0, none⟩) dim dim w4.heap.size w5.heap.size pv w5 (Row.of_own (owns_blk (base := w4.heap.size) HBK5.out HPV.out (Nat.le_refl _) (by unfold maxLen; omega))) (fun e => by cases e) (Nat.le_refl _) (by omega))
                        go_wp2_with fail
                        refine OW.out.mono ?_
                        rintro e w6 ⟨A6, n6, c6, rfl, l6, z6, own6, hb6⟩
                        obtain rfl : dim = n6 := HPV.out.symm.trans l6.out
                        obtain ⟨b6, rfl, hlo6, hlt6⟩ := own_some own6 (by omega)
                        have hM := HKM5.out.2.1 _ HKM5.out.1
                        have hM4 := HB4.out _ HKM5.out.1
                        have own6' := own_lows own6 (base' := w2.heap.size) (by have := HS.out.a.below.size; omega)
                        rw [← HPV.out] at own6'
                        obtain ⟨w7, hrun7, km7, g7⟩ := (HKM5.out.below hb6).put (n := p) (l := pv) (by omega) (by omega) HP0.out.1 hpl own6' (by omega)
                        rw [HPV.out] at hrun7
                        have BK7 := (HBK5.out.below hb6 hlt5).grown g7 (by intro e; injection e with e; omega)
                        obtain ⟨x0, hx0⟩ : ∃ x0, pv[0]? = some x0 := ⟨pv[0]'(by rw [HPV.out]; omega), List.getElem?_eq_getElem _⟩
                        have c7 : w7.cell? ⟨w4.heap.size, 0, none⟩ = some (.int .i16 x0) := by rw [BK7.cell 0]; simp [IK, hx0]
                        have f7 : w7.frozen? ⟨w4.heap.size, 0, none⟩ = false := BK7.frozen 0
                        have hdim0 : (0 : Int) < (dim : Int) := by omega
                        have T7 : Touch w6 w7 [w3.heap.size] := touch_grown g7 (fun x hx => by injection hx with hx; rw [← hx]; exact List.mem_singleton.2 rfl)
                        have L7 := sl_beside (HL5.out.then hb6) T7 (fun b hb hx => HAB5.out b hb (by rw [List.mem_singleton.1 hx]; exact HKM5.out.1)) (fun b hx => by rw [List.mem_singleton.1 hx]; exact hM.1)
                        have HP : KS w2 (w7.setCell ⟨w4.heap.size, 0, none⟩ (.int .i16 (IntKind.i16.wrap (x0 + 1)))) g w3.heap.size (k + 1) dim room F5 (b6 :: B) (putS st p pv) tr :=
                          KS.aside ⟨L7, km7, fun x hx hy => by
                            rcases List.mem_cons.1 hy with e | hy
                            · have := HL5.out.at_.lt x hx; omega
                            · exact HAB5.out x hx hy, Nat.le_trans HTR.out (Nat.le_succ k)⟩ (touch_set (g := w4.heap.size) (i := 0) (List.mem_singleton.2 rfl)) (fun b hb hx => by
                              exact HF5.out b hb (List.mem_singleton.1 hx)) (fun b hb hx => by
                              have h1 := List.mem_singleton.1 hx
                              rcases List.mem_cons.1 hb with e | hy
                              · omega
                              · have := HB4.out b hy; omega) (fun b hx => by rw [List.mem_singleton.1 hx]; exact HS.out.a.below.size)
                        clear own6 own6' km7 g7 BK7 T7 L7 hx0 OW hb6
                        have HS7 := hid HP
                        clear HP
                        by_cases h7 : has (putS st p pv) z = true
                        · obtain ⟨v7, hv7⟩ := has_some h7
                          have GT := hid (get_ok HS7.out.a.at_ z v7 hv7 (by have := HTR.out; simp only; omega))
                          have hv9 : v7.length = dim := HS7.out.a.at_.fit.fit v7 (List.mem_of_getElem? hv7)
                          have HV9 := hid hv9
                          have HV7 := hid hv7
                          clear h7 hv7 hv9
                          go_wp2_with fail
                          refine GT.out.mono ?_
                          rintro e w8 ⟨A8, m8, c8, F8, rfl, hm8, hA8, own8, hat8, ht8, hF8, hx8⟩
                          have L8 : Sl w2 w8 g F8 ⟨dim, room, (putS st p pv), tr ++ [(z : Int)]⟩ := ⟨hat8, fun b hb => (hF8 b hb).elim (HS7.out.a.new b) (fun h => Nat.le_trans HS7.out.a.below.size h), HS7.out.a.below.trans (ht8.below HS7.out.a.below.size HS7.out.a.new)⟩
                          obtain ⟨km8, ab8⟩ := HS7.out.slots ht8 hF8
                          have HS8 : Hid (KS w2 w8 g w3.heap.size (k + 1) dim room F8 (b6 :: B) (putS st p pv) (tr ++ [(z : Int)])) := hid ⟨L8, km8, ab8, by have := HTR.out; simp; omega⟩
                          obtain rfl : dim = m8 := by rw [← hm8.out]; exact HV9.out.symm
                          obtain ⟨x8, hrun8, hlk8⟩ := HS8.out.m.look (n := z) (by omega)
                          rw [getD_some HV7.out] at hlk8
                          obtain ⟨b9, c9, rfl, row9, _⟩ := hlk8
                          have nn8 := neq_nil_some w8 b9 v7.length c9
                          have SM := same16 A8 (some ⟨b9, 0, none⟩) dim v7.length c8 c9 _ _ _ _ v7 v7 w8 (Row.of_own own8) (Row.of_own row9) (by omega)
                          rw [decide_eq_true rfl] at SM
                          have HSM := hid SM
                          obtain ⟨b8, rfl, hlo8, hlt8⟩ := own_some own8 (by omega)
                          have HO8 := hid own8
                          have HX8 := hid hx8
                          have HB8 := hid (show ∀ b ∈ (b6 :: B), b < b8 from fun b hb => Nat.lt_of_lt_of_le (HS7.out.map b hb).2 hlo8)
                          have HLO8 := hid (Nat.le_trans HS7.out.a.below.size hlo8)
                          clear GT L8 km8 ab8 hat8 ht8 hF8 hx8 SM row9 own8 hA8
                          go_wp2_with fail
                          refine HSM.out.mono ?_
                          rintro e w9 ⟨rfl, k9, rfl⟩
                          have HS9 := hid (HS8.out.draws k9)
                          have CN := hid HS9.out.a.count
                          have ml := HS9.out.m.len
                          go_wp2_with fail
                          refine CN.out.mono ?_
                          rintro e w10 ⟨rfl, rfl⟩
                          have hm10 : (0 : Int) < (dim : Int) := by omega
                          obtain ⟨x0, hx0⟩ : ∃ x0, v7[0]? = some x0 := ⟨v7[0]'(by rw [HV9.out]; omega), List.getElem?_eq_getElem _⟩
                          have c8' : (w8.drewN k9).cell? ⟨b8, 0, none⟩ = some (.int .i16 x0) := by
                            have h := HO8.out.cells (g := b8) rfl 0 (.int .i16 x0) (by simp [IK, hx0])
                            exact h
                          have f8' : (w8.drewN k9).frozen? ⟨b8, 0, none⟩ = false := HO8.out.frozenAt 0
                          clear hrun8 hx0
                          go_wp2
                          have HE := hid (HS9.out.aside (touch_set (g := b8) (i := 0) (u := .int .i16 (IntKind.i16.wrap (x0 + 1))) (List.mem_singleton.2 rfl)) (fun b hb hx => HX8.out b8 rfl (by rw [← List.mem_singleton.1 hx]; exact hb)) (fun b hb hx => by
                            have h1 := HB8.out b hb
                            have h2 := List.mem_singleton.1 hx
                            omega) (fun b hx => by rw [List.mem_singleton.1 hx]; exact HLO8.out))
                          exact ⟨⟨k + 1, F8, (b6 :: B), (putS st p pv), _, hlt, by go_num, HE⟩, by simp [intOf]; omega⟩
                        · have h7 : has (putS st p pv) z = false := by simpa using h7
                          have GT := hid (get_no HS7.out.a.at_ (z : Int) (by omega) (by rw [hasI_nat]; exact h7))
                          have H7 := hid h7
                          clear h7
                          go_wp2_with fail
                          refine GT.out.mono ?_
                          rintro e w8 ⟨rfl, k8, rfl⟩
                          have HS8 := hid (HS7.out.draws k8)
                          obtain ⟨x8, hrun8, hlk8⟩ := HS8.out.m.look (n := z) (by omega)
                          rw [getD_none H7.out] at hlk8
                          obtain rfl : x8 = .slice none 0 0 := hlk8
                          have nn8 := neq_nil_nil
                          have HSM := hid (fun W : World => same16 none none 0 0 0 0 0 0 0 0 [] [] W (row_none W) (row_none W) (by omega))
                          go_wp2_with fail
                          refine (HSM.out _).mono ?_
                          rintro e w9 ⟨rfl, k9, rfl⟩
                          have HS9 := hid (HS7.out.draws (k8 + k9))
                          have CN := hid HS9.out.a.count
                          have ml := HS9.out.m.len
                          go_wp2_with fail
                          refine CN.out.mono ?_
                          rintro e w10 ⟨rfl, rfl⟩
                          clear hrun8
                          go_wp2
                          exact ⟨⟨k + 1, F5, (b6 :: B), (putS st p pv), tr, hlt, by go_num, HS9⟩, by simp [intOf]; omega⟩
      · obtain rfl : k = n := by omega
        go_wp2
        go_ret
        exact ⟨rfl, HB1.out.trans (HS.out.a.below.mono HB1.out.size)⟩
end Go.Proofs.YtamglgampeoepaaDoor
