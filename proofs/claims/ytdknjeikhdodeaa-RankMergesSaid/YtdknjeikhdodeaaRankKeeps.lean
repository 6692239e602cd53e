/-
  The walk of RankKeeps.
-/
import Derived.Test.YtdknjeikhdodeaaRankCalls2
import Derived.Test.YtdknjeikhdodeaaLeft
namespace Go.Proofs.Ytdknjeikhdodeaa
open Go.RowKit Go.Sort

theorem TopAt.below_of {w w' : World} {T k : Nat} {G : Option Nat} {l : List (Int × Int)} (h : TopAt w T G k l) (hb : Below w.heap.size w w') : TopAt w' T G k l := h.touch (touch_below hb rfl []) (by simp) (by simp)
theorem apart_symm {T T2 : Nat} {G R : Option Nat} (h : Apart T G T2 R) (h1 : ∀ r, R = some r → T2 ≠ r) (h2 : ∀ g, G = some g → g ≠ T) : Apart T2 R T G :=
  ⟨fun e => h.1 e.symm, fun r hr => ⟨fun e => (h.2.2.1 r hr).1 e.symm, h1 r hr⟩, fun g hg => ⟨fun e => (h.2.1 g hg).1 e.symm, h2 g hg⟩, fun r g hr hg e => h.2.2.2 g r hg hr e.symm⟩
/-- If k are kept, k are kept with one more, and the last one is not farther. -/
theorem worst_goes {k : Nat} {l : List (Int × Int)} {x : Int × Int} (h : wok k l = true) : wok k (l ++ [x]) = true ∧ nlt (wst k l) (wst k (l ++ [x])) = false := by
  have hc : 0 < k ∧ (keep k l).length = k := of_decide_eq_true h
  have hc2 : 0 < k ∧ (keep k (l ++ [x])).length = k := by
    refine ⟨hc.1, ?_⟩
    have := hc.2
    rw [keep_len] at this ⊢
    simp
    omega
  have hs : keep k l ≠ [] := by intro e; have := hc.2; rw [e] at this; simp at this; omega
  have hs2 : keep k (l ++ [x]) ≠ [] := by intro e; have := hc2.2; rw [e] at this; simp at this; omega
  refine ⟨decide_eq_true hc2, ?_⟩
  unfold wst
  rw [if_pos hc, if_pos hc2, last_of _ hs, last_of _ hs2]
  exact keep_worst hc.2 hs hs2
theorem count_next {l : List (Int × Int)} {u : Nat} (hu : u < l.length) {x : Int × Int} (hx : l.getD u (0, 0) = x) (y : Int × Int) : (l.take (u + 1)).count y = (l.take u).count y + (if y = x then 1 else 0) := by
  have e : l.take (u + 1) = l.take u ++ [x] := by
    rw [List.take_succ_eq_append_getElem hu, ← hx]
    simp [List.getD_eq_getElem?_getD, hu]
  rw [e, List.count_append, List.count_singleton]
  by_cases h : y = x
  · subst h; simp
  · simp [h, Ne.symm h]
theorem Nears.touch_ {w w' : World} {lo hi n M : Nat} {A : Option Addr} {l : List (Int × Int)} (h : Nears w lo hi A n l) (ht : Touch w w' [M]) (hM : hi ≤ M) : Nears w' lo hi A n l := by
  refine ⟨h.1, fun hn => ?_⟩
  obtain ⟨b, off, e, h1, h2, hc⟩ := h.2 hn
  refine ⟨b, off, e, h1, h2, fun j hj => ?_⟩
  obtain ⟨c1, c2⟩ := hc j hj
  have hb := World.block_lt_of_cell? w _ c1
  have hn : b ∉ [M] := by simp; omega
  exact ⟨(World.cell?_of_block (ht.block b hb hn)).trans c1, (World.cell?_of_block (ht.block b hb hn)).trans c2⟩
theorem Left.congr {w : World} {M n : Nat} {f g : Int × Int → Int} (h : Left w M n f) (e : ∀ x, f x = g x) : Left w M n g := by
  have : f = g := funext e
  rwa [← this]
set_option maxRecDepth 100000 in
set_option maxHeartbeats 25600000 in
theorem rankKeeps_ok (A : Option Addr) (n c : Nat) (l : List (Int × Int)) (k0 : Int) (w : World) (hN : Nears w 0 w.heap.size A n l) (hA : A = none → c = 0) (hn : n ≤ 150) (hw : ∀ x ∈ l, WF x) :
    Calls Try.prog 6 #[.slice A n c, .int .i64 k0] w fun e w' => e = .returned (.bool true) ∧ Below w.heap.size w w' := by
  have HA := hid hA
  have HL := hid hN.1
  have HNW := hid hN
  have HWF := hid hw
  clear hA hN hw
  obtain ⟨k, HK, hk⟩ : ∃ k : Nat, Hid (k0 % 150 = (k : Int)) ∧ k < 150 := ⟨(k0 % 150).toNat, hid (by omega), by omega⟩
  go_enter Try.func6, Try.ntmps6
  go_wp2_with fail
  refine (lives_any _).mono ?_
  rintro e w1 ⟨rfl, hb1⟩
  have hlen : ¬ (150 < n) := by omega
  go_wp2_with fail
  refine (pick_at k0 150 (k : Int) _ (by omega) (by omega) HK.out).mono ?_
  rintro e w2 ⟨rfl, rfl⟩
  go_wp2_with fail
  refine (new_ok k (by omega) _).mono ?_
  rintro e w2 ⟨rfl, hT2, L2⟩
  go_wp2_with fail
  refine (new_ok k (by omega) _).mono ?_
  rintro e w3 ⟨rfl, hT3, L3⟩
  have hTa := hT2.lays L3
  have hb3 := hb1.trans ((L2.trans L3).below.mono hb1.size)
  have hlt2 : w1.heap.size < w2.heap.size := hT2.lt.1
  have hz1 := hb1.size
  obtain ⟨T, hTe⟩ : ∃ T, w1.heap.size = T := ⟨_, rfl⟩
  obtain ⟨U2, hUe⟩ : ∃ U, w2.heap.size = U := ⟨_, rfl⟩
  rw [hTe] at hTa hlt2 hz1
  rw [hUe] at hT3 hlt2
  rw [hTe, hUe]
  clear hTe hUe hT2 L2 L3 hb1
  have hap : Apart T none U2 none := ⟨by omega, (fun g e => by cases e), (fun r e => by cases e), fun g r e => by cases e⟩
  go_wp2
  go_loopw [9] (fun i wr => ∃ (j : Nat) (G R : Option Nat), j ≤ n ∧ i = .int .i64 j ∧ TopAt wr T G k (l.take j) ∧ TopAt wr U2 R k (l.reverse.take j) ∧ Apart T G U2 R ∧ Below w.heap.size w wr) (fun i _ => n - (intOf i).toNat)
  case atStart => exact ⟨0, none, none, Nat.zero_le _, rfl, hTa, hT3, hap, hb3⟩
  case round =>
    clear hTa hT3 hap hb3
    obtain ⟨j, G, R, hj, rfl, hT, hU, hap, hb⟩ := hrel
    have hsz := hb.size
    by_cases hlt : j < n
    · obtain ⟨bq, off, rfl, _, hbq, c1, c2⟩ := HNW.out.at_ hlt
      obtain ⟨⟨p1, p2⟩, HP⟩ : ∃ y, Hid (l.getD j (0, 0) = y) := ⟨_, hid rfl⟩
      rw [HP.out] at c1 c2
      obtain ⟨q, hqn⟩ : ∃ q, n = q + 1 := ⟨n - 1, by omega⟩
      obtain ⟨m, hqm⟩ : ∃ m, q = m + j := ⟨q - j, by omega⟩
      obtain ⟨bq', off', e', _, _, c3, c4⟩ := HNW.out.at_ (j := m) (by omega)
      injection e' with e'
      injection e' with e1 e2
      subst e1 e2
      obtain ⟨⟨q1, q2⟩, HQ⟩ : ∃ y, Hid (l.getD m (0, 0) = y) := ⟨_, hid rfl⟩
      rw [HQ.out] at c3 c4
      have CJ : ∀ W : World, Below w.heap.size w W → W.cell? ⟨bq, off + j * 2, none⟩ = some (.int .i64 p1) ∧ W.cell? ⟨bq, off + j * 2 + 1, none⟩ = some (.int .i64 p2) := fun W h => ⟨(h.cell hbq).trans c1, (h.cell hbq).trans c2⟩
      have CM : ∀ W : World, Below w.heap.size w W → W.cell? ⟨bq, off + m * 2, none⟩ = some (.int .i64 q1) ∧ W.cell? ⟨bq, off + m * 2 + 1, none⟩ = some (.int .i64 q2) := fun W h => ⟨(h.cell hbq).trans c3, (h.cell hbq).trans c4⟩
      have HS : Hid (l.take j ++ [(p1, p2)] = l.take (j + 1)) := by
        have hk' : j < l.length := by rw [HL.out]; exact hlt
        exact hid (by rw [List.take_succ_eq_append_getElem hk', ← HP.out]; simp [List.getD_eq_getElem?_getD, hk'])
      have HS2 : Hid (l.reverse.take j ++ [(q1, q2)] = l.reverse.take (j + 1)) := by
        have hk' : j < l.reverse.length := by rw [List.length_reverse, HL.out]; exact hlt
        have hm' : m < l.length := by rw [HL.out]; omega
        refine hid (by
          rw [List.take_succ_eq_append_getElem hk', ← HQ.out, List.getElem_reverse]
          congr 2
          rw [List.getD_eq_getElem?_getD, List.getElem?_eq_getElem hm', Option.getD_some]
          congr 1
          rw [HL.out]
          omega)
      have i1 : (n : Int) - 1 = (q : Int) := by omega
      have i2 : (q : Int) - (j : Int) = (m : Int) := by omega
      have i3 : m < n := by omega
      have i4 : IntKind.i64.wrap (q : Int) = (q : Int) := wrap_i64 (by omega) (by omega)
      have i5 : IntKind.i64.wrap (m : Int) = (m : Int) := wrap_i64 (by omega) (by omega)
      clear c1 c2 c3 c4 hqn hqm
      obtain ⟨⟨s1, s2⟩, HST⟩ : ∃ y, Hid (wst k (l.take j) = y) := ⟨_, hid rfl⟩
      obtain ⟨⟨t1, t2⟩, HTT⟩ : ∃ y, Hid (wst k (l.take (j + 1)) = y) := ⟨_, hid rfl⟩
      obtain ⟨r, HR⟩ : ∃ y, Hid (wok k (l.take j) = y) := ⟨_, hid rfl⟩
      obtain ⟨r', HR'⟩ : ∃ y, Hid (wok k (l.take (j + 1)) = y) := ⟨_, hid rfl⟩
      obtain ⟨ra, HRA⟩ : ∃ v, Hid (adds k (l.take j) (p1, p2) = v) := ⟨_, hid rfl⟩
      obtain ⟨rb, HRB⟩ : ∃ v, Hid (adds k (l.reverse.take j) (q1, q2) = v) := ⟨_, hid rfl⟩
      have hTl := hT.lt
      have hUl := hU.lt
      go_wp2_with fail
      refine (worst_any wr T k G _ hT).mono ?_
      rw [HST.out, HR.out]
      rintro e w4 ⟨rfl, L4⟩
      have L4b := L4.trans (lays_alloc w4 (.cells #[.int .i64 s1, .int .i64 s2] 29))
      have b4 := Box.new w4 29 s1 s2
      have hB4 : wr.heap.size ≤ w4.heap.size := L4.below.size
      have hT5 := hT.lays L4b
      have hU5 := hU.lays L4b
      have hb5 := hb.trans (L4b.below.mono hsz)
      clear L4 L4b hT hU hb
      obtain ⟨c1, c2⟩ := CJ _ hb5
      go_wp2_with fail
      obtain ⟨B4, hB4e⟩ : ∃ B, w4.heap.size = B := ⟨_, rfl⟩
      rw [hB4e] at b4 hB4 ⊢
      clear hB4e
      generalize w4.alloc (.cells #[.int .i64 s1, .int .i64 s2] 29) = w5 at b4 hT5 hU5 hb5 c1 c2 ⊢
      refine (add_any w5 T k G (l.take j) (p1, p2) hT5 (by omega)).mono ?_
      rw [HRA.out, HS.out]
      rintro e w6 ⟨G6, rfl, hT6, mv6⟩
      have hTl5 := hT5.lt
      have hUl5 := hU5.lt
      have hb6 := hb5.trans (mv6.below hb5.size hz1 (fun g hg => (hTl.2 g hg).1))
      have hU6 := hU5.touch mv6.2 (apart_mem hap).1 (apart_mem hap).2
      have b6 := b4.touch mv6.2 (not_mem_top (by omega) (fun g hg => by have := (hTl.2 g hg).2; omega))
      have hap6 := apart_left hap mv6.1 hUl5.1 (fun r hr => (hUl5.2 r hr).2) hTl5.1
      clear mv6 hT5 hU5 hap hb5 b4 c1 c2
      obtain ⟨c1, c2⟩ := CM _ hb6
      have hTl6 := hT6.lt
      have hUl6 := hU6.lt
      go_wp2_with fail
      refine (add_any w6 U2 k R (l.reverse.take j) (q1, q2) hU6 (by omega)).mono ?_
      rw [HRB.out, HS2.out]
      rintro e w7 ⟨R7, rfl, hU7, mv7⟩
      have hap6' := apart_symm hap6 (fun r hr => by have := (hUl6.2 r hr).1; omega) (fun g hg => by have := (hTl6.2 g hg).1; omega)
      have hb7 := hb6.trans (mv7.below hb6.size (by omega) (fun g hg => (hUl6.2 g hg).1))
      have hT7 := hT6.touch mv7.2 (apart_mem hap6').1 (apart_mem hap6').2
      have b7 := b6.touch mv7.2 (not_mem_top (by omega) (fun g hg => by have := (hUl.2 g hg).2; omega))
      have hap7 := apart_right hap6 mv7.1 hTl6.1 (fun g hg => (hTl6.2 g hg).2) hUl6.1
      clear mv7 hT6 hU6 hap6 hap6' hb6 b6 c1 c2 CJ CM
      go_wp2_with fail
      refine (worst_any w7 T k G6 _ hT7).mono ?_
      rw [HTT.out, HR'.out]
      rintro e w8 ⟨rfl, L8⟩
      have L8b := L8.trans (lays_alloc w8 (.cells #[.int .i64 t1, .int .i64 t2] 29))
      have b8 := Box.new w8 29 t1 t2
      have hT9 := hT7.lays L8b
      have hU9 := hU7.lays L8b
      have b9 := b7.lays L8b
      have hb9 := hb7.trans (L8b.below.mono hb7.size)
      clear L8 L8b hT7 hU7 hb7 b7
      obtain ⟨d0, d1, _⟩ := b9
      obtain ⟨f0, f1, _⟩ := b8
      cases r
      case false =>
        go_wp2
        go_roundw
        case rel => exact ⟨j + 1, G6, R7, by omega, by go_num, hT9, hU9, hap7, hb9⟩
        case measure => simp [intOf]; omega
      case true =>
        have hgo := worst_goes (x := (p1, p2)) HR.out
        rw [HS.out, HST.out, HTT.out, HR'.out] at hgo
        obtain ⟨rfl, hless⟩ := hgo
        have cl := less_q (w8.alloc (.cells #[.int .i64 t1, .int .i64 t2] 29)) s1 s2 t1 t2 false hless _ (Below.refl _ _)
        go_wp2_with fail
        refine cl.mono ?_
        rintro e wa ⟨rfl, hqa⟩
        have hTx := hT9.below_of hqa
        have hUx := hU9.below_of hqa
        have hbx := hb9.trans (hqa.mono hb9.size)
        clear hT9 hU9 hb9 hqa d0 d1 f0 f1
        go_wp2
        go_roundw
        case rel => exact ⟨j + 1, G6, R7, by omega, by go_num, hTx, hUx, hap7, hbx⟩
        case measure => simp [intOf]; omega
    · obtain rfl : j = n := by omega
      rw [List.take_of_length_le (by rw [HL.out]; exact Nat.le_refl _)] at hT
      rw [List.take_of_length_le (by rw [List.length_reverse, HL.out]; exact Nat.le_refl _)] at hU
      clear hlt hj hap
      go_wp2_with fail
      refine (list_any wr T k G l hT (by omega)).mono ?_
      rintro e w5 ⟨A5, n5, c5, rfl, HL5, HA5, _, _, hN5, hb5⟩
      have hU5 := hU.below_of hb5
      have hbb5 := hb.trans (hb5.mono hsz)
      have HN5 : Hid (n5 = min k j) := hid (by rw [← HL5.out, keep_len, HL.out])
      have hn5 : n5 ≤ 150 := by have := HN5.out; omega
      clear hU hT hb
      go_wp2_with fail
      refine (list_any w5 U2 k R l.reverse hU5 (by omega)).mono ?_
      rintro e w6 ⟨A6, n6, c6, rfl, HL6, HA6, _, _, hN6, hb6⟩
      rw [keep_of_perm k (List.reverse_perm l)] at hN6 HL6
      obtain rfl : n6 = n5 := by rw [← HL5.out, HL6.out]
      have hN56 := hN5.below hb6 (Nat.le_refl _)
      have hbb6 := hbb5.trans (hb6.mono hbb5.size)
      have HS6 := hid hb6.size
      clear hU5 hbb5 hb6
      go_wp2_with fail
      refine (same_yes A5 A6 n6 n6 c5 c6 _ _ _ _ _ _ w6 hN56 hN6 (by omega) rfl).mono ?_
      rintro e w7 ⟨rfl, q7, hq7⟩
      have hN7 : Nears w7 wr.heap.size w5.heap.size A5 n6 (keep k l) := by rw [hq7]; exact hN56
      have hbb7 : Below w.heap.size w w7 := by rw [hq7]; exact below_drewN hbb6 q7
      have hs7 : w5.heap.size ≤ w7.heap.size := by rw [hq7]; exact HS6.out
      clear hq7 hN56 hN6 hbb6
      have hmin : ((n6 : Int) != min (k : Int) (j : Int)) = false := by have := HN5.out; simp; omega
      have hmin2 : min (k : Int) (j : Int) = (n6 : Int) := by have := HN5.out; omega
      have hnz : ((n6 : Int) != (n6 : Int)) = false := by simp
      have hmm := @run_makeMap Try.prog
      go_wp2
      have hL0 := left_new w7
      have hN8 := hN7.lays (lays_alloc w7 (.map #[] 0)) hs7
      have hb8 := hbb7.trans ((lays_alloc w7 (.map #[] 0)).below.mono hbb7.size)
      obtain ⟨M, hM⟩ : ∃ M, w7.heap.size = M := ⟨_, rfl⟩
      rw [hM] at hL0 hs7 ⊢
      clear hM hN7 hbb7 hmm
      have hwM : w.heap.size ≤ M := by have := hb5.size; omega
      obtain ⟨lo5, hlo5⟩ : ∃ x, wr.heap.size = x := ⟨_, rfl⟩
      obtain ⟨hi5, hhi5⟩ : ∃ x, w5.heap.size = x := ⟨_, rfl⟩
      rw [hlo5, hhi5] at hN8
      rw [hhi5] at hs7
      clear hlo5 hhi5 hb5 hN5
      generalize w7.alloc (.map #[] 0) = w8 at hL0 hN8 hb8 ⊢
      go_loopw [16] (fun i wu => ∃ u : Nat, u ≤ j ∧ i = .int .i64 u ∧ Left wu M u (fun y => ((l.take u).count y : Int)) ∧ Nears wu lo5 hi5 A5 n6 (keep k l) ∧ Below w.heap.size w wu) (fun i _ => j - (intOf i).toNat)
      case atStart => exact ⟨0, Nat.zero_le _, rfl, hL0, hN8, hb8⟩
      case round =>
        clear hL0 hN8 hb8
        obtain ⟨u, hu, rfl, hLf, hNx, hbu⟩ := hrel
        by_cases hlu : u < j
        · obtain ⟨bq, off, rfl, _, hbq, c1, c2⟩ := HNW.out.at_ hlu
          obtain ⟨⟨p1, p2⟩, HP⟩ : ∃ y, Hid (l.getD u (0, 0) = y) := ⟨_, hid rfl⟩
          rw [HP.out] at c1 c2
          have hul : u < l.length := by rw [HL.out]; exact hlu
          have hpw : WF (p1, p2) := by
            refine HWF.out _ ?_
            rw [← HP.out, List.getD_eq_getElem?_getD, List.getElem?_eq_getElem hul]
            exact List.getElem_mem _
          obtain ⟨cc, HC⟩ : ∃ cc : Nat, Hid ((l.take u).count (p1, p2) = cc) := ⟨_, hid rfl⟩
          have hcc : cc ≤ 150 := by
            rw [← HC.out]
            refine Nat.le_trans List.count_le_length ?_
            rw [List.length_take]
            omega
          have hLd := hLf.touch (touch_lays (lays_drewN wr 1) []) (by simp)
          have hlook := hLd.look hpw
          obtain ⟨v0, st, wv, wx, hent, hsto, hLx, hgx⟩ := hLd.store (by omega) hpw (v := (cc : Int) + 1) (by simp [Lit.wf, IntKind.min, IntKind.max, IntKind.signed, IntKind.bits]; omega)
          have hlook' : (Instr.lookup 47 (.map (some M)) (.agg #[.int .i64 p1, .int .i64 p2]) false).run Try.prog wr.drew = .ok (.int .i64 (cc : Int)) wr.drew := by rw [← HC.out]; exact hlook
          have hent' : (Instr.mapEntry 47 (.map (some M)) (.agg #[.int .i64 p1, .int .i64 p2])).run Try.prog wr.drew = .ok (.tuple #[v0, .int .i64 st]) wv := hent
          have hlookv : (Instr.lookup 47 (.map (some M)) (.agg #[.int .i64 p1, .int .i64 p2]) false).run Try.prog wv = .ok (.int .i64 (cc : Int)) wv := by rw [← HC.out]; exact (hLd.entry (by omega) hpw hent).1.look hpw
          have d1 : wr.cell? ⟨bq, off + u * 2, none⟩ = some (.int .i64 p1) := (hbu.cell hbq).trans c1
          have d2 : wr.cell? ⟨bq, off + u * 2 + 1, none⟩ = some (.int .i64 p2) := (hbu.cell hbq).trans c2
          have hwc : IntKind.i64.wrap ((cc : Int) + 1) = (cc : Int) + 1 := wrap_i64 (by omega) (by omega)
          have HLX := hid hLx
          have HGX := hid hgx
          clear hlook hent hLd c1 c2 hLx hgx
          go_wp2
          go_region
          all_goals
            have t9 : Touch wr wx [M] := (touch_lays (lays_drewN wr 1) [M]).trans (touch_grown HGX.out (fun g hg => by injection hg with hg; simp [hg]))
            have hb9 := hbu.trans (t9.below hbu.size (fun i hi => by have : i = M := (by simpa using hi); omega))
            have hN9 := hNx.touch_ t9 hs7
            have hL9 : Left wx M (u + 1) (fun y => ((l.take (u + 1)).count y : Int)) := HLX.out.congr (fun y => by
              rw [count_next hul HP.out y]
              by_cases e : y = (p1, p2)
              · subst e
                rw [if_pos rfl, if_pos rfl, HC.out]
                omega
              · rw [if_neg e, if_neg e]
                omega)
            clear t9
            go_wp2
            go_roundw
            case rel => exact ⟨u + 1, by omega, by go_num, hL9, hN9, hb9⟩
            case measure => simp [intOf]; omega
        · obtain rfl : u = j := by omega
          rw [List.take_of_length_le (by rw [HL.out]; exact Nat.le_refl _)] at hLf
          have hL1 : Left wr M (u + 0) (fun y => (l.count y : Int) - (((keep k l).take 0).count y : Int)) := hLf.congr (fun y => by simp)
          clear hLf hlu hu
          go_wp2
          go_loopw [17] (fun i wu => ∃ v : Nat, v ≤ n6 ∧ i = .int .i64 v ∧ Left wu M (u + v) (fun y => (l.count y : Int) - (((keep k l).take v).count y : Int)) ∧ Nears wu lo5 hi5 A5 n6 (keep k l) ∧ Below w.heap.size w wu) (fun i _ => n6 - (intOf i).toNat)
          case atStart => exact ⟨0, Nat.zero_le _, rfl, hL1, hNx, hbu⟩
          case round =>
            clear hL1 hNx hbu
            obtain ⟨v, hv, rfl, hLf, hNx, hbu⟩ := hrel
            by_cases hlv : v < n6
            · obtain ⟨bx, ox, rfl, _, hbx, c1, c2⟩ := hNx.at_ hlv
              have hvl : v < (keep k l).length := by rw [HL5.out]; exact hlv
              obtain ⟨⟨p1, p2⟩, HP⟩ : ∃ y, Hid ((keep k l).getD v (0, 0) = y) := ⟨_, hid rfl⟩
              rw [HP.out] at c1 c2
              have hpm : (p1, p2) ∈ keep k l := by
                rw [← HP.out, List.getD_eq_getElem?_getD, List.getElem?_eq_getElem hvl]
                exact List.getElem_mem _
              have hpw : WF (p1, p2) := HWF.out _ ((keep_parts k l).mem_iff.1 (List.mem_append_left _ hpm))
              obtain ⟨cz, HC⟩ : ∃ cz : Nat, Hid (l.count (p1, p2) = cz + 1 + ((keep k l).take v).count (p1, p2)) := by
                have h1 := count_next hvl HP.out (p1, p2)
                rw [if_pos rfl] at h1
                have h2 : ((keep k l).take (v + 1)).count (p1, p2) ≤ (keep k l).count (p1, p2) := (List.take_sublist _ _).count_le _
                have h3 := keep_count k l (p1, p2)
                exact ⟨l.count (p1, p2) - (((keep k l).take v).count (p1, p2) + 1), hid (by omega)⟩
              have hcz : cz ≤ 150 := by
                have h1 := HC.out
                have h2 : l.count (p1, p2) ≤ l.length := List.count_le_length
                rw [HL.out] at h2
                omega
              have hLd := hLf.touch (touch_lays (lays_drewN wr 1) []) (by simp)
              have hlook := hLd.look hpw
              obtain ⟨v0, st, wv, wx, hent, hsto, hLx, hgx⟩ := hLd.store (by omega) hpw (v := (cz : Int)) (by simp [Lit.wf, IntKind.min, IntKind.max, IntKind.signed, IntKind.bits]; omega)
              have hval : (l.count (p1, p2) : Int) - (((keep k l).take v).count (p1, p2) : Int) = (cz : Int) + 1 := by have := HC.out; omega
              have hlookv := (hLd.entry (by omega) hpw hent).1.look hpw
              rw [hval] at hlook hlookv
              have hlook' : (Instr.lookup 47 (.map (some M)) (.agg #[.int .i64 p1, .int .i64 p2]) false).run Try.prog wr.drew = .ok (.int .i64 ((cz : Int) + 1)) wr.drew := hlook
              have hent' : (Instr.mapEntry 47 (.map (some M)) (.agg #[.int .i64 p1, .int .i64 p2])).run Try.prog wr.drew = .ok (.tuple #[v0, .int .i64 st]) wv := hent
              have hlookv' : (Instr.lookup 47 (.map (some M)) (.agg #[.int .i64 p1, .int .i64 p2]) false).run Try.prog wv = .ok (.int .i64 ((cz : Int) + 1)) wv := hlookv
              have hwc : IntKind.i64.wrap (cz : Int) = (cz : Int) := wrap_i64 (by omega) (by omega)
              have t9 : Touch wr wx [M] := (touch_lays (lays_drewN wr 1) [M]).trans (touch_grown hgx (fun g hg => by injection hg with hg; simp [hg]))
              have hb9 := hbu.trans (t9.below hbu.size (fun i hi => by have : i = M := (by simpa using hi); omega))
              have hN9 := hNx.touch_ t9 hs7
              have hL9 : Left wx M (u + v + 1) (fun y => (l.count y : Int) - (((keep k l).take (v + 1)).count y : Int)) := hLx.congr (fun y => by
                rw [count_next hvl HP.out y]
                by_cases e : y = (p1, p2)
                · subst e
                  rw [if_pos rfl, if_pos rfl]
                  have := HC.out
                  omega
                · rw [if_neg e, if_neg e]
                  omega)
              have hless : 0 < v → nlt (p1, p2) ((keep k l).getD (v - 1) (0, 0)) = false := fun h0 => by
                have ho := keep_ord k l
                unfold Ord at ho
                rw [List.pairwise_iff_getElem] at ho
                have := ho (v - 1) v (by omega) hvl (by omega)
                rw [← HP.out, List.getD_eq_getElem?_getD, List.getD_eq_getElem?_getD, List.getElem?_eq_getElem hvl, List.getElem?_eq_getElem (show v - 1 < (keep k l).length by omega)]
                exact this
              have HNX := hid hNx
              have HL9 := hid hL9
              have HN9 := hid hN9
              have HLESS := hid hless
              clear hlook hent hlookv hLd hLx hgx hval t9 hL9 hN9 hless hNx hLf hpm
              go_wp2
              go_region
              all_goals
                have hlk := fun n os => (HL9.out.touch (touch_lays (lays_mk wx n os) []) (by simp)).look hpw
                have hcz2 : (l.count (p1, p2) : Int) - (((keep k l).take (v + 1)).count (p1, p2) : Int) = (cz : Int) := by
                  have := count_next hvl HP.out (p1, p2)
                  rw [if_pos rfl] at this
                  have := HC.out
                  omega
                rw [hcz2] at hlk
                have hlk' : ∀ n os, (Instr.lookup 47 (.map (some M)) (.agg #[.int .i64 p1, .int .i64 p2]) false).run Try.prog (grow (wx.drewN n) os) = .ok (.int .i64 (cz : Int)) (grow (wx.drewN n) os) := hlk
                obtain ⟨_, _, e9, _, hbx9, g1, g2⟩ := HN9.out.at_ hlv
                injection e9 with e9
                injection e9 with e91 e92
                subst e91 e92
                rw [HP.out] at g1 g2
                have hbx2 : bx < wx.heap.size := World.block_lt_of_cell? wx _ g1
                have k1 := cell_grown (a := ⟨bx, ox + v * 2, none⟩) hbx2 g1
                have k2 := cell_grown (a := ⟨bx, ox + v * 2 + 1, none⟩) hbx2 g2
                clear hlk hcz2 g1 g2
                go_wp2
                by_cases hv0 : 0 < v
                · obtain ⟨m, hvm⟩ : ∃ m, v = m + 1 := ⟨v - 1, by omega⟩
                  obtain ⟨_, _, e9, _, _, g1, g2⟩ := HN9.out.at_ (j := m) (by omega)
                  injection e9 with e9
                  injection e9 with e91 e92
                  subst e91 e92
                  obtain ⟨⟨y1, y2⟩, HY⟩ : ∃ y, Hid ((keep k l).getD m (0, 0) = y) := ⟨_, hid rfl⟩
                  rw [HY.out] at g1 g2
                  have k3 := cell_grown (a := ⟨bx, ox + m * 2, none⟩) hbx2 g1
                  have k4 := cell_grown (a := ⟨bx, ox + m * 2 + 1, none⟩) hbx2 g2
                  have hle := HLESS.out hv0
                  rw [hvm, Nat.add_sub_cancel, HY.out] at hle
                  have hls : ∀ W, Calls Try.prog 15 #[.agg #[.int .i64 p1, .int .i64 p2], .agg #[.int .i64 y1, .int .i64 y2]] W (Gr W (.bool false)) := fun W => by
                    have := less_any (p1, p2) (y1, y2) W
                    rwa [hle] at this
                  have hvi : (v : Int) - 1 = (m : Int) := by omega
                  have hmn : m < n6 := by omega
                  have hwm : IntKind.i64.wrap (m : Int) = (m : Int) := wrap_i64 (by omega) (by omega)
                  have hczz : decide ((cz : Int) < 0) = false := by simp
                  have hv00 : decide ((0 : Int) < (v : Int)) = true := by simp; omega
                  clear g1 g2 hle hvm
                  refine wp_region_quiet_grown (by kernel_rfl) (by kernel_rfl) ?_
                  repeat (go_big_quiet_step (first | (go_at_call 15; exact Calls.grown_of (hls _))))
                  refine wpQuiet_nil ?_
                  intro _ hw'
                  obtain ⟨⟨nq, osq⟩, hw''⟩ := hw'
                  subst hw''
                  have Lq := lays_mk wx nq osq
                  have hLq := HL9.out.touch (touch_lays Lq []) (by simp)
                  have hNq := HN9.out.lays Lq (by have := HL9.out.lt; omega)
                  have hbq := hb9.trans (Lq.below.mono hb9.size)
                  clear k1 k2 k3 k4 hlk' hls Lq
                  go_wp2
                  go_roundw
                  case rel => exact ⟨v + 1, by omega, by go_num, hLq, hNq, hbq⟩
                  case measure => simp [intOf]; omega
                · have hv00 : decide ((0 : Int) < (v : Int)) = false := by simp; omega
                  have hczz : decide ((cz : Int) < 0) = false := by simp
                  refine wp_region_quiet_grown (by kernel_rfl) (by kernel_rfl) ?_
                  repeat (go_big_quiet_step (fail))
                  refine wpQuiet_nil ?_
                  intro _ hw'
                  obtain ⟨⟨nq, osq⟩, hw''⟩ := hw'
                  subst hw''
                  have Lq := lays_mk wx nq osq
                  have hLq := HL9.out.touch (touch_lays Lq []) (by simp)
                  have hNq := HN9.out.lays Lq (by have := HL9.out.lt; omega)
                  have hbq := hb9.trans (Lq.below.mono hb9.size)
                  clear k1 k2 hlk' Lq
                  go_wp2
                  go_roundw
                  case rel => exact ⟨v + 1, by omega, by go_num, hLq, hNq, hbq⟩
                  case measure => simp [intOf]; omega
            · obtain rfl : v = n6 := by omega
              rw [List.take_of_length_le (by rw [HL5.out]; exact Nat.le_refl _)] at hLf
              have hL1 : Left wr M (u + v) (fun y => (((srt l).drop k).count y : Int)) := hLf.congr (fun y => by
                have := keep_count k l y
                omega)
              clear hLf hlv hv
              go_wp2
              go_loopw [18] (fun i wu => ∃ t : Nat, t ≤ u ∧ i = .int .i64 t ∧ Left wu M (u + v) (fun y => (((srt l).drop k).count y : Int)) ∧ Nears wu lo5 hi5 A5 v (keep k l) ∧ Below w.heap.size w wu) (fun i _ => u - (intOf i).toNat)
              case atStart => exact ⟨0, Nat.zero_le _, rfl, hL1, hNx, hbu⟩
              case round =>
                clear hL1 hNx hbu
                obtain ⟨t, ht, rfl, hLf, hNx, hbu⟩ := hrel
                by_cases hlt4 : t < u
                · by_cases hv0 : 0 < v
                  · obtain ⟨bq, off, rfl, _, hbq, c1, c2⟩ := HNW.out.at_ hlt4
                    obtain ⟨⟨p1, p2⟩, HP⟩ : ∃ y, Hid (l.getD t (0, 0) = y) := ⟨_, hid rfl⟩
                    rw [HP.out] at c1 c2
                    have htl : t < l.length := by rw [HL.out]; exact hlt4
                    have hpw : WF (p1, p2) := by
                      refine HWF.out _ ?_
                      rw [← HP.out, List.getD_eq_getElem?_getD, List.getElem?_eq_getElem htl]
                      exact List.getElem_mem _
                    obtain ⟨m, hvm⟩ : ∃ m, v = m + 1 := ⟨v - 1, by omega⟩
                    obtain ⟨bx, ox, rfl, _, hbx, g1, g2⟩ := hNx.at_ (j := m) (by omega)
                    obtain ⟨⟨y1, y2⟩, HY⟩ : ∃ y, Hid ((keep k l).getD m (0, 0) = y) := ⟨_, hid rfl⟩
                    rw [HY.out] at g1 g2
                    have hbx2 : bx < wr.heap.size := World.block_lt_of_cell? wr _ g1
                    have hbq2 : bq < wr.heap.size := Nat.lt_of_lt_of_le hbq hbu.size
                    have k1 := cell_grown (a := ⟨bq, off + t * 2, none⟩) hbq2 ((hbu.cell hbq).trans c1)
                    have k2 := cell_grown (a := ⟨bq, off + t * 2 + 1, none⟩) hbq2 ((hbu.cell hbq).trans c2)
                    have k3 := cell_grown (a := ⟨bx, ox + m * 2, none⟩) hbx2 g1
                    have k4 := cell_grown (a := ⟨bx, ox + m * 2 + 1, none⟩) hbx2 g2
                    obtain ⟨rc, HRC⟩ : ∃ rc : Nat, Hid (((srt l).drop k).count (p1, p2) = rc) := ⟨_, hid rfl⟩
                    have hlk := fun n os => (hLf.touch (touch_lays (lays_mk wr n os) []) (by simp)).look hpw
                    rw [HRC.out] at hlk
                    have hlk' : ∀ n os, (Instr.lookup 47 (.map (some M)) (.agg #[.int .i64 p1, .int .i64 p2]) false).run Try.prog (grow (wr.drewN n) os) = .ok (.int .i64 (rc : Int)) (grow (wr.drewN n) os) := hlk
                    have hLf' := hLf
                    have hNx' := hNx
                    have HLF := hid hLf'
                    have HNXX := hid hNx'
                    clear hlk c1 c2 g1 g2 hLf hNx hLf' hNx'
                    have hvi : (v : Int) - 1 = (m : Int) := by omega
                    have hmn : m < v := by omega
                    have hwm : IntKind.i64.wrap (m : Int) = (m : Int) := wrap_i64 (by omega) (by omega)
                    have hv00 : decide ((0 : Int) < (v : Int)) = true := by simp; omega
                    have hv01 : (0 : Int) < (v : Int) := by omega
                    by_cases hrc : rc = 0
                    · subst hrc
                      have hr0 : decide ((0 : Int) < ((0 : Nat) : Int)) = false := by decide
                      clear hvm
                      go_wp2
                      refine wp_region_quiet_grown (by kernel_rfl) (by kernel_rfl) ?_
                      repeat (go_big_quiet_step (fail))
                      refine wpQuiet_nil ?_
                      intro _ hw'
                      obtain ⟨⟨nq, osq⟩, hw''⟩ := hw'
                      subst hw''
                      have Lq := lays_mk wr nq osq
                      have hLq := HLF.out.touch (touch_lays Lq []) (by simp)
                      have hNq := HNXX.out.lays Lq (by have := HLF.out.lt; omega)
                      have hbq' := hbu.trans (Lq.below.mono hbu.size)
                      clear k1 k2 k3 k4 hlk' Lq
                      go_wp2
                      go_roundw
                      case rel => exact ⟨t + 1, by omega, by go_num, hLq, hNq, hbq'⟩
                      case measure => simp [intOf]; omega
                    · have hr0 : decide ((0 : Int) < (rc : Int)) = true := by simp; omega
                      have hle : nlt (p1, p2) (y1, y2) = false := by
                        refine keep_rest k l (y1, y2) ?_ (p1, p2) (List.count_pos_iff.1 (by rw [HRC.out]; omega))
                        have hml : m < (keep k l).length := by rw [HL5.out]; omega
                        rw [← HY.out, List.getD_eq_getElem?_getD, List.getElem?_eq_getElem hml]
                        exact List.getElem_mem _
                      have hls : ∀ W, Calls Try.prog 15 #[.agg #[.int .i64 p1, .int .i64 p2], .agg #[.int .i64 y1, .int .i64 y2]] W (Gr W (.bool false)) := fun W => by
                        have := less_any (p1, p2) (y1, y2) W
                        rwa [hle] at this
                      have hr1 : 0 < rc := by omega
                      have hr2 : (0 : Int) < (rc : Int) := by omega
                      clear hvm hle hrc
                      go_wp2
                      refine wp_region_quiet_grown (by kernel_rfl) (by kernel_rfl) ?_
                      repeat (go_big_quiet_step (first | (go_at_call 15; exact Calls.grown_of (hls _))))
                      refine wpQuiet_nil ?_
                      intro _ hw'
                      obtain ⟨⟨nq, osq⟩, hw''⟩ := hw'
                      subst hw''
                      have Lq := lays_mk wr nq osq
                      have hLq := HLF.out.touch (touch_lays Lq []) (by simp)
                      have hNq := HNXX.out.lays Lq (by have := HLF.out.lt; omega)
                      have hbq' := hbu.trans (Lq.below.mono hbu.size)
                      clear k1 k2 k3 k4 hlk' hls Lq
                      go_wp2
                      go_roundw
                      case rel => exact ⟨t + 1, by omega, by go_num, hLq, hNq, hbq'⟩
                      case measure => simp [intOf]; omega
                  · have hv00 : ¬ ((0 : Int) < (v : Int)) := by omega
                    go_wp2
                    go_ret
                    exact ⟨rfl, hbu⟩
                · go_wp2
                  go_ret
                  exact ⟨rfl, hbu⟩
set_option maxRecDepth 100000 in
set_option maxHeartbeats 800000 in
theorem rankKeeps_long (A : Option Addr) (n c : Nat) (k0 : Int) (w : World) (hn : 150 < n) :
    Calls Try.prog 6 #[.slice A n c, .int .i64 k0] w fun e w' => e = .returned (.bool true) ∧ Below w.heap.size w w' := by
  go_enter Try.func6, Try.ntmps6
  go_wp2_with fail
  refine (lives_any _).mono ?_
  rintro e w3 ⟨rfl, hb3⟩
  have H3 := hid hb3
  clear hb3
  go_wp2
  go_ret
  exact ⟨rfl, H3.out⟩
theorem rankKeeps_walk (A : Option Addr) (n c : Nat) (l : List (Int × Int)) (k0 : Int) (w : World) (hN : Nears w 0 w.heap.size A n l) (hA : A = none → c = 0) (hw : ∀ x ∈ l, WF x) :
    Calls Try.prog 6 #[.slice A n c, .int .i64 k0] w fun e w' => e = .returned (.bool true) ∧ Below w.heap.size w w' := by
  by_cases hn : 150 < n
  · exact rankKeeps_long A n c k0 w hn
  · exact rankKeeps_ok A n c l k0 w hN hA (by omega) hw
end Go.Proofs.Ytdknjeikhdodeaa
