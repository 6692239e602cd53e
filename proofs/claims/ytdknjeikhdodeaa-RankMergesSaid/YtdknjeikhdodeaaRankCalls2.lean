/-
  The walk of RankCalls.
-/
import Derived.Test.YtdknjeikhdodeaaRankCalls
namespace Go.Proofs.Ytdknjeikhdodeaa
open Go.RowKit Go.Sort

/-- Two Tops lie apart. -/
def Apart (T : Nat) (G : Option Nat) (T2 : Nat) (R : Option Nat) : Prop := T2 ≠ T ∧ (∀ g, G = some g → T2 ≠ g ∧ T ≠ g) ∧ (∀ r, R = some r → r ≠ T ∧ r ≠ T2) ∧ ∀ g r, G = some g → R = some r → r ≠ g
theorem apart_mem {T T2 : Nat} {G R : Option Nat} (h : Apart T G T2 R) : T2 ∉ T :: G.toList ∧ ∀ r, R = some r → r ∉ T :: G.toList := by
  refine ⟨fun hm => ?_, fun r hr hm => ?_⟩
  · rcases List.mem_cons.1 hm with e | hm
    · exact h.1 e
    · cases G with
      | none => simp at hm
      | some g => exact (h.2.1 g rfl).1 (by simpa using hm)
  · rcases List.mem_cons.1 hm with e | hm
    · exact (h.2.2.1 r hr).1 e
    · cases G with
      | none => simp at hm
      | some g => exact h.2.2.2 g r rfl hr (by simpa using hm)
theorem apart_left {T T2 s : Nat} {G G' R : Option Nat} (h : Apart T G T2 R) (hG : G' = G ∨ ∃ g, G' = some g ∧ s ≤ g) (h1 : T2 < s) (h2 : ∀ r, R = some r → r < s) (h3 : T < s) : Apart T G' T2 R := by
  rcases hG with rfl | ⟨g, rfl, hg⟩
  · exact h
  · refine ⟨h.1, fun g' e => ?_, h.2.2.1, fun g' r e hr => ?_⟩
    · injection e with e; omega
    · injection e with e; have := h2 r hr; omega
theorem apart_right {T T2 s : Nat} {G R R' : Option Nat} (h : Apart T G T2 R) (hR : R' = R ∨ ∃ g, R' = some g ∧ s ≤ g) (h1 : T < s) (h2 : ∀ g, G = some g → g < s) (h3 : T2 < s) : Apart T G T2 R' := by
  rcases hR with rfl | ⟨r, rfl, hr⟩
  · exact h
  · refine ⟨h.1, h.2.1, fun r' e => ?_, fun g r' hg e => ?_⟩
    · injection e with e; omega
    · injection e with e; have := h2 g hg; omega
theorem list_q (w0 : World) (T k : Nat) (G : Option Nat) (l : List (Int × Int)) (n : Nat) (hT : TopAt w0 T G k l) (hk : k ≤ 16777216) (hn : (keep k l).length = n) (W : World) (h : Below w0.heap.size w0 W) :
    Calls Try.prog 24 #[.pointer (some ⟨T, 0, none⟩)] W fun e w' => ∃ A1 c1, e = .returned (.slice A1 n c1) ∧ Nears w' w0.heap.size w'.heap.size A1 n (keep k l) ∧ Below w0.heap.size w0 w' :=
  (list_any W T k G l (hT.touch (touch_below h rfl []) (by simp) (by simp)) hk).mono fun e w' ⟨A1, n1, c1, h1, h2, h3, h4, h5, h6, h7⟩ => by
    obtain rfl : n1 = n := by rw [← hn]; exact h2.out.symm
    exact ⟨A1, c1, h1, h6.wide h.size (Nat.le_refl _), below_step h h7⟩
theorem full_q (w0 : World) (T k : Nat) (G : Option Nat) (l : List (Int × Int)) (b : Bool) (hT : TopAt w0 T G k l) (hb : (((keep k l).length : Int) == (k : Int)) = b) (W : World) (h : Below w0.heap.size w0 W) :
    Calls Try.prog 13 #[.pointer (some ⟨T, 0, none⟩)] W fun e w' => e = .returned (.bool b) ∧ Below w0.heap.size w0 w' := by
  obtain ⟨hp, hH, _, hpm⟩ := hT.touch (touch_below h rfl []) (by simp) (by simp)
  rw [← hpm.length_eq] at hb
  exact (full_at W T k G hp b hH hb).mono fun e w' ⟨h1, q, h2⟩ => ⟨h1, by rw [h2]; exact below_drewN h q⟩
theorem len_q (w0 : World) (T k : Nat) (G : Option Nat) (l : List (Int × Int)) (n : Nat) (hT : TopAt w0 T G k l) (hn : (keep k l).length = n) (W : World) (h : Below w0.heap.size w0 W) :
    Calls Try.prog 14 #[.pointer (some ⟨T, 0, none⟩)] W fun e w' => e = .returned (.int .i64 n) ∧ Below w0.heap.size w0 w' := by
  obtain ⟨hp, hH, _, hpm⟩ := hT.touch (touch_below h rfl []) (by simp) (by simp)
  obtain ⟨A, c, c0, _, c2, _⟩ := hH.cells
  rw [hpm.length_eq, hn] at c2
  exact (len_low W T n c A c0 c2).mono fun e w' ⟨h1, h2⟩ => ⟨h1, by rw [← h2]; exact h⟩
set_option maxRecDepth 100000 in
set_option maxHeartbeats 12800000 in
theorem rankCalls_ok (A : Option Addr) (n c : Nat) (l : List (Int × Int)) (k : Nat) (a b : Int × Int) (w : World) (hN : Nears w 0 w.heap.size A n l) (hA : A = none → c = 0) (hn : n ≤ 150) (hk : k ≤ 16777216) :
    Calls Try.prog 4 #[.slice A n c, .int .i64 k, .agg #[.int .i64 a.1, .int .i64 a.2], .agg #[.int .i64 b.1, .int .i64 b.2]] w fun e w' => e = .returned (.bool true) ∧ Below w.heap.size w w' := by
  obtain ⟨a1, a2⟩ := a
  obtain ⟨b1, b2⟩ := b
  have HA := hid hA
  have HL := hid hN.1
  have HNW := hid hN
  clear hA
  have B1 := (Box.new w 29 a1 a2).lays (lays_alloc _ (.cells #[.int .i64 b1, .int .i64 b2] 29))
  have B2 := Box.new (w.alloc (.cells #[.int .i64 a1, .int .i64 a2] 29)) 29 b1 b2
  simp only [World.size_alloc] at B2
  have L0 := (lays_alloc w (.cells #[.int .i64 a1, .int .i64 a2] 29)).trans (lays_alloc _ (.cells #[.int .i64 b1, .int .i64 b2] 29))
  go_enter Try.func4, Try.ntmps4
  go_wp2_with fail
  refine (lives_any _).mono ?_
  rintro e w1 ⟨rfl, hb1⟩
  have bA1 := B1.below hb1 B1.2.2
  have bB1 := B2.below hb1 B2.2.2
  have H1 := hid (L0.below.trans (hb1.mono L0.below.size))
  have hN1 := hN.below H1.out (Nat.le_refl _)
  clear B1 B2 L0 hb1 hN
  have hlen : ¬ (150 < n) := by omega
  go_wp2_with fail
  refine (new_ok k hk _).mono ?_
  rintro e w2 ⟨rfl, hT2, L2⟩
  go_wp2_with fail
  refine (rnew_ok k hk _).mono ?_
  rintro e w3 ⟨rfl, hR3, L3⟩
  have hT3 := hT2.lays L3
  have L13 := L2.trans L3
  have bA := bA1.lays L13
  have bB := bB1.lays L13
  have H3 := hid (H1.out.trans (L13.below.mono H1.out.size))
  have hN3 := hN1.lays L13 H1.out.size
  have hTT : w1.heap.size < w2.heap.size := hT2.lt.1
  have hz1 := H1.out.size
  obtain ⟨T, hTe⟩ : ∃ T, w1.heap.size = T := ⟨_, rfl⟩
  obtain ⟨T2, hT2e⟩ : ∃ T2, w2.heap.size = T2 := ⟨_, rfl⟩
  rw [hTe] at hT3 hTT hz1
  rw [hT2e] at hR3 hTT
  rw [hTe, hT2e]
  clear hT2 L2 L3 L13 bA1 bB1 hN1 hTe hT2e
  have hq : Below w3.heap.size w3 w3.drew := below_drewN (Below.refl _ _) 1
  have K7 : ∀ W : World, Below w3.heap.size w3 W → W.cell? ⟨w.heap.size, 0, none⟩ = some (.int .i64 a1) ∧ W.cell? ⟨w.heap.size, 1, none⟩ = some (.int .i64 a2) ∧ W.cell? ⟨w.heap.size + 1, 0, none⟩ = some (.int .i64 b1) ∧ W.cell? ⟨w.heap.size + 1, 1, none⟩ = some (.int .i64 b2) :=
    fun W hW => ⟨(bA.below hW bA.2.2).1, (bA.below hW bA.2.2).2.1, (bB.below hW bB.2.2).1, (bB.below hW bB.2.2).2.1⟩
  have hs3 : w.heap.size ≤ w3.heap.size := by have := bA.2.2; omega
  obtain ⟨rab, HAB⟩ : ∃ v, Hid (nlt (a1, a2) (b1, b2) = v) := ⟨_, hid rfl⟩
  have cl := less_q w3 a1 a2 b1 b2 rab HAB.out
  have crl := rless_q w3 a1 a2 b1 b2 rab HAB.out
  have cown := own_q w3 A n c w.heap.size l hN3 HA.out hs3 hn
  have csrt := sorted_q w3 l hn HL.out
  have crs := rsorted_q w3 A n c w.heap.size l hN3 hs3 hn
  have csm := same_q w3 (srt l) n hn
  have hbb : (rab != rab) = false := by simp
  go_wp2
  go_region_held3 (fun W => W.cell? ⟨w.heap.size, 0, none⟩ = some (.int .i64 a1) ∧ W.cell? ⟨w.heap.size, 1, none⟩ = some (.int .i64 a2) ∧ W.cell? ⟨w.heap.size + 1, 0, none⟩ = some (.int .i64 b1) ∧ W.cell? ⟨w.heap.size + 1, 1, none⟩ = some (.int .i64 b2)) (exact K7 _ hq)
    (first
      | (go_at_call 15; refine (cl _ hq).mono ?_; rintro e w5 ⟨rfl, hq⟩)
      | (go_at_call 17; refine (crl _ hq).mono ?_; rintro e w6 ⟨rfl, hq⟩)
      | (go_at_call 20; refine (cown _ hq).mono ?_; rintro e w7 ⟨A7, c7, rfl, hN7, hq⟩)
      | (go_at_call 19; refine (csrt _ A7 c7 hq hN7).mono ?_; rintro e w8 ⟨A8, c8, rfl, hN8, hq⟩)
      | (go_at_call 21; refine (crs _ _ A8 _ hq hN8).mono ?_; rintro e w9 ⟨A9, c9, rfl, hN9, hq⟩)
      | (go_at_call 18; refine (csm _ _ _ _ _ A8 A9 c8 c9 hq hN9.2 hN9.1).mono ?_; rintro e wa ⟨rfl, hq⟩))
  have H4 := hid (H3.out.trans (hq.mono hs3))
  have hT4 := hT3.touch (touch_below hq rfl []) (by simp) (by simp)
  have hR4 := hR3.touch (touch_below hq rfl []) (by simp) (by simp)
  have hN4 := hN3.below hq hs3
  have hap : Apart T none T2 none := ⟨by omega, (fun g e => by cases e), (fun r e => by cases e), fun g r e => by cases e⟩
  clear cl crl cown csrt crs csm K7 hN7 hN8 hN9 hbb hT3 hR3 hN3 bA bB hs3 hq
  generalize hwz : wa = wz at *
  clear hwz
  go_wp2
  go_loopw [13] (fun i wr => ∃ (j : Nat) (G R : Option Nat), j ≤ n ∧ i = .int .i64 j ∧ TopAt wr T G k (l.take j) ∧ RAt wr T2 R k (l.take j) ∧ Apart T G T2 R ∧ Below w.heap.size w wr) (fun i _ => n - (intOf i).toNat)
  case atStart => exact ⟨0, none, none, Nat.zero_le _, rfl, hT4, hR4, hap, H4.out⟩
  case round =>
    clear hT4 hR4 hap H4
    obtain ⟨j, G, R, hj, rfl, hT, hR, hap, hb⟩ := hrel
    have hsz := hb.size
    by_cases hlt : j < n
    · obtain ⟨bq, off, rfl, _, hbq, c1, c2⟩ := HNW.out.at_ hlt
      obtain ⟨⟨p1, p2⟩, HP⟩ : ∃ y, Hid (l.getD j (0, 0) = y) := ⟨_, hid rfl⟩
      rw [HP.out] at c1 c2
      have CJ : ∀ W : World, Below w.heap.size w W → W.cell? ⟨bq, off + j * 2, none⟩ = some (.int .i64 p1) ∧ W.cell? ⟨bq, off + j * 2 + 1, none⟩ = some (.int .i64 p2) := fun W h => ⟨(h.cell hbq).trans c1, (h.cell hbq).trans c2⟩
      have HS : Hid (l.take j ++ [(p1, p2)] = l.take (j + 1)) := by
        have hk' : j < l.length := by rw [HL.out]; exact hlt
        exact hid (by rw [List.take_succ_eq_append_getElem hk', ← HP.out]; simp [List.getD_eq_getElem?_getD, hk'])
      obtain ⟨ra, HRA⟩ : ∃ v, Hid (adds k (l.take j) (p1, p2) = v) := ⟨_, hid rfl⟩
      have hTl := hT.lt
      have hRl := hR.lt
      clear c1 c2 hN4
      obtain ⟨c1, c2⟩ := CJ _ hb
      go_wp2_with fail
      refine (add_any wr T k G (l.take j) (p1, p2) hT hk).mono ?_
      rw [HRA.out, HS.out]
      rintro e w5 ⟨G5, rfl, hT5, mv5⟩
      have hb5 := hb.trans (mv5.below hsz hz1 (fun g hg => (hTl.2 g hg).1))
      have hR5 := hR.touch mv5.2 (apart_mem hap).1 (apart_mem hap).2
      have hap5 := apart_left hap mv5.1 hRl.1 (fun r hr => (hRl.2 r hr).2) hTl.1
      clear mv5 hT hR hap hTl hRl c1 c2 hb
      obtain ⟨c1, c2⟩ := CJ _ hb5
      have hTl5 := hT5.lt
      have hRl5 := hR5.lt
      go_wp2_with fail
      refine (radd_any w5 T2 k R (l.take j) (p1, p2) hR5 hk).mono ?_
      rw [HRA.out, HS.out]
      rintro e w6 ⟨R6, rfl, hR6, mv6, tc6⟩
      have hb6 := hb5.trans (tc6.below hb5.size (fun i hi => by have : i = T2 := (by simpa using hi); omega))
      have hT6 := hT5.touch tc6 (by simp; omega) (fun g hg => by have := (hap5.2.1 g hg).1; simp; omega)
      have hap6 := apart_right hap5 mv6 hTl5.1 (fun g hg => (hTl5.2 g hg).2) hRl5.1
      clear mv6 tc6 hT5 hR5 hap5 hTl5 hRl5 c1 c2 hb5 CJ
      obtain ⟨⟨s1, s2⟩, HST⟩ : ∃ y, Hid (wst k (l.take (j + 1)) = y) := ⟨_, hid rfl⟩
      obtain ⟨rw, HRW⟩ : ∃ y, Hid (wok k (l.take (j + 1)) = y) := ⟨_, hid rfl⟩
      go_wp2_with fail
      refine (worst_any w6 T k G5 _ hT6).mono ?_
      rw [HST.out, HRW.out]
      rintro e w7 ⟨rfl, L7⟩
      have L7b := L7.trans (lays_alloc w7 (.cells #[.int .i64 s1, .int .i64 s2] 29))
      have b7 := Box.new w7 29 s1 s2
      have hT7 := hT6.lays L7b
      have hR7 := hR6.lays L7b
      have hb7 := hb6.trans (L7b.below.mono hb6.size)
      clear L7 L7b hT6 hR6 hb6
      go_wp2_with fail
      obtain ⟨B7, hB7⟩ : ∃ B7, w7.heap.size = B7 := ⟨_, rfl⟩
      rw [hB7] at b7 ⊢
      clear hB7
      generalize w7.alloc (.cells #[.int .i64 s1, .int .i64 s2] 29) = w8 at b7 hT7 hR7 hb7 ⊢
      refine (rworst_any w8 T2 k R6 _ hR7 hk).mono ?_
      rw [HST.out, HRW.out]
      rintro e w9 ⟨rfl, L9⟩
      have L9b := L9.trans (lays_alloc w9 (.cells #[.int .i64 s1, .int .i64 s2] 29))
      have b9 := Box.new w9 29 s1 s2
      have b7' := b7.lays L9b
      have hT9 := hT7.lays L9b
      have hR9 := hR7.lays L9b
      have hb9 := hb7.trans (L9b.below.mono hb7.size)
      clear L9 L9b hT7 hR7 hb7 b7
      go_wp2
      obtain ⟨B9, hB9⟩ : ∃ B9, w9.heap.size = B9 := ⟨_, rfl⟩
      rw [hB9] at b9 ⊢
      clear hB9
      generalize w9.alloc (.cells #[.int .i64 s1, .int .i64 s2] 29) = wx at b9 b7' hT9 hR9 hb9 ⊢
      obtain ⟨A2, e2, hB2, hR2, hown2⟩ := hR9
      have hRx : RAt wx T2 R6 k (l.take (j + 1)) := ⟨A2, e2, hB2, hR2, hown2⟩
      obtain ⟨nn, HNN⟩ : ∃ nn, Hid ((keep k (l.take (j + 1))).length = nn) := ⟨_, hid rfl⟩
      have hnn : nn ≤ 150 := by rw [← HNN.out, keep_len, List.length_take]; omega
      rw [HNN.out] at hB2 hown2
      obtain ⟨hNL, _⟩ := nears_own hown2
      obtain ⟨bf, HBF⟩ : ∃ bf, Hid (((nn : Int) == (k : Int)) = bf) := ⟨_, hid rfl⟩
      have hbf := HBF.out
      have hq : Below wx.heap.size wx wx.drew := below_drewN (Below.refl _ _) 1
      have K9 : ∀ W : World, Below wx.heap.size wx W → W.cell? ⟨B7, 0, none⟩ = some (.int .i64 s1) ∧ W.cell? ⟨B7, 1, none⟩ = some (.int .i64 s2) ∧ W.cell? ⟨B9, 0, none⟩ = some (.int .i64 s1) ∧ W.cell? ⟨B9, 1, none⟩ = some (.int .i64 s2) ∧ W.cell? ⟨T2, 0, none⟩ = some (.int .i64 k) ∧ W.cell? ⟨T2, 1, none⟩ = some (.slice A2 nn e2) :=
        fun W hW => ⟨(b7'.below hW b7'.2.2).1, (b7'.below hW b7'.2.2).2.1, (b9.below hW b9.2.2).1, (b9.below hW b9.2.2).2.1, (hB2.below hW hB2.lt).cell 0, (hB2.below hW hB2.lt).cell 1⟩
      have cf := full_q wx T k G5 _ bf hT9 (by rw [HNN.out]; exact HBF.out)
      have cln := len_q wx T k G5 _ nn hT9 HNN.out
      have cls := list_q wx T k G5 _ nn hT9 hk HNN.out
      have csm := same_q wx (keep k (l.take (j + 1))) nn hnn
      have x1 : (ra != ra) = false := by simp
      have x2 : (rw != rw) = false := by simp
      have x3 : (bf != bf) = false := by simp
      have x4 : ((nn : Int) != (nn : Int)) = false := by simp
      have hneq : ∀ W, (binOp .neq 29 (.agg #[.int .i64 s1, .int .i64 s2]) (.agg #[.int .i64 s1, .int .i64 s2])).run Try.prog W = .ok (.bool false) W := fun W => by rw [neq_pt]; simp
      have hgd := guard29
      clear hB2 hown2 hR2 b7' b9
      go_region_held3 (fun W => W.cell? ⟨B7, 0, none⟩ = some (.int .i64 s1) ∧ W.cell? ⟨B7, 1, none⟩ = some (.int .i64 s2) ∧ W.cell? ⟨B9, 0, none⟩ = some (.int .i64 s1) ∧ W.cell? ⟨B9, 1, none⟩ = some (.int .i64 s2) ∧ W.cell? ⟨T2, 0, none⟩ = some (.int .i64 k) ∧ W.cell? ⟨T2, 1, none⟩ = some (.slice A2 nn e2)) (exact K9 _ hq)
        (first
          | (go_at_call 13; refine (cf _ hq).mono ?_; rintro e wb ⟨rfl, hq⟩)
          | (go_at_call 14; refine (cln _ hq).mono ?_; rintro e wc ⟨rfl, hq⟩)
          | (go_at_call 24; refine (cls _ hq).mono ?_; rintro e wd ⟨Ad, cd, rfl, hNd, hq⟩)
          | (go_at_call 18; refine (csm _ _ _ _ _ Ad A2 cd e2 hq hNd (hNL.below hq (Nat.le_refl _))).mono ?_; rintro e we ⟨rfl, hq⟩))
      have hTe := hT9.touch (touch_below hq rfl []) (by simp) (by simp)
      have hRe := hRx.touch (touch_below hq rfl []) (by simp) (by simp)
      have hbe := hb9.trans (hq.mono hb9.size)
      clear cf cln cls csm K9 hNd hNL hT9 hRx hb9 hq
      go_wp2
      go_roundw
      case rel => exact ⟨j + 1, G5, R6, by omega, by go_num, hTe, hRe, hap6, hbe⟩
      case measure => simp [intOf]; omega
    · go_wp2
      go_ret
      exact ⟨rfl, hb⟩
set_option maxHeartbeats 800000 in
theorem rankCalls_long (A : Option Addr) (n c : Nat) (k : Int) (a b : Int × Int) (w : World) (hn : 150 < n) :
    Calls Try.prog 4 #[.slice A n c, .int .i64 k, .agg #[.int .i64 a.1, .int .i64 a.2], .agg #[.int .i64 b.1, .int .i64 b.2]] w fun e w' => e = .returned (.bool true) ∧ Below w.heap.size w w' := by
  obtain ⟨a1, a2⟩ := a
  obtain ⟨b1, b2⟩ := b
  have L0 := (lays_alloc w (.cells #[.int .i64 a1, .int .i64 a2] 29)).trans (lays_alloc _ (.cells #[.int .i64 b1, .int .i64 b2] 29))
  go_enter Try.func4, Try.ntmps4
  go_wp2_with fail
  refine (lives_any _).mono ?_
  rintro e w3 ⟨rfl, hb3⟩
  have H3 := hid (L0.below.trans (hb3.mono L0.below.size))
  clear L0 hb3
  go_wp2
  go_ret
  exact ⟨rfl, H3.out⟩
theorem rankCalls_walk (A : Option Addr) (n c : Nat) (l : List (Int × Int)) (k : Int) (a b : Int × Int) (w : World) (hN : Nears w 0 w.heap.size A n l) (hA : A = none → c = 0) :
    Calls Try.prog 4 #[.slice A n c, .int .i64 k, .agg #[.int .i64 a.1, .int .i64 a.2], .agg #[.int .i64 b.1, .int .i64 b.2]] w fun e w' => e = .returned (.bool true) ∧ Below w.heap.size w w' := by
  by_cases hn : 150 < n
  · exact rankCalls_long A n c k a b w hn
  · by_cases hk : k < 0 ∨ 16777216 < k
    · exact rankCalls_bad A n c l k a b w hN hA (by omega) hk
    · obtain ⟨m, rfl⟩ : ∃ m : Nat, k = m := ⟨k.toNat, by omega⟩
      exact rankCalls_ok A n c l m a b w hN hA (by omega) (by omega)
end Go.Proofs.Ytdknjeikhdodeaa
