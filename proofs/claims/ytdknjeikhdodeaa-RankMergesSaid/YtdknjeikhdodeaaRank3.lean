/-
  The walks of RankNames, RankNil and RankOrder.
-/
import Derived.Test.YtdknjeikhdodeaaLives4
namespace Go.Proofs.Ytdknjeikhdodeaa
open Go.RowKit Go.Sort

theorem add_nil (x : Int × Int) (w : World) : Calls Try.prog 10 #[.pointer none, .agg #[.int .i64 x.1, .int .i64 x.2]] w fun e w' => e = .returned (.tuple #[.bool false, .int .i64 1]) ∧ Lays w w' := by
  go_enter Try.func10, Try.ntmps10
  go_wp2_with (go_at_call 26; refine (unmade_nil _).mono ?_; rintro e w' ⟨rfl, rfl⟩)
  go_ret2
  exact ⟨rfl, lays_alloc _ _⟩
theorem Box.below {w w' : World} {b Bd : Nat} {x1 x2 : Int} (h : Box w b x1 x2) (hb : Below Bd w w') (hB : b < Bd) : Box w' b x1 x2 := ⟨(hb.cell hB).trans h.1, (hb.cell hB).trans h.2.1, Nat.lt_of_lt_of_le h.2.2 hb.size⟩
set_option maxHeartbeats 1600000 in
theorem rankNil_walk (x : Int × Int) (w : World) : Calls Try.prog 5 #[.agg #[.int .i64 x.1, .int .i64 x.2]] w fun e w' => e = .returned (.bool true) ∧ Below w.heap.size w w' := by
  obtain ⟨x1, x2⟩ := x
  go_enter Try.func5, Try.ntmps5
  go_wp2_with fail
  have b0 := Box.new w 29 x1 x2
  have L0 := lays_alloc w (.cells #[.int .i64 x1, .int .i64 x2] 29)
  refine (lives_any _).mono ?_
  rintro e w1 ⟨rfl, hb1⟩
  have H1 := hid (L0.below.trans (hb1.mono L0.below.size))
  obtain ⟨d0, d1, _⟩ := b0.below hb1 b0.2.2
  clear b0 L0 hb1
  go_wp2_with fail
  refine (add_nil (x1, x2) _).mono ?_
  rintro e w2 ⟨rfl, L2⟩
  have H2 := hid (H1.out.trans (L2.below.mono H1.out.size))
  clear L2
  go_wp2_with fail
  refine (worst_nil _).mono ?_
  rintro e w3 ⟨rfl, L3⟩
  have H3 := hid (H2.out.trans (L3.below.mono H2.out.size))
  clear L3
  go_wp2_with fail
  refine (full_nil _).mono ?_
  rintro e w4 ⟨rfl, q, hq⟩
  have H4 : Hid (Below w.heap.size w w4) := by
    rw [hq]
    exact hid (below_drewN ((H3.out).alloc H3.out.size _) q)
  clear hq
  go_wp2_with fail
  refine (len_nil _).mono ?_
  rintro e w5 ⟨rfl, rfl⟩
  go_wp2_with fail
  refine (list_nil _).mono ?_
  rintro e w5 ⟨rfl, rfl⟩
  go_wp2
  go_ret
  exact ⟨rfl, H4.out⟩
set_option maxRecDepth 100000 in
set_option maxHeartbeats 3200000 in
theorem rankNames_walk (w : World) : Calls Try.prog 3 #[] w fun e w' => e = .returned (.bool true) ∧ Below w.heap.size w w' := by
  have a1 : adds 0 [] (0, 0) = false := by decide
  have n1 : nlt (-1, 5) (0, 0) = true := by decide
  have n2 : nlt (0, 0) (0, 0) = false := by decide
  have l1 : ∀ W, Calls Try.prog 15 #[.agg #[.int .i64 (-1), .int .i64 5], .agg #[.int .i64 0, .int .i64 0]] W (Gr W (.bool true)) := fun W => by have := less_any (-1, 5) (0, 0) W; rwa [n1] at this
  have l2 : ∀ W, Calls Try.prog 15 #[.agg #[.int .i64 0, .int .i64 0], .agg #[.int .i64 0, .int .i64 0]] W (Gr W (.bool false)) := fun W => by have := less_any (0, 0) (0, 0) W; rwa [n2] at this
  go_enter Try.func3, Try.ntmps3
  go_wp2_with fail
  refine (new_bad (-1) (by decide) _).mono ?_
  rintro e w' ⟨rfl, rfl⟩
  go_wp2_with fail
  refine (new_bad 16777217 (by decide) _).mono ?_
  rintro e w' ⟨rfl, rfl⟩
  go_wp2_with fail
  refine (new_ok 0 (by decide) _).mono ?_
  rintro e w1 ⟨rfl, hT1, hl1⟩
  obtain ⟨T, hT⟩ : ∃ T, w.heap.size = T := ⟨_, rfl⟩
  have hb1 := hl1.below
  rw [hT] at hT1 hb1 ⊢
  have HT := hid hT
  clear hl1 hT
  go_wp2_with fail
  refine (add_any w1 T 0 none [] (0, 0) hT1 (by decide)).mono ?_
  rw [a1]
  rintro e w2 ⟨G2, rfl, hT2, mv2⟩
  have hb2 := hid (hb1.trans (mv2.below (Nat.le_of_lt hT1.lt.1) (Nat.le_refl _) (fun g hg => (hT1.lt.2 g hg).1)))
  clear hT1 hb1 mv2
  obtain ⟨h, hH, _, hp⟩ := hT2
  have hl : h.length = 0 := by rw [hp.length_eq, keep_len]; rfl
  clear hp
  go_wp2_with fail
  refine (worst_no w2 T 0 G2 h hH (.inr rfl)).mono ?_
  rintro e w3 ⟨rfl, L3⟩
  have hH3 := hH.lays L3
  have hTl := hH.lt.1
  have hb3 := hid (hb2.out.trans (L3.below.mono (Nat.le_of_lt hTl)))
  clear L3 hb2 hH
  go_wp2_with fail
  have L4 := lays_alloc w3 (.cells #[.int .i64 0, .int .i64 0] 29)
  have hH4 := hH3.lays L4
  have hb4 := hid (hb3.out.trans (L4.below.mono (Nat.le_of_lt hH3.lt.1)))
  clear L4 hb3 hH3
  refine (lives_any _).mono ?_
  rintro e w5 ⟨rfl, hb5⟩
  have hH5 := hH4.touch (touch_below hb5 rfl []) (by simp) (by simp)
  have hb6 := hid (hb4.out.trans (hb5.mono (Nat.le_of_lt hH4.lt.1)))
  clear hb5 hH4 hb4
  go_wp2_with fail
  refine (full_at w5 T 0 G2 h true hH5 (by simp [hl])).mono ?_
  rintro e w6 ⟨rfl, q, hq⟩
  have L6 : Lays w5 w6 := by rw [hq]; exact lays_drewN _ _
  have hH6 := hH5.lays L6
  have hb7 := hid (hb6.out.trans (L6.below.mono (Nat.le_of_lt hH5.lt.1)))
  clear hq L6 hH5 hb6
  obtain ⟨A, c, c0, _, c2, _, hTl6⟩ := hH6.cells
  rw [hl] at c2
  go_wp2_with fail
  refine (len_low w6 T 0 c A c0 c2).mono ?_
  rintro e w7 ⟨rfl, rfl⟩
  clear c0 c2
  go_wp2_with fail
  refine (l1 _).mono ?_
  rintro e w7 ⟨rfl, q7, os7, hq7⟩
  have hb8 := hid (hb7.out.trans ((Lays.below ⟨q7, os7, hq7⟩).mono (Nat.le_of_lt hTl6)))
  have hs7 : T ≤ w7.heap.size := by have := hb8.out.size; have := HT.out; omega
  clear hq7
  go_wp2_with fail
  refine (l2 _).mono ?_
  rintro e w8 ⟨rfl, q8, os8, hq8⟩
  have hb9 := hid (hb8.out.trans ((Lays.below ⟨q8, os8, hq8⟩).mono hs7))
  clear hq8
  go_wp2
  go_ret
  exact ⟨rfl, by rw [HT.out]; exact hb9.out⟩

/-- Three pairs in blocks of their own. -/
def Boxes (w : World) (p q r : Nat) (a1 a2 b1 b2 c1 c2 : Int) : Prop := Box w p a1 a2 ∧ Box w q b1 b2 ∧ Box w r c1 c2
theorem less_kept (w0 : World) (p q r : Nat) (a1 a2 b1 b2 c1 c2 : Int) (hp : p < w0.heap.size) (hq : q < w0.heap.size) (hr : r < w0.heap.size) (x1 x2 y1 y2 : Int) (v : Bool) (hv : nlt (x1, x2) (y1, y2) = v) (W : World) :
    W.cell? ⟨p, 0, none⟩ = some (.int .i64 a1) → W.cell? ⟨p, 1, none⟩ = some (.int .i64 a2) → W.cell? ⟨q, 0, none⟩ = some (.int .i64 b1) → W.cell? ⟨q, 1, none⟩ = some (.int .i64 b2) → W.cell? ⟨r, 0, none⟩ = some (.int .i64 c1) → W.cell? ⟨r, 1, none⟩ = some (.int .i64 c2) → Hid (Lays w0 W) → Calls Try.prog 15 #[.agg #[.int .i64 x1, .int .i64 x2], .agg #[.int .i64 y1, .int .i64 y2]] W fun e w' => e = .returned (.bool v) ∧ w'.cell? ⟨p, 0, none⟩ = some (.int .i64 a1) ∧ w'.cell? ⟨p, 1, none⟩ = some (.int .i64 a2) ∧ w'.cell? ⟨q, 0, none⟩ = some (.int .i64 b1) ∧ w'.cell? ⟨q, 1, none⟩ = some (.int .i64 b2) ∧ w'.cell? ⟨r, 0, none⟩ = some (.int .i64 c1) ∧ w'.cell? ⟨r, 1, none⟩ = some (.int .i64 c2) ∧ Hid (Lays w0 w') := by
  intro k1 k2 k3 k4 k5 k6 k7
  have := less_any (x1, x2) (y1, y2) W
  rw [hv] at this
  refine this.mono ?_
  rintro e w' ⟨rfl, n, os, hw⟩
  have L : Lays W w' := ⟨n, os, hw⟩
  have hs := k7.out.below.size
  have hb := L.below
  refine ⟨rfl, (hb.cell ?_).trans k1, (hb.cell ?_).trans k2, (hb.cell ?_).trans k3, (hb.cell ?_).trans k4, (hb.cell ?_).trans k5, (hb.cell ?_).trans k6, hid (k7.out.trans L)⟩
  · exact Nat.lt_of_lt_of_le hp hs
  · exact Nat.lt_of_lt_of_le hp hs
  · exact Nat.lt_of_lt_of_le hq hs
  · exact Nat.lt_of_lt_of_le hq hs
  · exact Nat.lt_of_lt_of_le hr hs
  · exact Nat.lt_of_lt_of_le hr hs
set_option maxHeartbeats 6400000 in
theorem rankOrder_walk (a b c : Int × Int) (w : World) : Calls Try.prog 7 #[.agg #[.int .i64 a.1, .int .i64 a.2], .agg #[.int .i64 b.1, .int .i64 b.2], .agg #[.int .i64 c.1, .int .i64 c.2]] w fun e w' => e = .returned (.bool true) ∧ Below w.heap.size w w' := by
  obtain ⟨a1, a2⟩ := a
  obtain ⟨b1, b2⟩ := b
  obtain ⟨c1, c2⟩ := c
  have hgd := guard29
  go_enter Try.func7, Try.ntmps7
  go_wp2_with fail
  have B1 := (Box.new w 29 a1 a2).lays ((lays_alloc _ (.cells #[.int .i64 b1, .int .i64 b2] 29)).trans (lays_alloc _ (.cells #[.int .i64 c1, .int .i64 c2] 29)))
  have B2 := (Box.new (w.alloc (.cells #[.int .i64 a1, .int .i64 a2] 29)) 29 b1 b2).lays (lays_alloc _ (.cells #[.int .i64 c1, .int .i64 c2] 29))
  have B3 := Box.new ((w.alloc (.cells #[.int .i64 a1, .int .i64 a2] 29)).alloc (.cells #[.int .i64 b1, .int .i64 b2] 29)) 29 c1 c2
  have L0 := ((lays_alloc w (.cells #[.int .i64 a1, .int .i64 a2] 29)).trans (lays_alloc _ (.cells #[.int .i64 b1, .int .i64 b2] 29))).trans (lays_alloc _ (.cells #[.int .i64 c1, .int .i64 c2] 29))
  simp only [World.size_alloc] at B2 B3
  refine (lives_any _).mono ?_
  rintro e w0 ⟨rfl, hb0⟩
  have H1 := hid (L0.below.trans (hb0.mono L0.below.size))
  obtain ⟨k1, k2, hp⟩ := B1.below hb0 B1.2.2
  obtain ⟨k3, k4, hq⟩ := B2.below hb0 B2.2.2
  obtain ⟨k5, k6, hr⟩ := B3.below hb0 B3.2.2
  have k7 := hid (Lays.refl w0)
  clear L0 hb0 B1 B2 B3
  have less := less_kept w0 w.heap.size (w.heap.size + 1) (w.heap.size + 1 + 1) a1 a2 b1 b2 c1 c2 hp hq hr
  have laa := less a1 a2 a1 a2 false (nle_refl _)
  have hneq := neq_pt a1 a2 b1 b2
  obtain ⟨rab, HAB⟩ : ∃ v, Hid (nlt (a1, a2) (b1, b2) = v) := ⟨_, hid rfl⟩
  obtain ⟨rba, HBA⟩ : ∃ v, Hid (nlt (b1, b2) (a1, a2) = v) := ⟨_, hid rfl⟩
  obtain ⟨rbc, HBC⟩ : ∃ v, Hid (nlt (b1, b2) (c1, c2) = v) := ⟨_, hid rfl⟩
  obtain ⟨rac, HAC⟩ : ∃ v, Hid (nlt (a1, a2) (c1, c2) = v) := ⟨_, hid rfl⟩
  have lab := less a1 a2 b1 b2 rab HAB.out
  have lba := less b1 b2 a1 a2 rba HBA.out
  have lbc := less b1 b2 c1 c2 rbc HBC.out
  have lac := less a1 a2 c1 c2 rac HAC.out
  clear less hp hq hr
  cases rab
  case true =>
    obtain rfl : rba = false := by rw [← HBA.out]; exact nle_of_nlt HAB.out
    clear hneq
    cases rbc
    case false =>
      go_wp2_with fail
      refine (lab _ k1 k2 k3 k4 k5 k6 k7).mono ?_
      rintro e w4 ⟨rfl, k1, k2, k3, k4, k5, k6, k7⟩
      go_wp2_with fail
      refine (lba _ k1 k2 k3 k4 k5 k6 k7).mono ?_
      rintro e w5 ⟨rfl, k1, k2, k3, k4, k5, k6, k7⟩
      go_wp2_with fail
      refine (lab _ k1 k2 k3 k4 k5 k6 k7).mono ?_
      rintro e w6 ⟨rfl, k1, k2, k3, k4, k5, k6, k7⟩
      go_wp2_with fail
      refine (laa _ k1 k2 k3 k4 k5 k6 k7).mono ?_
      rintro e w7 ⟨rfl, k1, k2, k3, k4, k5, k6, k7⟩
      go_wp2_with fail
      refine (lab _ k1 k2 k3 k4 k5 k6 k7).mono ?_
      rintro e w8 ⟨rfl, k1, k2, k3, k4, k5, k6, k7⟩
      go_wp2_with fail
      refine (lbc _ k1 k2 k3 k4 k5 k6 k7).mono ?_
      rintro e w9 ⟨rfl, k1, k2, k3, k4, k5, k6, k7⟩
      go_wp2
      go_ret
      exact ⟨rfl, H1.out.trans (k7.out.below.mono H1.out.size)⟩
    case true =>
      obtain rfl : rac = true := by
        rw [← HAC.out]
        have e1 := nlt_iff.1 HAB.out
        have e2 := nlt_iff.1 HBC.out
        exact nlt_iff.2 (by omega)
      go_wp2_with fail
      refine (lab _ k1 k2 k3 k4 k5 k6 k7).mono ?_
      rintro e w4 ⟨rfl, k1, k2, k3, k4, k5, k6, k7⟩
      go_wp2_with fail
      refine (lba _ k1 k2 k3 k4 k5 k6 k7).mono ?_
      rintro e w5 ⟨rfl, k1, k2, k3, k4, k5, k6, k7⟩
      go_wp2_with fail
      refine (lab _ k1 k2 k3 k4 k5 k6 k7).mono ?_
      rintro e w6 ⟨rfl, k1, k2, k3, k4, k5, k6, k7⟩
      go_wp2_with fail
      refine (laa _ k1 k2 k3 k4 k5 k6 k7).mono ?_
      rintro e w7 ⟨rfl, k1, k2, k3, k4, k5, k6, k7⟩
      go_wp2_with fail
      refine (lab _ k1 k2 k3 k4 k5 k6 k7).mono ?_
      rintro e w8 ⟨rfl, k1, k2, k3, k4, k5, k6, k7⟩
      go_wp2_with fail
      refine (lbc _ k1 k2 k3 k4 k5 k6 k7).mono ?_
      rintro e w9 ⟨rfl, k1, k2, k3, k4, k5, k6, k7⟩
      go_wp2_with fail
      refine (lac _ k1 k2 k3 k4 k5 k6 k7).mono ?_
      rintro e w10 ⟨rfl, k1, k2, k3, k4, k5, k6, k7⟩
      go_wp2
      go_ret
      exact ⟨rfl, H1.out.trans (k7.out.below.mono H1.out.size)⟩
  case false =>
    cases rba
    case true =>
      clear hneq
      go_wp2_with fail
      refine (lab _ k1 k2 k3 k4 k5 k6 k7).mono ?_
      rintro e w4 ⟨rfl, k1, k2, k3, k4, k5, k6, k7⟩
      go_wp2_with fail
      refine (lab _ k1 k2 k3 k4 k5 k6 k7).mono ?_
      rintro e w5 ⟨rfl, k1, k2, k3, k4, k5, k6, k7⟩
      go_wp2_with fail
      refine (lba _ k1 k2 k3 k4 k5 k6 k7).mono ?_
      rintro e w6 ⟨rfl, k1, k2, k3, k4, k5, k6, k7⟩
      go_wp2_with fail
      refine (laa _ k1 k2 k3 k4 k5 k6 k7).mono ?_
      rintro e w7 ⟨rfl, k1, k2, k3, k4, k5, k6, k7⟩
      go_wp2_with fail
      refine (lab _ k1 k2 k3 k4 k5 k6 k7).mono ?_
      rintro e w8 ⟨rfl, k1, k2, k3, k4, k5, k6, k7⟩
      go_wp2
      go_ret
      exact ⟨rfl, H1.out.trans (k7.out.below.mono H1.out.size)⟩
    case false =>
      have hab : (a1, a2) = (b1, b2) := nle_antisymm HBA.out HAB.out
      rw [decide_eq_false (by simp only [ne_eq, hab]; simp)] at hneq
      have HE := hid hab
      clear hab
      go_wp2_with fail
      refine (lab _ k1 k2 k3 k4 k5 k6 k7).mono ?_
      rintro e w4 ⟨rfl, k1, k2, k3, k4, k5, k6, k7⟩
      go_wp2_with fail
      refine (lab _ k1 k2 k3 k4 k5 k6 k7).mono ?_
      rintro e w5 ⟨rfl, k1, k2, k3, k4, k5, k6, k7⟩
      go_wp2_with fail
      refine (lba _ k1 k2 k3 k4 k5 k6 k7).mono ?_
      rintro e w6 ⟨rfl, k1, k2, k3, k4, k5, k6, k7⟩
      go_wp2_with fail
      refine (laa _ k1 k2 k3 k4 k5 k6 k7).mono ?_
      rintro e w7 ⟨rfl, k1, k2, k3, k4, k5, k6, k7⟩
      go_wp2_with fail
      refine (lab _ k1 k2 k3 k4 k5 k6 k7).mono ?_
      rintro e w8 ⟨rfl, k1, k2, k3, k4, k5, k6, k7⟩
      go_wp2
      go_ret
      exact ⟨rfl, H1.out.trans (k7.out.below.mono H1.out.size)⟩
end Go.Proofs.Ytdknjeikhdodeaa
