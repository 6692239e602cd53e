/-
  The heap of rank in memory: fartherBelow, siftUp, siftDown, replace. The heap lies whole in one block.
-/
import Derived.Test.YtdknjeikhdodeaaNear
import Derived.Test.YtdknjeikhdodeaaHeapMath
namespace Go.Proofs.Ytdknjeikhdodeaa
open Go.RowKit Go.Sort

theorem mixed : Try.prog.follows .mixedOrders = true := by kernel_rfl
/-- Block g has room for cap pairs; the first ones are l. -/
def HeapAt (w : World) (g cap : Nat) (l : List (Int × Int)) : Prop :=
  ∃ cs : Array Value, Blk w g 29 cs ∧ cs.size = cap * 2 ∧ (l.length ≤ cap ∧ cap ≤ maxLen) ∧ ∀ j, j < l.length → cs[j * 2]? = some (.int .i64 (l.getD j (0, 0)).1) ∧ cs[j * 2 + 1]? = some (.int .i64 (l.getD j (0, 0)).2)
/-- Only blocks of its own were laid. -/
def Lays (w w' : World) : Prop := ∃ q os, w' = grow (w.drewN q) os
theorem Lays.refl (w : World) : Lays w w := ⟨0, #[], by rw [grow_empty]; rfl⟩
theorem Lays.trans {a b c : World} (h : Lays a b) (h2 : Lays b c) : Lays a c := by
  obtain ⟨q, os, rfl⟩ := h
  obtain ⟨q2, os2, rfl⟩ := h2
  refine ⟨q + q2, os ++ os2, ?_⟩
  rw [← grow_grow, ← World.drewN_drewN]
  rfl
theorem Lays.below {w w' : World} (h : Lays w w') : Below w.heap.size w w' := by
  obtain ⟨q, os, rfl⟩ := h
  exact gr_below q os (Nat.le_refl _)
theorem lays_mk (w : World) (q : Nat) (os : Array Obj) : Lays w (grow (w.drewN q) os) := ⟨q, os, rfl⟩
theorem HeapAt.lt {w : World} {g cap : Nat} {l : List (Int × Int)} (h : HeapAt w g cap l) : g < w.heap.size := by
  obtain ⟨cs, hB, _⟩ := h
  exact hB.lt
theorem HeapAt.below {w w' : World} {g cap B : Nat} {l : List (Int × Int)} (h : HeapAt w g cap l) (hb : Below B w w') (hg : g < B) : HeapAt w' g cap l := by
  obtain ⟨cs, hB, h2⟩ := h
  exact ⟨cs, hB.below hb hg, h2⟩
theorem HeapAt.lays {w w' : World} {g cap : Nat} {l : List (Int × Int)} (h : HeapAt w g cap l) (hb : Lays w w') : HeapAt w' g cap l := h.below hb.below h.lt
theorem HeapAt.cell {w : World} {g cap : Nat} {l : List (Int × Int)} (h : HeapAt w g cap l) {j : Nat} (hj : j < l.length) : w.cell? ⟨g, j * 2, none⟩ = some (.int .i64 (l.getD j (0, 0)).1) ∧ w.cell? ⟨g, j * 2 + 1, none⟩ = some (.int .i64 (l.getD j (0, 0)).2) := by
  obtain ⟨cs, hB, _, _, h2⟩ := h
  rw [hB.cell, hB.cell]
  exact h2 j hj
theorem HeapAt.frozen {w : World} {g cap : Nat} {l : List (Int × Int)} (h : HeapAt w g cap l) (j : Nat) : w.frozen? ⟨g, j, none⟩ = false := by
  obtain ⟨cs, hB, _⟩ := h
  exact hB.frozen j
theorem HeapAt.set {w : World} {g cap : Nat} {l : List (Int × Int)} (h : HeapAt w g cap l) {j : Nat} (hj : j < l.length) (x : Int × Int) : HeapAt ((w.setCell ⟨g, j * 2, none⟩ (.int .i64 x.1)).setCell ⟨g, j * 2 + 1, none⟩ (.int .i64 x.2)) g cap (l.set j x) := by
  obtain ⟨cs, hB, hs, hl, h2⟩ := h
  refine ⟨_, (hB.set _ _).set _ _, by simp [hs], ⟨by simpa using hl.1, hl.2⟩, fun t ht => ?_⟩
  rw [List.length_set] at ht
  obtain ⟨e1, e2⟩ := h2 t ht
  have b1 : j * 2 < cs.size := by omega
  have b2 : j * 2 + 1 < cs.size := by omega
  by_cases e : j = t
  · subst e
    simp [List.getD_eq_getElem?_getD, ht, b1, b2]
  · have n1 : j * 2 ≠ t * 2 := by omega
    have n2 : j * 2 + 1 ≠ t * 2 := by omega
    have n3 : j * 2 ≠ t * 2 + 1 := by omega
    have n4 : j * 2 + 1 ≠ t * 2 + 1 := by omega
    rw [Array.getElem?_setIfInBounds_ne n2, Array.getElem?_setIfInBounds_ne n1, Array.getElem?_setIfInBounds_ne n4, Array.getElem?_setIfInBounds_ne n3, e1, e2]
    simp [List.getD_eq_getElem?_getD, e]

theorem HeapAt.swap {w : World} {g cap : Nat} {l : List (Int × Int)} (h : HeapAt w g cap l) {a b : Nat} (ha : a < l.length) (hb : b < l.length) {p1 p2 q1 q2 : Int} (hp : l.getD a (0, 0) = (p1, p2)) (hq : l.getD b (0, 0) = (q1, q2)) :
    HeapAt (((((w.setCell ⟨g, a * 2, none⟩ (.int .i64 q1)).setCell ⟨g, a * 2 + 1, none⟩ (.int .i64 q2)).setCell ⟨g, b * 2, none⟩ (.int .i64 p1)).setCell ⟨g, b * 2 + 1, none⟩ (.int .i64 p2)).drew) g cap (swp l a b) ∧
      w.grownBy (((((w.setCell ⟨g, a * 2, none⟩ (.int .i64 q1)).setCell ⟨g, a * 2 + 1, none⟩ (.int .i64 q2)).setCell ⟨g, b * 2, none⟩ (.int .i64 p1)).setCell ⟨g, b * 2 + 1, none⟩ (.int .i64 p2)).drew) (some g) := by
  have h1 := (h.set ha (q1, q2)).set (j := b) (by simpa using hb) (p1, p2)
  rw [← hp, ← hq] at h1
  refine ⟨?_, only_drewN (only_set (only_set (only_set (only_set (World.grownBy.refl _ _) _ _) _ _) _ _) _ _) 1⟩
  unfold swp
  rw [hp, hq] at h1 ⊢
  exact h1

/-- The farthest of i and of those that hang on it. -/
def Farthest (l : List (Int × Int)) (i m : Nat) : Prop :=
  m < l.length ∧ (m = i ∨ (0 < m ∧ (m - 1) / 2 = i ∧ nlt (l.getD i (0, 0)) (l.getD m (0, 0)) = true)) ∧ ∀ c, 0 < c → c < l.length → (c - 1) / 2 = i → nle (l.getD c (0, 0)) (l.getD m (0, 0))

set_option maxHeartbeats 1600000 in
theorem farther_any (g cap i n : Nat) (l : List (Int × Int)) (w : World) (h : HeapAt w g cap l) (hln : l.length = n) (hi : i < n) (hn : n ≤ 70000000) :
    Calls Try.prog 39 #[.slice (some ⟨g, 0, none⟩) n cap, .int .i64 i] w fun e w' => ∃ m : Nat, e = .returned (.int .i64 m) ∧ Farthest l i m ∧ Lays w w' := by
  have hmix := mixed
  have HL := hid hln
  clear hln
  go_enter Try.func39, Try.ntmps39
  go_wp2
  go_loopw [5, 6] (fun x y wr => ∃ f b : Nat, x = .int .i64 f ∧ y = .int .i64 b ∧ 2 * i + 1 ≤ b ∧ b ≤ 2 * i + 3 ∧ f < n ∧ Hid (f = i ∨ (0 < f ∧ (f - 1) / 2 = i ∧ nlt (l.getD i (0, 0)) (l.getD f (0, 0)) = true)) ∧ Hid (nle (l.getD i (0, 0)) (l.getD f (0, 0))) ∧ Hid (∀ c, 2 * i + 1 ≤ c → c < b → c < n → nle (l.getD c (0, 0)) (l.getD f (0, 0))) ∧ HeapAt wr g cap l ∧ Hid (Lays w wr)) (fun _ y _ => 2 * i + 3 - (intOf y).toNat)
  case atStart => exact ⟨i, 2 * i + 1, rfl, by go_num, by omega, by omega, hi, hid (.inl rfl), hid (nle_refl _), hid (fun c h1 h2 => absurd h1 (by omega)), h, hid (Lays.refl _)⟩
  case round =>
    obtain ⟨f, b, rfl, rfl, hb1, hb2, hf, H1, H2, H3, hh, H4⟩ := hrel
    by_cases hc : b ≤ 2 * i + 2
    · by_cases hc2 : b < n
      · have hfl : f < l.length := by rw [HL.out]; exact hf
        have hbl : b < l.length := by rw [HL.out]; exact hc2
        obtain ⟨p, HP⟩ : ∃ p, Hid (l.getD f (0, 0) = p) := ⟨_, hid rfl⟩
        obtain ⟨q, HQ⟩ : ∃ q, Hid (l.getD b (0, 0) = q) := ⟨_, hid rfl⟩
        have cf := hh.cell hfl
        have cb := hh.cell hbl
        rw [HP.out] at cf
        rw [HQ.out] at cb
        have hg := hh.lt
        have c1 := cell_grown (a := ⟨g, f * 2, none⟩) hg cf.1
        have c2 := cell_grown (a := ⟨g, f * 2 + 1, none⟩) hg cf.2
        have c3 := cell_grown (a := ⟨g, b * 2, none⟩) hg cb.1
        have c4 := cell_grown (a := ⟨g, b * 2 + 1, none⟩) hg cb.2
        clear cf cb
        clear hfl hbl
        obtain ⟨p1, p2⟩ := p
        obtain ⟨q1, q2⟩ := q
        go_wp2
        go_quiet_grown (first | (go_at_call 15; exact Calls.grown_of (less_any (p1, p2) (q1, q2) _)))
        have hl' := lays_mk wr nq osq
        have hh' := hh.lays hl'
        have H5 := hid (H4.out.trans hl')
        clear hl' hh c1 c2 c3 c4
        generalize grow (wr.drewN nq) osq = wx at hh' H5 ⊢
        generalize hr : nlt (p1, p2) (q1, q2) = r
        have HR := hid hr
        clear hr
        cases r
        case true =>
          go_wp2
          go_roundw
          case rel =>
            have hlt' : nlt (l.getD f (0, 0)) (l.getD b (0, 0)) = true := by rw [HP.out, HQ.out]; exact HR.out
            refine ⟨b, b + 1, rfl, by go_num, by omega, by omega, hc2, hid (.inr ⟨by omega, by omega, ?_⟩), hid (nle_trans H2.out (nle_of_nlt hlt')), hid (fun c h1 h2 h3 => ?_), hh', H5⟩
            · rcases H1.out with rfl | ⟨_, _, h⟩
              · exact hlt'
              · have e1 := nlt_iff.1 h
                have e2 := nlt_iff.1 hlt'
                exact nlt_iff.2 (by omega)
            · by_cases e : c = b
              · subst e; exact nle_refl _
              · exact nle_trans (H3.out c h1 (by omega) h3) (nle_of_nlt hlt')
          case measure => simp [intOf]; omega
        case false =>
          go_wp2
          go_roundw
          case rel =>
            have hlt' : nlt (l.getD f (0, 0)) (l.getD b (0, 0)) = false := by rw [HP.out, HQ.out]; exact HR.out
            refine ⟨f, b + 1, rfl, by go_num, by omega, by omega, hf, H1, H2, hid (fun c h1 h2 h3 => ?_), hh', H5⟩
            by_cases e : c = b
            · subst e; exact hlt'
            · exact H3.out c h1 (by omega) h3
          case measure => simp [intOf]; omega
      · have HF : Hid (Farthest l i f) := by
          refine hid ⟨by rw [HL.out]; exact hf, H1.out, fun c c0 c1 c2 => H3.out c (by omega) (by rw [HL.out] at c1; omega) (by rw [HL.out] at c1; exact c1)⟩
        go_wp2
        go_ret
        exact ⟨f, rfl, HF.out, H4.out⟩
    · have HF : Hid (Farthest l i f) := by
        refine hid ⟨by rw [HL.out]; exact hf, H1.out, fun c c0 c1 c2 => H3.out c (by omega) (by omega) (by rw [HL.out] at c1; exact c1)⟩
      go_wp2
      go_ret
      exact ⟨f, rfl, HF.out, H4.out⟩

/-- Only block g, and blocks of its own. -/
theorem lays_only {w w' : World} (h : Lays w w') (row : Option Nat) : w.grownBy w' row := only_of_below h.below row
set_option maxHeartbeats 1600000 in
theorem siftUp_any (g cap i n : Nat) (l : List (Int × Int)) (w : World) (h : HeapAt w g cap l) (hln : l.length = n) (hi : i < n) (hn : n ≤ 70000000) (hup : HpUp l i) :
    Calls Try.prog 33 #[.slice (some ⟨g, 0, none⟩) n cap, .int .i64 i] w fun e w' => ∃ l', e = .returned (.tuple #[]) ∧ HeapAt w' g cap l' ∧ Hp l' ∧ l'.Perm l ∧ w.grownBy w' (some g) := by
  have hmix := mixed
  have HL := hid hln
  clear hln
  go_enter Try.func33, Try.ntmps33
  go_wp2
  go_loopw [1] (fun x wr => ∃ (t : Nat) (m : List (Int × Int)), x = .int .i64 t ∧ t < n ∧ Hid (m.length = n) ∧ Hid (HpUp m t) ∧ Hid (m.Perm l) ∧ HeapAt wr g cap m ∧ Hid (w.grownBy wr (some g))) (fun x _ => (intOf x).toNat)
  case atStart => exact ⟨i, l, rfl, hi, HL, hid hup, hid (List.Perm.refl _), h, hid (World.grownBy.refl _ _)⟩
  case round =>
    obtain ⟨t, m, rfl, ht, H1, H2, H3, hh, H4⟩ := hrel
    by_cases ht0 : 0 < t
    · have htl : t < m.length := by rw [H1.out]; exact ht
      obtain ⟨a, HA⟩ : ∃ a, Hid ((t - 1) / 2 = a) := ⟨_, hid rfl⟩
      have hal : a < m.length := by have := HA.out; omega
      have hat : a < t := by have := HA.out; omega
      have han : a < n := by omega
      have hta : ((t : Int) - 1).tdiv 2 = (a : Int) := by
        rw [Int.tdiv_eq_ediv_of_nonneg (by omega)]
        have := HA.out
        omega
      obtain ⟨p, HP⟩ : ∃ p, Hid (m.getD a (0, 0) = p) := ⟨_, hid rfl⟩
      obtain ⟨q, HQ⟩ : ∃ q, Hid (m.getD t (0, 0) = q) := ⟨_, hid rfl⟩
      have cf := hh.cell hal
      have cb := hh.cell htl
      rw [HP.out] at cf
      rw [HQ.out] at cb
      have hg := hh.lt
      have c1 := cell_grown (a := ⟨g, a * 2, none⟩) hg cf.1
      have c2 := cell_grown (a := ⟨g, a * 2 + 1, none⟩) hg cf.2
      have c3 := cell_grown (a := ⟨g, t * 2, none⟩) hg cb.1
      have c4 := cell_grown (a := ⟨g, t * 2 + 1, none⟩) hg cb.2
      clear cf cb
      clear htl hal
      obtain ⟨p1, p2⟩ := p
      obtain ⟨q1, q2⟩ := q
      go_wp2
      go_quiet_grown (first | (go_at_call 15; exact Calls.grown_of (less_any (p1, p2) (q1, q2) _)))
      have hl' := lays_mk wr nq osq
      have hh' := hh.lays hl'
      have H5 := hid (H4.out.trans (lays_only hl' _))
      clear hl' hh c1 c2 c3 c4 hg
      generalize grow (wr.drewN nq) osq = wx at hh' H5 ⊢
      generalize hr : nlt (p1, p2) (q1, q2) = r
      have HR := hid hr
      clear hr
      cases r
      case false =>
        go_wp2
        refine bodyPost_ret (results_none rfl _ _ _) rfl ?_
        refine ⟨m, rfl, hh', hp_of_up H2.out ?_, H3.out, H5.out⟩
        rw [HA.out, HP.out, HQ.out]
        exact HR.out
      case true =>
        have cf := hh'.cell (show a < m.length by rw [H1.out]; exact han)
        have cb := hh'.cell (show t < m.length by rw [H1.out]; exact ht)
        rw [HP.out] at cf
        rw [HQ.out] at cb
        obtain ⟨c1, c2⟩ := cf
        obtain ⟨c3, c4⟩ := cb
        have f1 := hh'.frozen (a * 2)
        have f2 := hh'.frozen (a * 2 + 1)
        have f3 := hh'.frozen (t * 2)
        have f4 := hh'.frozen (t * 2 + 1)
        have n1 : a * 2 ≠ t * 2 := by omega
        have n2 : a * 2 ≠ t * 2 + 1 := by omega
        have n3 : a * 2 + 1 ≠ t * 2 := by omega
        have n4 : a * 2 + 1 ≠ t * 2 + 1 := by omega
        have hsw := hh'.swap (show a < m.length by rw [H1.out]; exact han) (show t < m.length by rw [H1.out]; exact ht) HP.out HQ.out
        have HS := hid hsw.1
        have HG := hid (H5.out.trans hsw.2)
        have HU : Hid (HpUp (swp m a t) a) := by
          have hx : nlt (m.getD ((t - 1) / 2) (0, 0)) (m.getD t (0, 0)) = true := by rw [HA.out, HP.out, HQ.out]; exact HR.out
          have := hp_up_step H2.out ht0 (by rw [H1.out]; exact ht) hx
          rw [HA.out] at this
          exact hid this
        have HM : Hid ((swp m a t).Perm l) := hid ((swp_perm m a t (by rw [H1.out]; exact han) (by rw [H1.out]; exact ht)).trans H3.out)
        clear hsw
        go_wp2
        go_region
        go_wp2
        go_roundw
        case rel => exact ⟨a, swp m a t, rfl, han, hid (by rw [swp_len]; exact H1.out), HU, HM, HS.out, HG⟩
        case measure => simp [intOf]; omega
    · obtain rfl : t = 0 := by omega
      go_wp2
      go_end0
      exact ⟨m, rfl, hh, hp_of_up0 H2.out, H3.out, H4.out⟩

set_option maxHeartbeats 1600000 in
theorem siftDown_any (g cap i n : Nat) (l : List (Int × Int)) (w : World) (h : HeapAt w g cap l) (hln : l.length = n) (hi : i < n) (hn : n ≤ 70000000) (hdn : HpDown l i) :
    Calls Try.prog 34 #[.slice (some ⟨g, 0, none⟩) n cap, .int .i64 i] w fun e w' => ∃ l', e = .returned (.tuple #[]) ∧ HeapAt w' g cap l' ∧ Hp l' ∧ l'.Perm l ∧ w.grownBy w' (some g) := by
  have HL := hid hln
  clear hln
  go_enter Try.func34, Try.ntmps34
  go_wp2
  go_loopw [1] (fun x wr => ∃ (t : Nat) (m : List (Int × Int)), x = .int .i64 t ∧ t < n ∧ Hid (m.length = n) ∧ Hid (HpDown m t) ∧ Hid (m.Perm l) ∧ HeapAt wr g cap m ∧ Hid (w.grownBy wr (some g))) (fun x _ => n - (intOf x).toNat)
  case atStart => exact ⟨i, l, rfl, hi, HL, hid hdn, hid (List.Perm.refl _), h, hid (World.grownBy.refl _ _)⟩
  case round =>
    obtain ⟨t, m, rfl, ht, H1, H2, H3, hh, H4⟩ := hrel
    go_wp2_with fail
    refine (farther_any g cap t n m _ hh H1.out ht hn).mono ?_
    rintro e wx ⟨a, rfl, HF, hl'⟩
    have hh' := hh.lays hl'
    have H5 := hid (H4.out.trans (lays_only hl' _))
    have HF' := hid HF
    have han : a < n := by have := HF.1; rw [H1.out] at this; exact this
    clear hl' hh HF
    by_cases hat : a = t
    · subst hat
      go_wp2
      refine bodyPost_ret (results_none rfl _ _ _) rfl ?_
      exact ⟨m, rfl, hh', hp_of_down H2.out HF'.out.2.2, H3.out, H5.out⟩
    · obtain ⟨HX, hlt⟩ : Hid (0 < a ∧ (a - 1) / 2 = t ∧ nlt (m.getD t (0, 0)) (m.getD a (0, 0)) = true) ∧ t < a := by
        rcases HF'.out.2.1 with e | e
        · exact absurd e hat
        · exact ⟨hid e, by omega⟩
      obtain ⟨p, HP⟩ : ∃ p, Hid (m.getD a (0, 0) = p) := ⟨_, hid rfl⟩
      obtain ⟨q, HQ⟩ : ∃ q, Hid (m.getD t (0, 0) = q) := ⟨_, hid rfl⟩
      have cf := hh'.cell (show a < m.length by rw [H1.out]; exact han)
      have cb := hh'.cell (show t < m.length by rw [H1.out]; exact ht)
      rw [HP.out] at cf
      rw [HQ.out] at cb
      obtain ⟨p1, p2⟩ := p
      obtain ⟨q1, q2⟩ := q
      obtain ⟨c1, c2⟩ := cf
      obtain ⟨c3, c4⟩ := cb
      have f1 := hh'.frozen (a * 2)
      have f2 := hh'.frozen (a * 2 + 1)
      have f3 := hh'.frozen (t * 2)
      have f4 := hh'.frozen (t * 2 + 1)
      have n1 : a * 2 ≠ t * 2 := by omega
      have n2 : a * 2 ≠ t * 2 + 1 := by omega
      have n3 : a * 2 + 1 ≠ t * 2 := by omega
      have n4 : a * 2 + 1 ≠ t * 2 + 1 := by omega
      have hbeq : ((a : Int) == (t : Int)) = false := by simp; omega
      have hsw := hh'.swap (show a < m.length by rw [H1.out]; exact han) (show t < m.length by rw [H1.out]; exact ht) HP.out HQ.out
      have HS := hid hsw.1
      have HG := hid (H5.out.trans hsw.2)
      have HU : Hid (HpDown (swp m a t) a) := hid (hp_down_step H2.out (by rw [H1.out]; exact ht) HX.out.1 (by rw [H1.out]; exact han) HX.out.2.1 HX.out.2.2 HF'.out.2.2)
      have HM : Hid ((swp m a t).Perm l) := hid ((swp_perm m a t (by rw [H1.out]; exact han) (by rw [H1.out]; exact ht)).trans H3.out)
      clear hsw
      go_wp2
      go_region
      go_wp2
      go_roundw
      case rel => exact ⟨a, swp m a t, rfl, han, hid (by rw [swp_len]; exact H1.out), HU, HM, HS.out, HG⟩
      case measure => simp [intOf]; omega

theorem only_alloc_back {w w' : World} {o : Obj} {g : Nat} (h : (w.alloc o).grownBy w' (some g)) : w.grownBy w' (some g) := (only_alloc (World.grownBy.refl w (some g)) o).trans h
set_option maxHeartbeats 800000 in
/-- n in the place of the farthest. -/
theorem replace_any (g cap n : Nat) (l : List (Int × Int)) (x : Int × Int) (w : World) (h : HeapAt w g cap l) (hln : l.length = n) (h0 : 0 < n) (hn : n ≤ 70000000) (hhp : Hp l) :
    Calls Try.prog 28 #[.slice (some ⟨g, 0, none⟩) n cap, .agg #[.int .i64 x.1, .int .i64 x.2]] w fun e w' => ∃ l', e = .returned (.tuple #[]) ∧ HeapAt w' g cap l' ∧ Hp l' ∧ l'.Perm (l.set 0 x) ∧ w.grownBy w' (some g) := by
  have HL := hid hln
  clear hln
  have hg := h.lt
  have c0 : ∀ o, (w.alloc o).cell? ⟨g, 0, none⟩ = some (.int .i64 (l.getD 0 (0, 0)).1) := fun o => (cell_old w o _ hg).trans (h.cell (show 0 < l.length by rw [HL.out]; exact h0)).1
  have f0 : ∀ o, (w.alloc o).frozen? ⟨g, 0, none⟩ = false := fun o => (World.frozen?_of_block (Below.heap_alloc w o g hg)).trans (h.frozen 0)
  have c1 : ∀ o u, ((w.setCell ⟨g, 0, none⟩ u).alloc o).cell? ⟨g, 1, none⟩ = some (.int .i64 (l.getD 0 (0, 0)).2) := fun o u => by
    obtain ⟨cs, hB, _, _, h2⟩ := h
    rw [cell_old _ _ _ (by simpa [World.setCell] using hg), (hB.set 0 u).cell 1, Array.getElem?_setIfInBounds_ne (by decide)]
    exact (h2 0 (by rw [HL.out]; exact h0)).2
  have f1 : ∀ o u, ((w.setCell ⟨g, 0, none⟩ u).alloc o).frozen? ⟨g, 1, none⟩ = false := fun o u => by
    obtain ⟨cs, hB, _⟩ := h
    exact ((hB.set 0 u).alloc o).frozen 1
  have hne : g ≠ w.heap.size := by omega
  obtain ⟨x1, x2⟩ := x
  have hs : HeapAt ((w.setCell ⟨g, 0, none⟩ (.int .i64 x1)).setCell ⟨g, 1, none⟩ (.int .i64 x2)) g cap (l.set 0 (x1, x2)) := h.set (show 0 < l.length by rw [HL.out]; exact h0) (x1, x2)
  have HG : Hid (w.grownBy ((w.setCell ⟨g, 0, none⟩ (.int .i64 x1)).setCell ⟨g, 1, none⟩ (.int .i64 x2)) (some g)) := hid (only_set (only_set (World.grownBy.refl _ _) _ _) _ _)
  clear h
  go_enter Try.func28, Try.ntmps28
  go_wp2_with fail
  refine (siftDown_any g cap 0 n (l.set 0 (x1, x2)) _ (hs.lays (by rw [alloc_eq_grow]; exact ⟨0, _, rfl⟩)) (by rw [List.length_set]; exact HL.out) h0 hn (hp_set0 hhp _)).mono ?_
  rintro e w1 ⟨l', rfl, h1, h2, h3, h4⟩
  have H4 := hid (HG.out.trans (only_alloc_back h4))
  clear h4
  go_wp2
  go_end0
  exact ⟨l', rfl, h1, h2, h3, H4.out⟩
end Go.Proofs.Ytdknjeikhdodeaa
