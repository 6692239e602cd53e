/-
  The walk of RankMerges.
-/
import Derived.Test.YtdknjeikhdodeaaFour
namespace Go.Proofs.Ytdknjeikhdodeaa
open Go.RowKit Go.Sort

/-- What the fourth Top was given when the outer loop stands at i. -/
def stg (m1 m2 : List (Int × Int)) (i : Nat) : List (Int × Int) := if i ≤ 1 then [] else if i = 2 then m1.reverse else m1.reverse ++ m2.reverse
/-- The row of pointers. -/
def Ptrs (w : World) (P : Nat) (ts : List Tp) : Prop := ∀ (i : Nat) (t : Tp), ts[i]? = some t → w.cell? ⟨P, i, none⟩ = some (.pointer (some ⟨t.T, 0, none⟩))
theorem Ptrs.below {w w' : World} {P B : Nat} {ts : List Tp} (h : Ptrs w P ts) (hb : Below B w w') (hP : P < B) : Ptrs w' P ts := fun i t hi => (hb.cell hP).trans (h i t hi)
theorem Nears.moved {w w' : World} {lo hi n T : Nat} {A : Option Addr} {l : List (Int × Int)} {G G' : Option Nat} (h : Nears w lo hi A n l) (mv : Moved w w' T G G') (hg : ∀ g ∈ T :: G.toList, g < lo ∨ hi ≤ g) : Nears w' lo hi A n l := by
  refine ⟨h.1, fun hn => ?_⟩
  obtain ⟨b, off, e, h1, h2, hc⟩ := h.2 hn
  refine ⟨b, off, e, h1, h2, fun j hj => ?_⟩
  obtain ⟨c1, c2⟩ := hc j hj
  have hb := World.block_lt_of_cell? w _ c1
  have hn : b ∉ T :: G.toList := fun hm => by have := hg b hm; omega
  exact ⟨(World.cell?_of_block (mv.2.block b hb hn)).trans c1, (World.cell?_of_block (mv.2.block b hb hn)).trans c2⟩
theorem drop_rev {m : List (Int × Int)} {r : Nat} (h : r < m.length) {y : Int × Int} (hy : m.getD r (0, 0) = y) : (m.drop (r + 1)).reverse ++ [y] = (m.drop r).reverse := by
  rw [List.drop_eq_getElem_cons h, List.reverse_cons, ← hy]
  simp [List.getD_eq_getElem?_getD, h]
theorem stg_step (m1 m2 : List (Int × Int)) : stg m1 m2 1 = [] ∧ stg m1 m2 2 = stg m1 m2 1 ++ m1.reverse ∧ stg m1 m2 3 = stg m1 m2 2 ++ m2.reverse := by simp [stg]
theorem list_q2 (w0 : World) (T k : Nat) (G : Option Nat) (l m : List (Int × Int)) (n : Nat) (hT : TopAt w0 T G k l) (hk : k ≤ 16777216) (hm : keep k l = m) (hn : m.length = n) (W : World) (h : Below w0.heap.size w0 W) :
    Calls Try.prog 24 #[.pointer (some ⟨T, 0, none⟩)] W fun e w' => ∃ A1 c1, e = .returned (.slice A1 n c1) ∧ Nears w' W.heap.size w'.heap.size A1 n m ∧ Below W.heap.size W w' ∧ Below w0.heap.size w0 w' :=
  (list_any W T k G l (hT.below_of h) hk).mono fun e w' ⟨A1, n1, c1, h1, h2, h3, h4, h5, h6, h7⟩ => by
    obtain rfl : n1 = n := by rw [← hn, ← hm]; exact h2.out.symm
    rw [hm] at h6
    exact ⟨A1, c1, h1, h6, h7, below_step h h7⟩
theorem sorted_q2 (w0 : World) (A : Option Addr) (n c up : Nat) (l : List (Int × Int)) (hN : Nears w0 0 up A n l) (hA : A = none → c = 0) (hup : up ≤ w0.heap.size) (hn : n ≤ 150) (W : World) (h : Below w0.heap.size w0 W) :
    Calls Try.prog 19 #[.slice A n c] W fun e w' => ∃ A1 c1, e = .returned (.slice A1 n c1) ∧ n ≤ c1 ∧ Nears w' W.heap.size w'.heap.size A1 n (srt l) ∧ Below W.heap.size W w' ∧ Below w0.heap.size w0 w' :=
  (sorted_any A n c 0 up l W (hN.below h hup) hA (Nat.le_trans hup h.size) (by omega)).mono fun e w' ⟨A1, n1, c1, h1, h2, h3, h4, h5, h6, h7⟩ => by
    obtain rfl : n1 = n := by have := h2.out; rw [srt_len, hN.1] at this; exact this.symm
    exact ⟨A1, c1, h1, h4, h6, h7, below_step h h7⟩
theorem cut_low {l : List (Int × Int)} {x : Int × Int} {a : Nat} (h : l.length < a) : (l ++ [x]).take a = l.take a ++ [x] ∧ (l ++ [x]).drop a = l.drop a := by
  constructor
  · rw [List.take_of_length_le (by simp; omega), List.take_of_length_le (by omega)]
  · rw [List.drop_of_length_le (by simp; omega), List.drop_of_length_le (by omega)]
theorem cut_high {l : List (Int × Int)} {x : Int × Int} {a : Nat} (h : a ≤ l.length) : (l ++ [x]).take a = l.take a ∧ (l ++ [x]).drop a = l.drop a ++ [x] :=
  ⟨List.take_append_of_le_length h, List.drop_append_of_le_length h⟩
theorem Row.of_own_ {w : World} {base n : Nat} {v : Value} {ts : List Tp} (h : w.ownsRow base 22 1 v n (PT ts)) (hn : 0 < n) : ∃ P c, v = .slice (some ⟨P, 0, none⟩) n c ∧ base ≤ P ∧ Ptrs w P ts := by
  rcases h.2 with ⟨_, h0⟩ | ⟨g, cap, cur, hv, hb, hg, _⟩
  · omega
  · refine ⟨g, cap, hv, hb, fun i t ht => ?_⟩
    have := h.cells (g := g) (by rw [hv]; rfl) i (.pointer (some ⟨t.T, 0, none⟩)) (by simp [PT, ht])
    rw [addr_add, Nat.zero_add] at this
    exact this
set_option maxRecDepth 100000 in
set_option maxHeartbeats 25600000 in
theorem rankMerges_ok (A : Option Addr) (n c : Nat) (l : List (Int × Int)) (a0 k0 : Int) (w : World) (hN : Nears w 0 w.heap.size A n l) (hA : A = none → c = 0) (hn : n ≤ 150) :
    Calls Try.prog 8 #[.slice A n c, .int .i64 a0, .int .i64 k0] w fun e w' => e = .returned (.bool true) ∧ Below w.heap.size w w' := by
  have HA := hid hA
  have HL := hid hN.1
  have HNW := hid hN
  clear hA hN
  obtain ⟨k, HK, hk⟩ : ∃ k : Nat, Hid (k0 % 150 = (k : Int)) ∧ k < 150 := ⟨(k0 % 150).toNat, hid (by omega), by omega⟩
  obtain ⟨at_, HAT, hat⟩ : ∃ at_ : Nat, Hid (a0 % ((n : Int) + 1) = (at_ : Int)) ∧ at_ ≤ n := by
    have h1 := Int.emod_nonneg a0 (show (n : Int) + 1 ≠ 0 by omega)
    have h2 := Int.emod_lt_of_pos a0 (show (0 : Int) < (n : Int) + 1 by omega)
    exact ⟨(a0 % ((n : Int) + 1)).toNat, hid (by omega), by omega⟩
  obtain ⟨i0, hi, hz0, hz1, hz2⟩ := info_parts info22
  have hwn : IntKind.i64.wrap ((n : Int) + 1) = (n : Int) + 1 := wrap_i64 (by omega) (by omega)
  go_enter Try.func8, Try.ntmps8
  go_wp2_with fail
  refine (lives_any _).mono ?_
  rintro e w1 ⟨rfl, hb1⟩
  have hlen : ¬ (150 < n) := by omega
  go_wp2_with fail
  refine (pick_at k0 150 (k : Int) _ (by omega) (by omega) HK.out).mono ?_
  rintro e w2 ⟨rfl, rfl⟩
  go_wp2_with fail
  refine (pick_at a0 ((n : Int) + 1) (at_ : Int) _ (by omega) (by omega) HAT.out).mono ?_
  rintro e w2 ⟨rfl, rfl⟩
  go_wp2
  go_loopw [7, 8] (fun v i wr => ∃ (j : Nat) (ts : List Tp), j ≤ 4 ∧ i = .int .i64 j ∧ Hid (ts.length = j) ∧ Hid (∀ t ∈ ts, t.G = none ∧ t.l = []) ∧ wr.ownsRow w.heap.size 22 1 v j (PT ts) ∧ Tops wr k w.heap.size ts ∧ Hid (∀ P, v.ownBlock = some P → Off P ts) ∧ Below w.heap.size w wr) (fun _ i _ => 4 - (intOf i).toNat)
  case atStart => exact ⟨0, [], by omega, rfl, hid rfl, hid (fun t ht => by cases ht), World.ownsRow_nil _ _ _ _, Tops.none_ _ _ _, hid (fun P h => off_none P), hb1⟩
  case round =>
    clear hb1
    obtain ⟨j, ts, hj, rfl, H1, H2, hown, hts, H3, hb⟩ := hrel
    have hsz := hb.size
    by_cases hlt : j < 4
    · obtain ⟨Av, cv, hvs, _, _⟩ := own_shape hown
      subst hvs
      have hTs : ∀ t ∈ ts, ∀ g ∈ t.bs, g < wr.heap.size := fun t ht g hg => (bs_lt (hts.all t ht) g hg).2
      go_wp2_with fail
      refine (new_ok k (by omega) _).mono ?_
      rintro e w2 ⟨rfl, hT2, L2⟩
      have hts2 := hts.lays L2
      have hts3 := hts2.snoc hT2 hsz hTs
      have hown2 := own_touch hown (touch_lays L2 []) (by simp)
      have hb2 := hb.trans (L2.below.mono hsz)
      have hOl : ∀ P, (Value.slice Av j cv).ownBlock = some P → P < wr.heap.size := fun P hP => (hown.lt P hP).2
      obtain ⟨T, hTe⟩ : ∃ T, wr.heap.size = T := ⟨_, rfl⟩
      rw [hTe] at hT2 hts3 hTs hOl ⊢
      have hTl := hT2.lt.1
      clear hTe hts hown hb hts2
      have OWN2 : ∀ o, (w2.alloc o).ownsRow w.heap.size 22 1 (.slice Av j cv) j (PT ts) := fun o => own_touch hown2 (touch_lays (lays_alloc _ _) []) (by simp)
      have hnn : (some (⟨w2.heap.size, 0, none⟩ : Addr)) = none → 1 = 0 := fun e => by cases e
      have hone : ∀ u ∈ [Value.pointer (some ⟨T, 0, none⟩)], u.oneCell' = true := by intro u hu; simp at hu; subst hu; rfl
      have h63 : j + 1 ≤ maxLen := by unfold maxLen; omega
      have hby : (j + 1) * 8 ≤ 140737488355328 := by omega
      have hbs : ∀ o, w.heap.size ≤ (w2.alloc o).heap.size := fun o => by have := hb2.size; simp; omega
      go_wp2_with (at_builtin; refine wpList_append_row _ rfl _ _ 50 rfl w.heap.size 22 i0 (.pointer none) 8 Try.underlying50 hi hz0 hz1 hz2 rfl (.slice Av j cv) j (PT ts) rfl (OWN2 _) w2.heap.size (w2.heap.size + 1) (some ⟨w2.heap.size, 0, none⟩) 1 1 rfl hnn [.pointer (some ⟨T, 0, none⟩)] (row_one _ _ _) hone h63 hby (hbs _) ?_; intro v5 w5 own5 grow5 at5)
      go_roundw
      case rel =>
        have e5 : PT ts ++ [.pointer (some ⟨T, 0, none⟩)] = PT (ts ++ [⟨T, none, []⟩]) := by simp [PT]
        rw [e5] at own5
        have hb3 := (hb2.alloc hb2.size (.cells #[.pointer (some ⟨T, 0, none⟩)] 22)).grown grow5 (hbs _) (fun g hg => (hown2.lt g hg).1)
        have hts4 := hts3.lays (lays_alloc w2 (.cells #[.pointer (some ⟨T, 0, none⟩)] 22))
        have hoffO : ∀ P, (Value.slice Av j cv).ownBlock = some P → Off P (ts ++ [⟨T, none, []⟩]) := fun P hP => (H3.out P hP).snoc (by have := hOl P hP; omega)
        have hts5 := hts4.touch (touch_grown (F := (Value.slice Av j cv).ownBlock.toList) grow5 (fun g hg => by rw [hg]; simp)) (fun t ht g hg hgF => by
          cases hP : (Value.slice Av j cv).ownBlock with
          | none => rw [hP] at hgF; simp at hgF
          | some P =>
            rw [hP] at hgF
            have e : g = P := by simpa using hgF
            subst e
            exact hoffO g hP t ht hg)
        refine ⟨j + 1, ts ++ [⟨T, none, []⟩], by omega, by go_num, hid (by rw [List.length_append, H1.out]; rfl), hid (fun t ht => ?_), own5, hts5, hid (fun P hP => ?_), hb3⟩
        · rcases List.mem_append.1 ht with ht | ht
          · exact H2.out t ht
          · rw [List.mem_singleton.1 ht]; exact ⟨rfl, rfl⟩
        · rcases at5 with e | e
          · exact hoffO P (by rw [← e]; exact hP)
          · intro t ht hPt
            rw [e] at hP
            injection hP with hP
            have := (bs_lt (hts3.all t ht) P hPt).2
            simp at hP
            omega
      case measure => simp [intOf]; omega
    · obtain rfl : j = 4 := by omega
      rw [show ((4 : Nat) : Int) = (4 : Int) from rfl]
      obtain ⟨t0, t1, t2, t3, rfl⟩ : ∃ t0 t1 t2 t3, ts = [t0, t1, t2, t3] := by
        have := H1.out
        match ts, this with
        | [t0, t1, t2, t3], _ => exact ⟨t0, t1, t2, t3, rfl⟩
      obtain ⟨T0, G0, l0⟩ := t0
      obtain ⟨T1, G1, l1⟩ := t1
      obtain ⟨T2, G2, l2⟩ := t2
      obtain ⟨T3, G3, l3⟩ := t3
      obtain ⟨rfl, rfl⟩ : G0 = none ∧ l0 = [] := H2.out ⟨T0, G0, l0⟩ (by simp)
      obtain ⟨rfl, rfl⟩ : G1 = none ∧ l1 = [] := H2.out ⟨T1, G1, l1⟩ (by simp)
      obtain ⟨rfl, rfl⟩ : G2 = none ∧ l2 = [] := H2.out ⟨T2, G2, l2⟩ (by simp)
      obtain ⟨rfl, rfl⟩ : G3 = none ∧ l3 = [] := H2.out ⟨T3, G3, l3⟩ (by simp)
      have hrow := Row.of_own_ hown (by decide)
      obtain ⟨P, cP, rfl, hP, hptr⟩ := hrow
      have hoff := H3.out P rfl
      have hPl : P < wr.heap.size := (hown.lt P rfl).2
      clear H1 H2 H3 hown hlt hj
      go_wp2
      go_loopw [11] (fun i wx => ∃ (j : Nat) (G0 G1 G2 : Option Nat), j ≤ n ∧ i = .int .i64 j ∧ Tops wx k w.heap.size [⟨T0, G0, l.take j⟩, ⟨T1, G1, (l.take j).take at_⟩, ⟨T2, G2, (l.take j).drop at_⟩, ⟨T3, none, []⟩] ∧ Off P [⟨T0, G0, l.take j⟩, ⟨T1, G1, (l.take j).take at_⟩, ⟨T2, G2, (l.take j).drop at_⟩, ⟨T3, none, []⟩] ∧ Ptrs wx P [⟨T0, none, []⟩, ⟨T1, none, []⟩, ⟨T2, none, []⟩, ⟨T3, none, []⟩] ∧ P < wx.heap.size ∧ Below w.heap.size w wx) (fun i _ => n - (intOf i).toNat)
      case atStart => exact ⟨0, none, none, none, Nat.zero_le _, rfl, by simpa using hts, by simpa using hoff, hptr, hPl, hb⟩
      case round =>
        clear hts hoff hptr hPl hb hsz
        obtain ⟨j, G0, G1, G2, hj, rfl, hts, hoff, hptr, hPl, hb⟩ := hrel
        have hsz := hb.size
        by_cases hlt : j < n
        · obtain ⟨bq, off, rfl, _, hbq, c1, c2⟩ := HNW.out.at_ hlt
          obtain ⟨⟨p1, p2⟩, HP⟩ : ∃ y, Hid (l.getD j (0, 0) = y) := ⟨_, hid rfl⟩
          rw [HP.out] at c1 c2
          have CJ : ∀ W : World, Below w.heap.size w W → W.cell? ⟨bq, off + j * 2, none⟩ = some (.int .i64 p1) ∧ W.cell? ⟨bq, off + j * 2 + 1, none⟩ = some (.int .i64 p2) := fun W h => ⟨(h.cell hbq).trans c1, (h.cell hbq).trans c2⟩
          have HS : Hid (l.take j ++ [(p1, p2)] = l.take (j + 1)) := by
            have hk' : j < l.length := by rw [HL.out]; exact hlt
            exact hid (by rw [List.take_succ_eq_append_getElem hk', ← HP.out]; simp [List.getD_eq_getElem?_getD, hk'])
          have hjl : (l.take j).length = j := by rw [List.length_take, HL.out]; omega
          have HJL := hid hjl
          clear c1 c2 hjl
          have hk' : k ≤ 16777216 := by omega
          have bP0 := hptr 0 _ rfl
          obtain ⟨x10, x20⟩ := CJ _ hb
          have hTt0 : TopAt wr T0 G0 k (l.take j) := hts.all ⟨T0, G0, l.take j⟩ (by simp)
          have K0 : ∀ W' G', Moved wr.drew W' T0 G0 G' → W'.cell? ⟨P, 0, none⟩ = some (.pointer (some ⟨T0, 0, none⟩)) ∧ W'.cell? ⟨bq, off + j * 2, none⟩ = some (.int .i64 p1) ∧ W'.cell? ⟨bq, off + j * 2 + 1, none⟩ = some (.int .i64 p2) := fun W' G' mv => by
            have mv' := Moved.after (lays_drewN wr 1) mv
            refine ⟨hts.cell hoff (i := 0) (t := ⟨T0, G0, l.take j⟩) rfl mv' bP0, ?_⟩
            exact CJ _ (hb.trans (hts.moved_below (i := 0) (t := ⟨T0, G0, l.take j⟩) rfl mv' (Nat.le_refl _) hb.size))
          go_wp2
          go_region_held3 (fun W' => W'.cell? ⟨P, 0, none⟩ = some (.pointer (some ⟨T0, 0, none⟩)) ∧ W'.cell? ⟨bq, off + j * 2, none⟩ = some (.int .i64 p1) ∧ W'.cell? ⟨bq, off + j * 2 + 1, none⟩ = some (.int .i64 p2)) (first | exact ⟨bP0, x10, x20⟩ | exact K0 _ _ mv0)
            (first | (go_at_call 10; refine (add_any _ T0 k G0 (l.take j) (p1, p2) (by exact hTt0) hk').mono ?_; rintro e w5 ⟨G5, rfl, hTn0, mv0⟩))
          have mw0 := Moved.after (lays_drewN wr 1) mv0
          obtain ⟨hts5, hoffF⟩ := hts.add (i := 0) (t := ⟨T0, G0, l.take j⟩) rfl hTn0 mw0
          have hoff5 := hoffF P hPl hoff
          have hb5 := hb.trans (hts.moved_below (i := 0) (t := ⟨T0, G0, l.take j⟩) rfl mw0 (Nat.le_refl _) hsz)
          have hptr5 : Ptrs w5 P [⟨T0, none, []⟩, ⟨T1, none, []⟩, ⟨T2, none, []⟩, ⟨T3, none, []⟩] := fun i t hi => hts.cell hoff (i := 0) (t := ⟨T0, G0, l.take j⟩) rfl mw0 (hptr i t hi)
          have hPl5 : P < w5.heap.size := Nat.lt_of_lt_of_le hPl mw0.2.size
          simp only [List.set_cons_zero] at hts5 hoff5
          rw [HS.out] at hts5 hoff5
          clear hts hoff hb hptr hPl hoffF mv0 mw0 hTn0 hTt0 K0 bP0 x10 x20
          by_cases hja : j < at_
          · have hcut := cut_low (l := l.take j) (x := (p1, p2)) (a := at_) (by rw [HJL.out]; exact hja)
            have bP1 := hptr5 1 _ rfl
            obtain ⟨x11, x21⟩ := CJ _ hb5
            have hTt1 : TopAt w5 T1 G1 k ((l.take j).take at_) := hts5.all ⟨T1, G1, (l.take j).take at_⟩ (by simp)
            have K1 : ∀ W' G', Moved w5.drew W' T1 G1 G' → W'.cell? ⟨P, 1, none⟩ = some (.pointer (some ⟨T1, 0, none⟩)) ∧ W'.cell? ⟨bq, off + j * 2, none⟩ = some (.int .i64 p1) ∧ W'.cell? ⟨bq, off + j * 2 + 1, none⟩ = some (.int .i64 p2) := fun W' G' mv => by
              have mv' := Moved.after (lays_drewN w5 1) mv
              refine ⟨hts5.cell hoff5 (i := 1) (t := ⟨T1, G1, (l.take j).take at_⟩) rfl mv' bP1, ?_⟩
              exact CJ _ (hb5.trans (hts5.moved_below (i := 1) (t := ⟨T1, G1, (l.take j).take at_⟩) rfl mv' (Nat.le_refl _) hb5.size))
            go_wp2
            go_region_held3 (fun W' => W'.cell? ⟨P, 1, none⟩ = some (.pointer (some ⟨T1, 0, none⟩)) ∧ W'.cell? ⟨bq, off + j * 2, none⟩ = some (.int .i64 p1) ∧ W'.cell? ⟨bq, off + j * 2 + 1, none⟩ = some (.int .i64 p2)) (first | exact ⟨bP1, x11, x21⟩ | exact K1 _ _ mv1)
              (first | (go_at_call 10; refine (add_any _ T1 k G1 ((l.take j).take at_) (p1, p2) (by exact hTt1) hk').mono ?_; rintro e w6 ⟨G6, rfl, hTn1, mv1⟩))
            have mw1 := Moved.after (lays_drewN w5 1) mv1
            obtain ⟨hts6, hoffF⟩ := hts5.add (i := 1) (t := ⟨T1, G1, (l.take j).take at_⟩) rfl hTn1 mw1
            have hoff6 := hoffF P hPl5 hoff5
            have hb6 := hb5.trans (hts5.moved_below (i := 1) (t := ⟨T1, G1, (l.take j).take at_⟩) rfl mw1 (Nat.le_refl _) hb5.size)
            have hptr6 : Ptrs w6 P [⟨T0, none, []⟩, ⟨T1, none, []⟩, ⟨T2, none, []⟩, ⟨T3, none, []⟩] := fun i t hi => hts5.cell hoff5 (i := 1) (t := ⟨T1, G1, (l.take j).take at_⟩) rfl mw1 (hptr5 i t hi)
            have hPl6 : P < w6.heap.size := Nat.lt_of_lt_of_le hPl5 mw1.2.size
            simp only [List.set_cons_zero, List.set_cons_succ] at hts6 hoff6
            rw [← hcut.1, HS.out] at hts6 hoff6
            have hother := hcut.2
            rw [HS.out] at hother
            rw [← hother] at hts6 hoff6
            clear hts5 hoff5 hb5 hptr5 hPl5 hoffF mv1 mw1 hTn1 hTt1 K1 bP1 x11 x21
            go_wp2
            go_roundw
            case rel => exact ⟨j + 1, G5, G6, G2, by omega, by go_num, hts6, hoff6, hptr6, hPl6, hb6⟩
            case measure => simp [intOf]; omega
          · have hcut := cut_high (l := l.take j) (x := (p1, p2)) (a := at_) (by rw [HJL.out]; omega)
            have bP2 := hptr5 2 _ rfl
            obtain ⟨x12, x22⟩ := CJ _ hb5
            have hTt2 : TopAt w5 T2 G2 k ((l.take j).drop at_) := hts5.all ⟨T2, G2, (l.take j).drop at_⟩ (by simp)
            have K2 : ∀ W' G', Moved w5.drew W' T2 G2 G' → W'.cell? ⟨P, 2, none⟩ = some (.pointer (some ⟨T2, 0, none⟩)) ∧ W'.cell? ⟨bq, off + j * 2, none⟩ = some (.int .i64 p1) ∧ W'.cell? ⟨bq, off + j * 2 + 1, none⟩ = some (.int .i64 p2) := fun W' G' mv => by
              have mv' := Moved.after (lays_drewN w5 1) mv
              refine ⟨hts5.cell hoff5 (i := 2) (t := ⟨T2, G2, (l.take j).drop at_⟩) rfl mv' bP2, ?_⟩
              exact CJ _ (hb5.trans (hts5.moved_below (i := 2) (t := ⟨T2, G2, (l.take j).drop at_⟩) rfl mv' (Nat.le_refl _) hb5.size))
            go_wp2
            go_region_held3 (fun W' => W'.cell? ⟨P, 2, none⟩ = some (.pointer (some ⟨T2, 0, none⟩)) ∧ W'.cell? ⟨bq, off + j * 2, none⟩ = some (.int .i64 p1) ∧ W'.cell? ⟨bq, off + j * 2 + 1, none⟩ = some (.int .i64 p2)) (first | exact ⟨bP2, x12, x22⟩ | exact K2 _ _ mv2)
              (first | (go_at_call 10; refine (add_any _ T2 k G2 ((l.take j).drop at_) (p1, p2) (by exact hTt2) hk').mono ?_; rintro e w6 ⟨G6, rfl, hTn2, mv2⟩))
            have mw2 := Moved.after (lays_drewN w5 1) mv2
            obtain ⟨hts6, hoffF⟩ := hts5.add (i := 2) (t := ⟨T2, G2, (l.take j).drop at_⟩) rfl hTn2 mw2
            have hoff6 := hoffF P hPl5 hoff5
            have hb6 := hb5.trans (hts5.moved_below (i := 2) (t := ⟨T2, G2, (l.take j).drop at_⟩) rfl mw2 (Nat.le_refl _) hb5.size)
            have hptr6 : Ptrs w6 P [⟨T0, none, []⟩, ⟨T1, none, []⟩, ⟨T2, none, []⟩, ⟨T3, none, []⟩] := fun i t hi => hts5.cell hoff5 (i := 2) (t := ⟨T2, G2, (l.take j).drop at_⟩) rfl mw2 (hptr5 i t hi)
            have hPl6 : P < w6.heap.size := Nat.lt_of_lt_of_le hPl5 mw2.2.size
            simp only [List.set_cons_zero, List.set_cons_succ] at hts6 hoff6
            rw [← hcut.2, HS.out] at hts6 hoff6
            have hother := hcut.1
            rw [HS.out] at hother
            rw [← hother] at hts6 hoff6
            clear hts5 hoff5 hb5 hptr5 hPl5 hoffF mv2 mw2 hTn2 hTt2 K2 bP2 x12 x22
            go_wp2
            go_roundw
            case rel => exact ⟨j + 1, G5, G1, G6, by omega, by go_num, hts6, hoff6, hptr6, hPl6, hb6⟩
            case measure => simp [intOf]; omega
        · obtain rfl : j = n := by omega
          have hln : l.take j = l := List.take_of_length_le (by rw [HL.out]; exact Nat.le_refl _)
          rw [hln] at hts hoff
          obtain ⟨m1, HM1⟩ : ∃ m, Hid (keep k (l.take at_) = m) := ⟨_, hid rfl⟩
          obtain ⟨m2, HM2⟩ : ∃ m, Hid (keep k (l.drop at_) = m) := ⟨_, hid rfl⟩
          have hk' : k ≤ 16777216 := by omega
          clear hln hlt hj
          go_wp2
          go_loopw [12] (fun i wx => ∃ (i' : Nat) (G3 : Option Nat), 1 ≤ i' ∧ i' ≤ 3 ∧ i = .int .i64 i' ∧ Tops wx k w.heap.size [⟨T0, G0, l⟩, ⟨T1, G1, l.take at_⟩, ⟨T2, G2, l.drop at_⟩, ⟨T3, G3, stg m1 m2 i'⟩] ∧ Off P [⟨T0, G0, l⟩, ⟨T1, G1, l.take at_⟩, ⟨T2, G2, l.drop at_⟩, ⟨T3, G3, stg m1 m2 i'⟩] ∧ Ptrs wx P [⟨T0, none, []⟩, ⟨T1, none, []⟩, ⟨T2, none, []⟩, ⟨T3, none, []⟩] ∧ P < wx.heap.size ∧ Below w.heap.size w wx) (fun i _ => 3 - (intOf i).toNat)
          case atStart => exact ⟨1, none, by omega, by omega, rfl, by rw [(stg_step m1 m2).1]; exact hts, by rw [(stg_step m1 m2).1]; exact hoff, hptr, hPl, hb⟩
          case round =>
            clear hts hoff hptr hPl hb hsz
            obtain ⟨i', G3, hi1, hi3, rfl, hts, hoff, hptr, hPl, hb⟩ := hrel
            have hsz := hb.size
            by_cases hlt : i' < 3
            · obtain ⟨Ti, Gi, li, mi, hmem, HMI, HST, hci⟩ : ∃ Ti Gi li mi, TopAt wr Ti Gi k li ∧ Hid (keep k li = mi) ∧ Hid (stg m1 m2 (i' + 1) = stg m1 m2 i' ++ mi.reverse) ∧ wr.cell? ⟨P, i', none⟩ = some (.pointer (some ⟨Ti, 0, none⟩)) := by
                rcases (show i' = 1 ∨ i' = 2 by omega) with rfl | rfl
                · exact ⟨T1, G1, l.take at_, m1, hts.all ⟨T1, G1, l.take at_⟩ (by simp), HM1, hid (stg_step m1 m2).2.1, hptr 1 _ rfl⟩
                · exact ⟨T2, G2, l.drop at_, m2, hts.all ⟨T2, G2, l.drop at_⟩ (by simp), HM2, hid (stg_step m1 m2).2.2, hptr 2 _ rfl⟩
              have hi4 : (i' : Int) < 4 := by omega
              have hi4n : i' < 4 := by omega
              go_wp2_with fail
              refine (list_any wr Ti k Gi li hmem hk').mono ?_
              rintro e w5 ⟨A5, n5, c5, rfl, HL5, HA5, _, _, hN5, hb5⟩
              rw [HMI.out] at hN5 HL5
              have hbsz := hb5.size
              have hts5 := hts.below hb5
              have hptr5 := hptr.below hb5 hPl
              have hPl5 : P < w5.heap.size := by omega
              have hbb5 := hb.trans (hb5.mono hsz)
              have hT3l : ∀ g ∈ (⟨T3, G3, stg m1 m2 i'⟩ : Tp).bs, g < wr.heap.size := fun g hg => (bs_lt (hts.all ⟨T3, G3, stg m1 m2 i'⟩ (by simp)) g hg).2
              obtain ⟨lo5, hlo5⟩ : ∃ x, wr.heap.size = x := ⟨_, rfl⟩
              obtain ⟨hi5, hhi5⟩ : ∃ x, w5.heap.size = x := ⟨_, rfl⟩
              rw [hlo5, hhi5] at hN5
              rw [hlo5] at hT3l
              have hhi6 : hi5 ≤ w5.heap.size := by omega
              have hn5 : n5 ≤ 150 := by
                have := HL5.out
                rw [← HMI.out, keep_len] at this
                omega
              have hT3g : ∀ g ∈ (⟨T3, G3, stg m1 m2 i'⟩ : Tp).bs, g < lo5 ∨ hi5 ≤ g := fun g hg => .inl (hT3l g hg)
              have hoff5 := hoff
              have e0 : stg m1 m2 i' = stg m1 m2 i' ++ (mi.drop n5).reverse := by rw [List.drop_of_length_le (by rw [HL5.out]; exact Nat.le_refl _)]; simp
              have hwm1 : IntKind.i64.wrap ((n5 : Int) - 1) = (n5 : Int) - 1 := wrap_i64 (by omega) (by omega)
              have HE0 := hid e0
              clear hts hoff hptr hPl hb hsz hb5 hmem hci hlo5 hhi5 hT3l hbsz e0
              go_wp2
              go_loopw [14] (fun v wx => ∃ (x : Int) (r : Nat) (G3 : Option Nat), v = .int .i64 x ∧ x = (r : Int) - 1 ∧ r ≤ n5 ∧ Tops wx k w.heap.size [⟨T0, G0, l⟩, ⟨T1, G1, l.take at_⟩, ⟨T2, G2, l.drop at_⟩, ⟨T3, G3, stg m1 m2 i' ++ (mi.drop r).reverse⟩] ∧ Off P [⟨T0, G0, l⟩, ⟨T1, G1, l.take at_⟩, ⟨T2, G2, l.drop at_⟩, ⟨T3, G3, stg m1 m2 i' ++ (mi.drop r).reverse⟩] ∧ Ptrs wx P [⟨T0, none, []⟩, ⟨T1, none, []⟩, ⟨T2, none, []⟩, ⟨T3, none, []⟩] ∧ P < wx.heap.size ∧ Nears wx lo5 hi5 A5 n5 mi ∧ (∀ g ∈ T3 :: G3.toList, g < lo5 ∨ hi5 ≤ g) ∧ hi5 ≤ wx.heap.size ∧ Below w.heap.size w wx) (fun v _ => (intOf v + 1).toNat)
              case atStart => exact ⟨(n5 : Int) - 1, n5, G3, rfl, rfl, Nat.le_refl _, by rw [← HE0.out]; exact hts5, by rw [← HE0.out]; exact hoff5, hptr5, hPl5, hN5, hT3g, hhi6, hbb5⟩
              case round =>
                clear hts5 hoff5 hptr5 hPl5 hN5 hT3g hhi6 hbb5
                obtain ⟨x, r, G3, rfl, hx, hr, hts, hoff, hptr, hPl, hN5, hg3, hhi, hb⟩ := hrel
                have hsz := hb.size
                by_cases hr0 : r = 0
                · subst hr0
                  obtain rfl : x = -1 := by omega
                  rw [List.drop_zero, ← HST.out] at hts hoff
                  clear hx
                  go_wp2
                  go_roundw
                  case rel => exact ⟨i' + 1, G3, by omega, by omega, by go_num, hts, hoff, hptr, hPl, hb⟩
                  case measure => simp [intOf]; omega
                · obtain ⟨m, rfl⟩ : ∃ m, r = m + 1 := ⟨r - 1, by omega⟩
                  obtain rfl : x = (m : Int) := by omega
                  obtain ⟨bx, ox, rfl, hbl, hbh, c1, c2⟩ := hN5.at_ (j := m) (by omega)
                  obtain ⟨⟨p1, p2⟩, HP⟩ : ∃ y, Hid (mi.getD m (0, 0) = y) := ⟨_, hid rfl⟩
                  rw [HP.out] at c1 c2
                  have hmn : m < n5 := by omega
                  have hbP := hptr 3 _ rfl
                  have hT3t : TopAt wr T3 G3 k (stg m1 m2 i' ++ (mi.drop (m + 1)).reverse) := hts.all ⟨T3, G3, _⟩ (by simp)
                  have KA : ∀ W' G', Moved wr.drew W' T3 G3 G' → W'.cell? ⟨P, 3, none⟩ = some (.pointer (some ⟨T3, 0, none⟩)) ∧ W'.cell? ⟨bx, ox + m * 2, none⟩ = some (.int .i64 p1) ∧ W'.cell? ⟨bx, ox + m * 2 + 1, none⟩ = some (.int .i64 p2) := fun W' G' mv => by
                    have mv' := Moved.after (lays_drewN wr 1) mv
                    refine ⟨hts.cell hoff (i := 3) (t := ⟨T3, G3, stg m1 m2 i' ++ (mi.drop (m + 1)).reverse⟩) rfl mv' hbP, ?_⟩
                    obtain ⟨_, _, e9, _, _, g1, g2⟩ := (hN5.moved mv' hg3).at_ hmn
                    injection e9 with e9
                    injection e9 with e91 e92
                    subst e91 e92
                    rw [HP.out] at g1 g2
                    exact ⟨g1, g2⟩
                  clear hx hr0
                  go_wp2
                  go_region_held3 (fun W' => W'.cell? ⟨P, 3, none⟩ = some (.pointer (some ⟨T3, 0, none⟩)) ∧ W'.cell? ⟨bx, ox + m * 2, none⟩ = some (.int .i64 p1) ∧ W'.cell? ⟨bx, ox + m * 2 + 1, none⟩ = some (.int .i64 p2)) (first | exact ⟨hbP, c1, c2⟩ | exact KA _ _ mv3)
                    (first | (go_at_call 10; refine (add_any _ T3 k G3 (stg m1 m2 i' ++ (mi.drop (m + 1)).reverse) (p1, p2) (by exact hT3t) hk').mono ?_; rintro e w6 ⟨G6, rfl, hTn3, mv3⟩))
                  have mw3 := Moved.after (lays_drewN wr 1) mv3
                  obtain ⟨hts6, hoffF⟩ := hts.add (i := 3) (t := ⟨T3, G3, stg m1 m2 i' ++ (mi.drop (m + 1)).reverse⟩) rfl hTn3 mw3
                  have hoff6 := hoffF P hPl hoff
                  have hb6 := hb.trans (hts.moved_below (i := 3) (t := ⟨T3, G3, stg m1 m2 i' ++ (mi.drop (m + 1)).reverse⟩) rfl mw3 (Nat.le_refl _) hsz)
                  have hptr6 : Ptrs w6 P [⟨T0, none, []⟩, ⟨T1, none, []⟩, ⟨T2, none, []⟩, ⟨T3, none, []⟩] := fun i t hi => hts.cell hoff (i := 3) (t := ⟨T3, G3, stg m1 m2 i' ++ (mi.drop (m + 1)).reverse⟩) rfl mw3 (hptr i t hi)
                  have hPl6 : P < w6.heap.size := Nat.lt_of_lt_of_le hPl mw3.2.size
                  have hN6 := hN5.moved mw3 hg3
                  have hhi6 : hi5 ≤ w6.heap.size := Nat.le_trans hhi mw3.2.size
                  have hg6 : ∀ g ∈ T3 :: G6.toList, g < lo5 ∨ hi5 ≤ g := fun g hg => by
                    rcases mw3.1 with e | ⟨q, e, hq⟩
                    · rw [e] at hg; exact hg3 g hg
                    · rcases List.mem_cons.1 hg with e1 | hg
                      · exact hg3 g (by rw [e1]; exact List.mem_cons_self)
                      · rw [e] at hg
                        simp at hg
                        omega
                  simp only [List.set_cons_zero, List.set_cons_succ] at hts6 hoff6
                  rw [List.append_assoc, drop_rev (by rw [HL5.out]; exact hmn) HP.out] at hts6 hoff6
                  have hwm : IntKind.i64.wrap ((m : Int) - 1) = (m : Int) - 1 := wrap_i64 (by omega) (by omega)
                  clear hts hoff hb hptr hPl hoffF mv3 mw3 hTn3 hT3t KA hbP c1 c2 hN5 hg3 hhi
                  go_wp2
                  go_roundw
                  case rel => exact ⟨(m : Int) - 1, m, G6, rfl, rfl, by omega, hts6, hoff6, hptr6, hPl6, hN6, hg6, hhi6, hb6⟩
                  case measure => simp [intOf]
            · obtain rfl : i' = 3 := by omega
              rw [show ((3 : Nat) : Int) = (3 : Int) from rfl]
              obtain ⟨n0, HN0⟩ : ∃ n0, Hid ((keep k l).length = n0) := ⟨_, hid rfl⟩
              have HM0 : Hid (n0 = min k j) := hid (by rw [← HN0.out, keep_len, HL.out])
              have hn0 : n0 ≤ 150 := by have := HM0.out; omega
              have hn0j : n0 ≤ j := by have := HM0.out; omega
              have hK3 : keep k (stg m1 m2 3) = keep k l := by
                have e1 : stg m1 m2 3 = m1.reverse ++ m2.reverse := by simp [stg]
                rw [e1, keep_of_perm k ((List.reverse_perm m1).append (List.reverse_perm m2)), ← HM1.out, ← HM2.out, keep_merge, List.take_append_drop]
              have cl0 := list_q2 wr T0 k G0 l (keep k l) n0 (hts.all ⟨T0, G0, l⟩ (by simp)) hk' rfl HN0.out
              have cl3 := list_q2 wr T3 k G3 (stg m1 m2 3) (keep k l) n0 (hts.all ⟨T3, G3, stg m1 m2 3⟩ (by simp)) hk' hK3 HN0.out
              have cso := sorted_q2 wr A j c w.heap.size l (HNW.out.below hb (Nat.le_refl _)) HA.out hsz hn
              have csm := same_q wr (keep k l) n0 hn0
              have hsr : (srt l).take n0 = keep k l := by
                have := HM0.out
                unfold keep
                by_cases hkj : k ≤ j
                · rw [show n0 = k by omega]
                · rw [show n0 = j by omega, List.take_of_length_le (by rw [srt_len, HL.out]; exact Nat.le_refl _), List.take_of_length_le (by rw [srt_len, HL.out]; omega)]
              have HSR := hid hsr
              have hq : Below wr.heap.size wr wr.drew := below_drewN (Below.refl _ _) 1
              have KP : ∀ W : World, Below wr.heap.size wr W → W.cell? ⟨P, 0, none⟩ = some (.pointer (some ⟨T0, 0, none⟩)) ∧ W.cell? ⟨P, 3, none⟩ = some (.pointer (some ⟨T3, 0, none⟩)) := fun W h => ⟨(h.cell hPl).trans (hptr 0 _ rfl), (h.cell hPl).trans (hptr 3 _ rfl)⟩
              have hmin2 : min (k : Int) (j : Int) = (n0 : Int) := by have := HM0.out; omega
              have hmin3 : (if (j : Int) < (k : Int) then (j : Int) else (k : Int)) = (n0 : Int) := by have := HM0.out; split <;> omega
              have hwn0 : IntKind.i64.wrap (n0 : Int) = (n0 : Int) := wrap_i64 (by omega) (by omega)
              have hz0' : (0 : Int) ≤ (n0 : Int) := by omega
              clear hts hoff hptr hK3 hsr
              go_wp2
              go_region_held3 (fun W' => W'.cell? ⟨P, 0, none⟩ = some (.pointer (some ⟨T0, 0, none⟩)) ∧ W'.cell? ⟨P, 3, none⟩ = some (.pointer (some ⟨T3, 0, none⟩))) (exact KP _ hq)
                (first
                  | (go_at_call 24; have hm := hS1; clear hm; refine (cl0 _ hq).mono ?_; rintro e wc ⟨Ac, cc, rfl, hNc, hstc, hq⟩)
                  | (go_at_call 24; have hm := hN8; clear hm; refine (cl3 _ hq).mono ?_; rintro e w9 ⟨A9, c9, rfl, hN9, hst9, hq⟩)
                  | (go_at_call 24; refine (cl0 _ hq).mono ?_; rintro e w8 ⟨A8, c8, rfl, hN8, hst8, hq⟩)
                  | (go_at_call 19; refine (cso _ hq).mono ?_; rintro e wd ⟨Ad, cd, rfl, hcd, hNd, hstd, hq⟩; have hcd1 : (n0 : Int) ≤ (cd : Int) := Int.ofNat_le.2 (Nat.le_trans hn0j hcd); have hcd2 : n0 ≤ cd := Nat.le_trans hn0j hcd; have hNe := hNd.take hn0j; rw [HSR.out] at hNe)
                  | (go_at_call 18; have hm := hNe; clear hm; refine (csm _ _ _ _ _ Ac Ad cc cd hq (hNc.below hstd (Nat.le_refl _)) hNe).mono ?_; rintro e we ⟨rfl, hq⟩)
                  | (go_at_call 18; refine (csm _ _ _ _ _ A8 A9 c8 c9 hq (hN8.below hst9 (Nat.le_refl _)) hN9).mono ?_; rintro e wb ⟨rfl, hq⟩; have hS1 : True := trivial))
              all_goals
                have HFIN := hid (hb.trans (hq.mono hsz))
                clear cl0 cl3 cso csm KP hq hN8 hN9 hst8 hst9 hNc hstc hNd hstd hNe hb
                go_wp2
                go_ret
                exact ⟨rfl, HFIN.out⟩
set_option maxRecDepth 100000 in
set_option maxHeartbeats 800000 in
theorem rankMerges_long (A : Option Addr) (n c : Nat) (a0 k0 : Int) (w : World) (hn : 150 < n) :
    Calls Try.prog 8 #[.slice A n c, .int .i64 a0, .int .i64 k0] w fun e w' => e = .returned (.bool true) ∧ Below w.heap.size w w' := by
  go_enter Try.func8, Try.ntmps8
  go_wp2_with fail
  refine (lives_any _).mono ?_
  rintro e w3 ⟨rfl, hb3⟩
  have H3 := hid hb3
  clear hb3
  go_wp2
  go_ret
  exact ⟨rfl, H3.out⟩
theorem rankMerges_walk (A : Option Addr) (n c : Nat) (l : List (Int × Int)) (a0 k0 : Int) (w : World) (hN : Nears w 0 w.heap.size A n l) (hA : A = none → c = 0) :
    Calls Try.prog 8 #[.slice A n c, .int .i64 a0, .int .i64 k0] w fun e w' => e = .returned (.bool true) ∧ Below w.heap.size w w' := by
  by_cases hn : 150 < n
  · exact rankMerges_long A n c a0 k0 w hn
  · exact rankMerges_ok A n c l a0 k0 w hN hA (by omega)
end Go.Proofs.Ytdknjeikhdodeaa
