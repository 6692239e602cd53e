/-
  rank's Top: Add and New.
-/
import Derived.Test.YtdknjeikhdodeaaPush
namespace Go.Proofs.Ytdknjeikhdodeaa
open Go.RowKit Go.Sort

/-- A pair in a block of its own. -/
def Box (w : World) (B : Nat) (x1 x2 : Int) : Prop := w.cell? ⟨B, 0, none⟩ = some (.int .i64 x1) ∧ w.cell? ⟨B, 1, none⟩ = some (.int .i64 x2) ∧ B < w.heap.size
theorem Box.new (w : World) (t : TypeId) (x1 x2 : Int) : Box (w.alloc (.cells #[.int .i64 x1, .int .i64 x2] t)) w.heap.size x1 x2 := ⟨(cell_new w t _ 0 _ rfl).trans rfl, (cell_new w t _ 1 _ rfl).trans rfl, by simp⟩
theorem Box.touch {w w' : World} {B : Nat} {x1 x2 : Int} {F : List Nat} (h : Box w B x1 x2) (ht : Touch w w' F) (hB : B ∉ F) : Box w' B x1 x2 :=
  ⟨(World.cell?_of_block (ht.block B h.2.2 hB)).trans h.1, (World.cell?_of_block (ht.block B h.2.2 hB)).trans h.2.1, Nat.lt_of_lt_of_le h.2.2 ht.size⟩
theorem Box.lays {w w' : World} {B : Nat} {x1 x2 : Int} (h : Box w B x1 x2) (ht : Lays w w') : Box w' B x1 x2 := h.touch (touch_lays ht []) (by simp)

theorem last_of (l : List (Int × Int)) (h : l ≠ []) : l.getLastD (0, 0) = l.getLast h := by
  cases l with
  | nil => exact absurd rfl h
  | cons => rfl
/-- Whether one more is kept. -/
def adds (k : Nat) (l : List (Int × Int)) (x : Int × Int) : Bool := if (keep k l).length < k then true else if k = 0 then false else nlt x ((keep k l).getLastD (0, 0))
theorem moved_lays {w w' : World} {T : Nat} {G : Option Nat} (h : Lays w w') : Moved w w' T G G := ⟨.inl rfl, touch_lays h _⟩
theorem Moved.after {a b c : World} {T : Nat} {G G' : Option Nat} (h : Lays a b) (h2 : Moved b c T G G') : Moved a c T G G' := by
  refine ⟨?_, (touch_lays h _).trans h2.2⟩
  rcases h2.1 with e | ⟨g, e, hg⟩
  · exact .inl e
  · exact .inr ⟨g, e, Nat.le_trans h.below.size hg⟩
theorem not_mem_top {T B : Nat} {G : Option Nat} (h1 : T < B) (h2 : ∀ g, G = some g → g < B) : B ∉ T :: G.toList := by
  intro hm
  rcases List.mem_cons.1 hm with e | hm
  · omega
  · cases G with
    | none => simp at hm
    | some g => have := h2 g rfl; simp at hm; omega

set_option maxHeartbeats 3200000 in
theorem add_room (w : World) (T k : Nat) (G : Option Nat) (h : List (Int × Int)) (x : Int × Int) (hT : TopH w T G k h) (hh : Hp h) (hk : k ≤ 16777216) (hr : h.length < k) :
    Calls Try.prog 10 #[.pointer (some ⟨T, 0, none⟩), .agg #[.int .i64 x.1, .int .i64 x.2]] w fun e w' => ∃ h' G', e = .returned (.tuple #[.bool true, .int .i64 0]) ∧ TopH w' T G' k h' ∧ Hp h' ∧ h'.Perm (h ++ [x]) ∧ Moved w w' T G G' := by
  obtain ⟨x1, x2⟩ := x
  have hlt := hT.lt
  go_enter Try.func10, Try.ntmps10
  go_wp2_with fail
  have L1 := lays_alloc w (.cells #[.int .i64 x1, .int .i64 x2] 29)
  have b1 := Box.new w 29 x1 x2
  have hT1 := hT.lays L1
  obtain ⟨A, c, c0, _⟩ := hT1.cells
  obtain ⟨B, hB⟩ : ∃ B, w.heap.size = B := ⟨_, rfl⟩
  have HB := hid hB
  rw [hB] at b1 hlt ⊢
  clear hB
  have H1 := hid L1
  clear L1
  generalize w.alloc (.cells #[.int .i64 x1, .int .i64 x2] 29) = wa at hT1 b1 c0 H1 ⊢
  refine (unmade_made _ _ c0).mono ?_
  rintro e w' ⟨rfl, rfl⟩
  go_wp2_with fail
  refine (full_at _ T k G h false hT1 (by simp; omega)).mono ?_
  rintro e wb ⟨rfl, q, hq⟩
  have L2 : Lays wa wb := by rw [hq]; exact lays_drewN wa q
  have hT2 := hT1.lays L2
  have b2 := b1.lays L2
  have H2 := hid (H1.out.trans L2)
  clear hT1 b1 c0 L2 hq H1
  obtain ⟨d0, d1, dB⟩ := b2
  have hnb : B ∉ T :: G.toList := not_mem_top hlt.1 (fun g hg => (hlt.2 g hg).2)
  have hcn : ∀ w9, Touch wb w9 (T :: G.toList) → w9.cell? ⟨B, 0, none⟩ = some (.int .i64 x1) ∧ w9.cell? ⟨B, 1, none⟩ = some (.int .i64 x2) := fun w9 ht => by
    have := Box.touch ⟨d0, d1, dB⟩ ht hnb
    exact ⟨this.1, this.2.1⟩
  have hlen : h.length ≤ 60000000 := by omega
  go_wp2
  go_region_held3 (fun w' => w'.cell? ⟨B, 0, none⟩ = some (.int .i64 x1) ∧ w'.cell? ⟨B, 1, none⟩ = some (.int .i64 x2)) (first | exact ⟨d0, d1⟩ | exact hcn _ (Touch.trans (touch_lays (lays_drewN wb 1) _) mv9.2))
    (first | (go_at_call 27; refine (push_any _ T k G h (x1, x2) (by exact hT2) hh hlen).mono ?_; rintro e w9 ⟨h', G', rfl, hT9, hp9, pm9, mv9⟩))
  go_wp2
  go_ret2
  exact ⟨h', G', rfl, hT9, hp9, pm9, Moved.after (H2.out.trans (lays_drewN wb 1)) mv9⟩
theorem add_zero (w : World) (T k : Nat) (G : Option Nat) (h : List (Int × Int)) (x : Int × Int) (hT : TopH w T G k h) (hr : h.length = k) (h0 : k = 0) :
    Calls Try.prog 10 #[.pointer (some ⟨T, 0, none⟩), .agg #[.int .i64 x.1, .int .i64 x.2]] w fun e w' => e = .returned (.tuple #[.bool false, .int .i64 0]) ∧ Lays w w' := by
  obtain ⟨x1, x2⟩ := x
  have hlt := hT.lt
  go_enter Try.func10, Try.ntmps10
  go_wp2_with fail
  have L1 := lays_alloc w (.cells #[.int .i64 x1, .int .i64 x2] 29)
  have b1 := Box.new w 29 x1 x2
  have hT1 := hT.lays L1
  obtain ⟨A, c, c0, _⟩ := hT1.cells
  obtain ⟨B, hB⟩ : ∃ B, w.heap.size = B := ⟨_, rfl⟩
  have HB := hid hB
  rw [hB] at b1 hlt ⊢
  clear hB
  have H1 := hid L1
  clear L1
  generalize w.alloc (.cells #[.int .i64 x1, .int .i64 x2] 29) = wa at hT1 b1 c0 H1 ⊢
  refine (unmade_made _ _ c0).mono ?_
  rintro e w' ⟨rfl, rfl⟩
  go_wp2_with fail
  refine (full_at _ T k G h true hT1 (by simp [hr])).mono ?_
  rintro e wb ⟨rfl, q, hq⟩
  have L2 : Lays wa wb := by rw [hq]; exact lays_drewN wa q
  have hT2 := hT1.lays L2
  have b2 := b1.lays L2
  have H2 := hid (H1.out.trans L2)
  clear hT1 b1 c0 L2 hq H1
  go_wp2_with fail
  refine (worst_no _ T k G h hT2 (.inr h0)).mono ?_
  rintro e wc ⟨rfl, L3⟩
  have H3 := hid (H2.out.trans L3)
  clear L3 hT2 b2
  go_wp2
  go_ret2
  exact ⟨rfl, H3.out.trans (lays_alloc _ _)⟩
set_option maxHeartbeats 3200000 in
theorem add_far (w : World) (T k : Nat) (G : Option Nat) (h : List (Int × Int)) (x : Int × Int) (hT : TopH w T G k h) (hr : h.length = k) (h0 : 0 < k) (hx : nlt x (h.getD 0 (0, 0)) = false) :
    Calls Try.prog 10 #[.pointer (some ⟨T, 0, none⟩), .agg #[.int .i64 x.1, .int .i64 x.2]] w fun e w' => e = .returned (.tuple #[.bool false, .int .i64 0]) ∧ Lays w w' := by
  have hw := fun W (hW : TopH W T G k h) => worst_yes W T k G h hW hr h0
  obtain ⟨⟨y1, y2⟩, HY⟩ : ∃ y, Hid (h.getD 0 (0, 0) = y) := ⟨_, hid rfl⟩
  rw [HY.out] at hw hx
  obtain ⟨x1, x2⟩ := x
  have hlt := hT.lt
  go_enter Try.func10, Try.ntmps10
  go_wp2_with fail
  have L1 := lays_alloc w (.cells #[.int .i64 x1, .int .i64 x2] 29)
  have b1 := Box.new w 29 x1 x2
  have hT1 := hT.lays L1
  obtain ⟨A, c, c0, _⟩ := hT1.cells
  obtain ⟨B, hB⟩ : ∃ B, w.heap.size = B := ⟨_, rfl⟩
  have HB := hid hB
  rw [hB] at b1 hlt ⊢
  clear hB
  have H1 := hid L1
  clear L1
  generalize w.alloc (.cells #[.int .i64 x1, .int .i64 x2] 29) = wa at hT1 b1 c0 H1 ⊢
  refine (unmade_made _ _ c0).mono ?_
  rintro e w' ⟨rfl, rfl⟩
  go_wp2_with fail
  refine (full_at _ T k G h true hT1 (by simp [hr])).mono ?_
  rintro e wb ⟨rfl, q, hq⟩
  have L2 : Lays wa wb := by rw [hq]; exact lays_drewN wa q
  have hT2 := hT1.lays L2
  have b2 := b1.lays L2
  have H2 := hid (H1.out.trans L2)
  clear hT1 b1 c0 L2 hq H1
  go_wp2_with fail
  refine (hw _ hT2).mono ?_
  rintro e wc ⟨rfl, L3⟩
  have H3 := hid (H2.out.trans L3)
  obtain ⟨d0, d1, dB⟩ := b2.lays L3
  have e0 : ∀ o, (wc.alloc o).cell? ⟨B, 0, none⟩ = some (.int .i64 x1) := fun o => (cell_old _ _ _ dB).trans d0
  have e1 : ∀ o, (wc.alloc o).cell? ⟨B, 1, none⟩ = some (.int .i64 x2) := fun o => (cell_old _ _ _ dB).trans d1
  have hless : ∀ W, Calls Try.prog 15 #[.agg #[.int .i64 x1, .int .i64 x2], .agg #[.int .i64 y1, .int .i64 y2]] W (Gr W (.bool false)) := fun W => by
    have := less_any (x1, x2) (y1, y2) W
    rwa [hx] at this
  clear L3 hT2 b2
  go_wp2_with (go_at_call 15; refine (hless _).mono ?_; rintro e w' ⟨rfl, q5, os5, rfl⟩)
  go_ret2
  exact ⟨rfl, (H3.out.trans (lays_alloc _ _)).trans (lays_mk _ _ _)⟩
set_option maxHeartbeats 3200000 in
theorem add_near (w : World) (T k : Nat) (G : Option Nat) (h : List (Int × Int)) (x : Int × Int) (hT : TopH w T G k h) (hh : Hp h) (hk : k ≤ 16777216) (hr : h.length = k) (h0 : 0 < k) (hx : nlt x (h.getD 0 (0, 0)) = true) :
    Calls Try.prog 10 #[.pointer (some ⟨T, 0, none⟩), .agg #[.int .i64 x.1, .int .i64 x.2]] w fun e w' => ∃ h', e = .returned (.tuple #[.bool true, .int .i64 0]) ∧ TopH w' T G k h' ∧ Hp h' ∧ h'.Perm (h.set 0 x) ∧ Moved w w' T G G := by
  have hw := fun W (hW : TopH W T G k h) => worst_yes W T k G h hW hr h0
  obtain ⟨⟨y1, y2⟩, HY⟩ : ∃ y, Hid (h.getD 0 (0, 0) = y) := ⟨_, hid rfl⟩
  rw [HY.out] at hw hx
  obtain ⟨x1, x2⟩ := x
  have hlt := hT.lt
  go_enter Try.func10, Try.ntmps10
  go_wp2_with fail
  have L1 := lays_alloc w (.cells #[.int .i64 x1, .int .i64 x2] 29)
  have b1 := Box.new w 29 x1 x2
  have hT1 := hT.lays L1
  obtain ⟨A, c, c0, _⟩ := hT1.cells
  obtain ⟨B, hB⟩ : ∃ B, w.heap.size = B := ⟨_, rfl⟩
  have HB := hid hB
  rw [hB] at b1 hlt ⊢
  clear hB
  have H1 := hid L1
  clear L1
  generalize w.alloc (.cells #[.int .i64 x1, .int .i64 x2] 29) = wa at hT1 b1 c0 H1 ⊢
  refine (unmade_made _ _ c0).mono ?_
  rintro e w' ⟨rfl, rfl⟩
  go_wp2_with fail
  refine (full_at _ T k G h true hT1 (by simp [hr])).mono ?_
  rintro e wb ⟨rfl, q, hq⟩
  have L2 : Lays wa wb := by rw [hq]; exact lays_drewN wa q
  have hT2 := hT1.lays L2
  have b2 := b1.lays L2
  have H2 := hid (H1.out.trans L2)
  clear hT1 b1 c0 L2 hq H1
  go_wp2_with fail
  refine (hw _ hT2).mono ?_
  rintro e wc ⟨rfl, L3⟩
  have H3 := hid (H2.out.trans L3)
  have b3 := b2.lays L3
  obtain ⟨d0, d1, dB⟩ := b3
  have e0 : ∀ o, (wc.alloc o).cell? ⟨B, 0, none⟩ = some (.int .i64 x1) := fun o => (cell_old _ _ _ dB).trans d0
  have e1 : ∀ o, (wc.alloc o).cell? ⟨B, 1, none⟩ = some (.int .i64 x2) := fun o => (cell_old _ _ _ dB).trans d1
  have hless : ∀ W, Calls Try.prog 15 #[.agg #[.int .i64 x1, .int .i64 x2], .agg #[.int .i64 y1, .int .i64 y2]] W (Gr W (.bool true)) := fun W => by
    have := less_any (x1, x2) (y1, y2) W
    rwa [hx] at this
  have hT3 := hT2.lays L3
  clear L3 hT2 b2
  go_wp2_with (go_at_call 15; refine (hless _).mono ?_; rintro e wd ⟨rfl, q5, os5, hwd⟩; have HWD := hid hwd; clear hwd)
  have L4 : Lays wc wd := by rw [HWD.out]; exact (lays_alloc _ _).trans (lays_mk _ _ _)
  have hT4 := hT3.lays L4
  obtain ⟨f0, f1, fB⟩ := Box.lays ⟨d0, d1, dB⟩ L4
  have H4 := hid (H3.out.trans L4)
  clear L4 HWD hT3 d0 d1 dB e0 e1
  obtain ⟨A, c, hBk, hG, hown⟩ := hT4
  obtain ⟨_, ⟨_, h2⟩ | ⟨g, cap, e2, hg, hhp⟩⟩ := heap_of_own hown
  · subst h2; simp at hr; omega
  injection e2 with e2 _ e3
  subst e2 e3
  rw [hr] at hBk hown
  have g2 : wd.cell? ⟨T, 2, none⟩ = some (.slice (some ⟨g, 0, none⟩) k c) := hBk.cell 2
  have hTl := hBk.lt
  have hgl := hhp.lt
  have hTg : some T ≠ some g := by intro e; injection e with e; omega
  have hGg : Hid (G = some g) := hid (by rw [← hG]; rfl)
  have hBg : some B ≠ some g := by
    intro e
    injection e with e
    have := (hlt.2 g hGg.out).2
    omega
  have hkn : k ≤ 70000000 := by omega
  clear hG hown
  go_wp2
  go_region_held3 (fun w' => w'.cell? ⟨B, 0, none⟩ = some (.int .i64 x1) ∧ w'.cell? ⟨B, 1, none⟩ = some (.int .i64 x2) ∧ w'.cell? ⟨T, 2, none⟩ = some (.slice (some ⟨g, 0, none⟩) k c)) (first | exact ⟨f0, f1, g2⟩ | exact ⟨(gr9.cell_far _ fB hBg).trans f0, (gr9.cell_far _ fB hBg).trans f1, (gr9.cell_far _ hTl hTg).trans g2⟩)
    (first | (go_at_call 28; refine (replace_any g c k h (x1, x2) _ (by exact hhp) hr h0 hkn hh).mono ?_; rintro e w9 ⟨h', rfl, hp9, hh9, pm9, gr9⟩))
  go_wp2
  go_ret2
  have hl' : h'.length = k := by rw [pm9.length_eq, List.length_set]; exact hr
  refine ⟨h', rfl, ⟨some ⟨g, 0, none⟩, c, ?_, ?_, ?_⟩, hh9, pm9, .inl rfl, ?_⟩
  · rw [hl']
    exact Blk.grown (w := wd.drew) hBk gr9 hTg
  · rw [hGg.out]; rfl
  · rw [hl']
    exact own_of_heap hp9 hg hl'
  · refine (touch_lays (H4.out.trans (lays_drewN wd 1)) _).trans (touch_grown gr9 (fun g' hg' => ?_))
    rw [hGg.out]
    injection hg' with hg'
    simp [hg']

theorem add_any (w : World) (T k : Nat) (G : Option Nat) (l : List (Int × Int)) (x : Int × Int) (hT : TopAt w T G k l) (hk : k ≤ 16777216) :
    Calls Try.prog 10 #[.pointer (some ⟨T, 0, none⟩), .agg #[.int .i64 x.1, .int .i64 x.2]] w fun e w' => ∃ G', e = .returned (.tuple #[.bool (adds k l x), .int .i64 0]) ∧ TopAt w' T G' k (l ++ [x]) ∧ Moved w w' T G G' := by
  obtain ⟨h, hT, hh, hp⟩ := hT
  have hle : (keep k l).length ≤ k := by rw [keep_len]; omega
  have hll := hp.length_eq
  by_cases hr : h.length < k
  · have e : adds k l x = true := by unfold adds; rw [if_pos (by omega)]
    rw [e]
    refine (add_room w T k G h x hT hh hk hr).mono ?_
    rintro e w' ⟨h', G', rfl, a, b, c, d⟩
    exact ⟨G', rfl, ⟨h', a, b, c.trans (keep_push x hp (by omega))⟩, d⟩
  · by_cases h0 : k = 0
    · have e : adds k l x = false := by unfold adds; rw [if_neg (by omega), if_pos h0]
      rw [e]
      refine (add_zero w T k G h x hT (by omega) h0).mono ?_
      rintro e w' ⟨rfl, a⟩
      exact ⟨G, rfl, ⟨h, hT.lays a, hh, by rw [keep_stays hh hp (by omega) (fun hc => absurd hc (by omega))]; exact hp⟩, moved_lays a⟩
    · have hs : keep k l ≠ [] := by intro e; rw [e] at hll; simp at hll; subst hll; simp at hr; omega
      have hw := hp_worst hh hp hs
      have e : adds k l x = nlt x (h.getD 0 (0, 0)) := by
        unfold adds
        rw [if_neg (by omega), if_neg h0, hw, last_of _ hs]
      rw [e]
      cases hx : nlt x (h.getD 0 (0, 0))
      · refine (add_far w T k G h x hT (by omega) (by omega) hx).mono ?_
        rintro e w' ⟨rfl, a⟩
        exact ⟨G, rfl, ⟨h, hT.lays a, hh, by rw [keep_stays hh hp (by omega) (fun _ => hx)]; exact hp⟩, moved_lays a⟩
      · refine (add_near w T k G h x hT hh hk (by omega) (by omega) hx).mono ?_
        rintro e w' ⟨h', rfl, a, b, c, d⟩
        exact ⟨G, rfl, ⟨h', a, b, c.trans (keep_replace hh hp (by omega) hs hx)⟩, d⟩
theorem new_bad (k : Int) (hk : k < 0 ∨ 16777216 < k) (w : World) : Calls Try.prog 9 #[.int .i64 k] w fun e w' => e = .returned (.tuple #[.pointer none, .int .i64 2]) ∧ w = w' := by
  by_cases h : k < 0
  · clear hk
    go_enter Try.func9, Try.ntmps9
    go_wp2
    go_ret2
    exact ⟨rfl, rfl⟩
  · have h1 : 0 ≤ k := by omega
    have h2 : 16777216 < k := by omega
    clear hk h
    go_enter Try.func9, Try.ntmps9
    go_wp2
    go_ret2
    exact ⟨rfl, rfl⟩
theorem new_ok (k : Nat) (hk : k ≤ 16777216) (w : World) : Calls Try.prog 9 #[.int .i64 k] w fun e w' => e = .returned (.tuple #[.pointer (some ⟨w.heap.size, 0, none⟩), .int .i64 0]) ∧ TopAt w' w.heap.size none k [] ∧ Lays w w' := by
  go_enter Try.func9, Try.ntmps9
  go_wp2
  go_ret2
  refine ⟨rfl, ⟨[], ⟨none, 0, Blk.new _ _ _, rfl, World.ownsRow_nil _ _ _ _⟩, fun j _ hj => absurd hj (by simp), ?_⟩, lays_alloc _ _⟩
  rw [keep_none]
end Go.Proofs.Ytdknjeikhdodeaa
