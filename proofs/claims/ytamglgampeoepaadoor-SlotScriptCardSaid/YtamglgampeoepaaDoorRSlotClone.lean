/-
  The document's slots: contract of Clone.
-/
import Derived.Test.YtamglgampeoepaaDoorRSlotPut
namespace Go.Proofs.YtamglgampeoepaaDoor
set_option maxRecDepth 40000
open Go.RowKit Go.Joins

section
variable {w w' : World} {g : Nat} {O E G : List Nat} {s : SSt} {vv tv : Value} {vs : List Value}
theorem blk4 {w : World} {g : Nat} {t : TypeId} {a b c d : Value} (h : Blk w g t #[a, b, c, d]) : w.cell? ⟨g, 0, none⟩ = some a ∧ w.cell? ⟨g, 1, none⟩ = some b ∧ w.cell? ⟨g, 2, none⟩ = some c ∧ w.cell? ⟨g, 3, none⟩ = some d :=
  ⟨h.cell 0, h.cell 1, h.cell 2, h.cell 3⟩
theorem alloc4 {w : World} {o : Obj} {g : Nat} {a b c d : Value} (hg : g < w.heap.size) (h : w.cell? ⟨g, 0, none⟩ = some a ∧ w.cell? ⟨g, 1, none⟩ = some b ∧ w.cell? ⟨g, 2, none⟩ = some c ∧ w.cell? ⟨g, 3, none⟩ = some d) :
    (w.alloc o).cell? ⟨g, 0, none⟩ = some a ∧ (w.alloc o).cell? ⟨g, 1, none⟩ = some b ∧ (w.alloc o).cell? ⟨g, 2, none⟩ = some c ∧ (w.alloc o).cell? ⟨g, 3, none⟩ = some d :=
  ⟨(World.cell?_alloc_lt _ _ _ hg).trans h.1, (World.cell?_alloc_lt _ _ _ hg).trans h.2.1, (World.cell?_alloc_lt _ _ _ hg).trans h.2.2.1, (World.cell?_alloc_lt _ _ _ hg).trans h.2.2.2⟩
theorem ve_one {v : Value} {o : Option (List Int)} (h : VE w E v o) : v.oneCell' = true := by
  cases o with
  | none =>
    have h : v = .slice none 0 0 := h
    rw [h]; rfl
  | some l =>
    obtain ⟨b, c, rfl, _⟩ := h
    rfl
theorem RRaw.ones (h : RRaw w g s vv tv vs E) : ∀ u ∈ vs, u.oneCell' = true := by
  intro u hu
  obtain ⟨i, hi, rfl⟩ := List.getElem_of_mem hu
  exact ve_one (h.el i _ (List.getElem?_eq_getElem hi))
/-- Rows of two types lie in two blocks. -/
theorem own_types {w : World} {b1 b2 n1 n2 : Nat} {e1 e2 : TypeId} {v1 v2 : Value} {xs1 xs2 : List Value} (h1 : w.ownsRow b1 e1 1 v1 n1 xs1) (h2 : w.ownsRow b2 e2 1 v2 n2 xs2) (hne : e1 ≠ e2) : v1.ownBlock = none ∨ v1.ownBlock ≠ v2.ownBlock := by
  rcases h1.2 with ⟨rfl, _⟩ | ⟨g1, cap1, cur1, rfl, _, hg1, _⟩
  · exact .inl rfl
  · refine .inr fun e => ?_
    rcases h2.2 with ⟨rfl, _⟩ | ⟨g2, cap2, cur2, rfl, _, hg2, _⟩
    · cases e
    · injection e with e
      have e : g1 = g2 := e
      subst e
      rw [hg1] at hg2
      injection hg2 with hg2
      injection hg2 with _ hg2
      exact hne hg2
theorem kept_types {w w5 : World} {b1 b2 n1 n2 : Nat} {e1 e2 : TypeId} {v1 v2 : Value} {xs1 xs2 : List Value} (h1 : w.ownsRow b1 e1 1 v1 n1 xs1) (h2 : w.ownsRow b2 e2 1 v2 n2 xs2) (hne : e1 ≠ e2) (hg : w.grownBy w5 v2.ownBlock) : w5.ownsRow b1 e1 1 v1 n1 xs1 := h1.kept hg (own_types h1 h2 hne)
theorem after_app {w W w5 : World} {g b n : Nat} {e t : TypeId} {v5 : Value} {cs : Array Value} {xs : List Value} (hb : Below w.heap.size w W) (kW : Blk W g t cs) (hg : g < w.heap.size) (own : w5.ownsRow w.heap.size e 1 v5 (0 + n) ([] ++ xs)) (grow : W.grownBy w5 (Value.slice (some ⟨b, 0, none⟩) 0 0).ownBlock) (hb0 : w.heap.size ≤ b) :
    ∃ A c, v5 = .slice A n c ∧ w5.ownsRow w.heap.size e 1 (.slice A n c) n xs ∧ Blk w5 g t cs ∧ Below w.heap.size w w5 := by
  rw [Nat.zero_add, List.nil_append] at own
  obtain ⟨A, c, rfl, _, _⟩ := own_shape' own
  refine ⟨A, c, rfl, own, kW.grown grow (fun e => ?_), hb.grown grow hb.size (fun k hk => ?_)⟩
  · injection e with e
    have e : g = b := e
    omega
  · injection hk with hk
    have hk : b = k := hk
    omega
structure RFin (w wE : World) (A5 A6 : Option Addr) (L K c5 c6 : Nat) (vs : List Value) (tr : List Int) : Prop where
  v : wE.ownsRow w.heap.size 32 1 (.slice A5 L c5) L vs
  t : wE.ownsRow w.heap.size 3 1 (.slice A6 K c6) K (IK .i64 tr)
  b : Below w.heap.size w wE
theorem rclone_end {wE : World} {A5 A6 : Option Addr} {c5 c6 : Nat} (h : RAt w g O E s) (hr : RRaw w g s vv tv vs E) (F : RFin w wE A5 A6 s.st.length s.tr.length c5 c6 vs s.tr) :
    ∃ g' O', Ending.returned (rptr wE.heap.size) = .returned (rptr g') ∧ RAt (wE.alloc (.cells #[.int .i64 (s.dim : Int), .int .i64 (s.room : Int), .slice A5 s.st.length c5, .slice A6 s.tr.length c6] 47)) g' O' E s ∧ (∀ b ∈ O', w.heap.size ≤ b) ∧ Below w.heap.size w (wE.alloc (.cells #[.int .i64 (s.dim : Int), .int .i64 (s.room : Int), .slice A5 s.st.length c5, .slice A6 s.tr.length c6] 47)) := by
  have hv := F.v.alloc (.cells #[.int .i64 (s.dim : Int), .int .i64 (s.room : Int), .slice A5 s.st.length c5, .slice A6 s.tr.length c6] 47)
  have ht := F.t.alloc (.cells #[.int .i64 (s.dim : Int), .int .i64 (s.room : Int), .slice A5 s.st.length c5, .slice A6 s.tr.length c6] 47)
  have hb := F.b.alloc F.b.size (.cells #[.int .i64 (s.dim : Int), .int .i64 (s.room : Int), .slice A5 s.st.length c5, .slice A6 s.tr.length c6] 47)
  have bv : ∀ e, (Value.slice A5 s.st.length c5).ownBlock = some e → w.heap.size ≤ e ∧ e < wE.heap.size := fun e he => F.v.lt e he
  have bt : ∀ e, (Value.slice A6 s.tr.length c6).ownBlock = some e → w.heap.size ≤ e ∧ e < wE.heap.size := fun e he => F.t.lt e he
  have R : RRaw (wE.alloc (.cells #[.int .i64 (s.dim : Int), .int .i64 (s.room : Int), .slice A5 s.st.length c5, .slice A6 s.tr.length c6] 47)) wE.heap.size s (.slice A5 s.st.length c5) (.slice A6 s.tr.length c6) vs E :=
    ⟨Blk.new wE _ _, own_lows9 hv (Nat.zero_le _), own_lows9 ht (Nat.zero_le _), fun i u hu => (hr.el i u hu).touch (touch_below hb []) (fun _ _ h => by cases h), fun e => by have := bv _ e; omega, fun e => by have := bt _ e; omega, own_types F.v F.t (by decide)⟩
  have hO : ∀ b ∈ rblocks wE.heap.size (.slice A5 s.st.length c5) (.slice A6 s.tr.length c6), w.heap.size ≤ b := fun b hx => by
    simp only [rblocks, List.mem_cons, List.mem_append, Option.mem_toList] at hx
    rcases hx with hx | hx | hx
    · rw [hx]; exact F.b.size
    · exact (bv b hx).1
    · exact (bt b hx).1
  exact ⟨_, _, rfl, rat_at R h.fit (fun b hx => Nat.lt_of_lt_of_le (h.le b hx) hb.size) (fun b hx hy => by have h1 := hO b hx; have h2 := h.le b hy; omega), hO, hb⟩
set_option maxHeartbeats 4000000 in
theorem rclone_s (h : RAt w g O E s) : Calls Tryd.prog 21 #[rptr g] w fun e w' => ∃ g' O', e = .returned (rptr g') ∧ RAt w' g' O' E s ∧ (∀ b ∈ O', w.heap.size ≤ b) ∧ Below w.heap.size w w' := by
  obtain ⟨vv, tv, vs, hr, hb⟩ := h.raw
  obtain ⟨i0, hi0, hz0, hz1, hz2⟩ := info_parts infoS
  obtain ⟨j0, ji, jz0, jz1, jz2⟩ := info_parts info64
  obtain ⟨AV, cV, rfl, hAV, _⟩ := own_shape' hr.vo
  obtain ⟨AT, cT, rfl, hAT, _⟩ := own_shape' hr.to
  have c0 := hr.blk.cell 0
  have c1 := hr.blk.cell 1
  have c2 := hr.blk.cell 2
  have c3 := hr.blk.cell 3
  simp at c0 c1 c2 c3
  have cc := blk4 hr.blk
  have HR := hid hr
  have HH := hid h
  have hl9 : s.st.length ≤ 16777216 := by have := h.fit.wide; have := h.fit.room; omega
  have ht9 : s.tr.length ≤ 1000000000 := h.fit.tr
  have HO := hid hr.ones
  have hgl := hr.blk.lt
  have RV := hid (fun (W : World) (hW : Below w.heap.size w W) => (Row.of_own hr.vo).below hW (Nat.le_refl _))
  have RT := hid (fun (W : World) (hW : Below w.heap.size w W) => (Row.of_own hr.to).below hW (Nat.le_refl _))
  have b1 : 0 + s.st.length ≤ maxLen := by unfold maxLen; omega
  have b2 : (0 + s.st.length) * 24 ≤ 140737488355328 := by omega
  have d1 : 0 + s.tr.length ≤ maxLen := by unfold maxLen; omega
  have d2 : (0 + s.tr.length) * 8 ≤ 140737488355328 := by omega
  have hva := hid (un_drew9 ((Below.refl _ w).alloc (Nat.le_refl _) (.cells #[] 32)))
  have hvb := hid (un_drew9 ((Below.refl _ w).alloc (Nat.le_refl _) (.cells #[] 3)))
  have hvab := hid (un_drew9 (((Below.refl _ w).alloc (Nat.le_refl _) (.cells #[] 32)).alloc (by simp) (.cells #[] 3)))
  have hvba := hid (un_drew9 (((Below.refl _ w).alloc (Nat.le_refl _) (.cells #[] 3)).alloc (by simp) (.cells #[] 32)))
  have MA := hid (made_at (W := w) (base := w.heap.size) 32 rfl (Nat.le_refl _))
  have MB := hid (made_at (W := w) (base := w.heap.size) 3 rfl (Nat.le_refl _))
  have MAb := hid (made_at (W := w.alloc (.cells #[] 3)) (n := w.heap.size + 1) (base := w.heap.size) 32 (by simp) (by omega))
  have MBa := hid (made_at (W := w.alloc (.cells #[] 32)) (n := w.heap.size + 1) (base := w.heap.size) 3 (by simp) (by omega))
  have MA2 := hid (MA.out.alloc (.cells #[] 3))
  have MB2 := hid (MB.out.alloc (.cells #[] 32))
  have ka := hid ((hr.blk.alloc (.cells #[] 32)).drewN 1)
  have kb := hid ((hr.blk.alloc (.cells #[] 3)).drewN 1)
  have kab := hid (((hr.blk.alloc (.cells #[] 32)).alloc (.cells #[] 3)).drewN 1)
  have kba := hid (((hr.blk.alloc (.cells #[] 3)).alloc (.cells #[] 32)).drewN 1)
  clear h hr hb
  go_enter Tryd.func21, Tryd.ntmps21
  go_wp2
  go_region_held3 (fun W' => W'.cell? ⟨g, 0, none⟩ = some (.int .i64 (s.dim : Int)) ∧ W'.cell? ⟨g, 1, none⟩ = some (.int .i64 (s.room : Int)) ∧ W'.cell? ⟨g, 2, none⟩ = some (.slice AV s.st.length cV) ∧ W'.cell? ⟨g, 3, none⟩ = some (.slice AT s.tr.length cT))
    (first | exact cc | exact blk4 ka.out | exact blk4 kb.out | exact blk4 kab.out | exact blk4 kba.out | exact blk4 k5 | exact blk4 k6 | exact blk4 (k5.alloc (.cells #[] 3)) | exact blk4 (k6.alloc (.cells #[] 32)) | exact blk4 (k6.alloc (.cells #[.int .i64 (s.dim : Int), .int .i64 (s.room : Int), .slice A5 s.st.length c5, .slice A6 s.tr.length c6] 47)) | exact blk4 (k5.alloc (.cells #[.int .i64 (s.dim : Int), .int .i64 (s.room : Int), .slice A5 s.st.length c5, .slice A6 s.tr.length c6] 47)))
    (first
      | (refine step_append_row _ rfl (.tmp 17) (.tmp 21) 45 rfl w.heap.size 3 j0 (.int .i64 0) 8 Tryd.underlying45 ji jz0 jz1 jz2 rfl (.slice (some ⟨_, 0, none⟩) 0 0) 0 [] rfl (by exact MT5) 0 w.heap.size AT s.tr.length cT rfl hAT (IK .i64 s.tr) (by exact RT.out _ hb5) (IK_one _ _) d1 d2 (Below.size hb5) ?_; intro v6 w6 own6 grow6 at6; obtain ⟨A6, c6, rfl, oT6, k6, hb6⟩ := after_app (W := w5) hb5 k5 hgl own6 grow6 (hT5); have FE : Hid (RFin w w6 A5 A6 s.st.length s.tr.length c5 c6 vs s.tr) := hid ⟨kept_types (w := w5) oV5 MT5 (by decide) grow6, oT6, hb6⟩)
      | (refine step_append_row _ rfl (.tmp 11) (.tmp 15) 44 rfl w.heap.size 32 i0 (.slice none 0 0) 24 Tryd.underlying44 hi0 hz0 hz1 hz2 rfl (.slice (some ⟨_, 0, none⟩) 0 0) 0 [] rfl (by exact MV6) 0 w.heap.size AV s.st.length cV rfl hAV vs (by exact RV.out _ hb6) HO.out b1 b2 (Below.size hb6) ?_; intro v5 w5 own5 grow5 at5; obtain ⟨A5, c5, rfl, oV5, k5, hb5⟩ := after_app (W := w6) hb6 k6 hgl own5 grow5 (hV6); have FE : Hid (RFin w w5 A5 A6 s.st.length s.tr.length c5 c6 vs s.tr) := hid ⟨oV5, kept_types (w := w6) oT6 MV6 (by decide) grow5, hb5⟩)
      | (refine step_append_row _ rfl (.tmp 17) (.tmp 21) 45 rfl w.heap.size 3 j0 (.int .i64 0) 8 Tryd.underlying45 ji jz0 jz1 jz2 rfl (.slice (some ⟨w5.heap.size, 0, none⟩) 0 0) 0 [] rfl (by exact (made_at (W := w5) (base := w.heap.size) 3 rfl hb5.size)) 0 w.heap.size AT s.tr.length cT rfl hAT (IK .i64 s.tr) (by exact RT.out _ (hb5.alloc hb5.size (.cells #[] 3))) (IK_one _ _) d1 d2 (Below.size (hb5.alloc hb5.size (.cells #[] 3))) ?_; intro v6 w6 own6 grow6 at6; obtain ⟨A6, c6, rfl, oT6, k6, hb6⟩ := after_app (W := w5.alloc (.cells #[] 3)) (hb5.alloc hb5.size (.cells #[] 3)) (k5.alloc (.cells #[] 3)) hgl own6 grow6 hb5.size; have FE : Hid (RFin w w6 A5 A6 s.st.length s.tr.length c5 c6 vs s.tr) := hid ⟨kept_types (w := w5.alloc (.cells #[] 3)) (oV5.alloc (.cells #[] 3)) (made_at (W := w5) (base := w.heap.size) 3 rfl hb5.size) (by decide) grow6, oT6, hb6⟩)
      | (refine step_append_row _ rfl (.tmp 11) (.tmp 15) 44 rfl w.heap.size 32 i0 (.slice none 0 0) 24 Tryd.underlying44 hi0 hz0 hz1 hz2 rfl (.slice (some ⟨w6.heap.size, 0, none⟩) 0 0) 0 [] rfl (by exact (made_at (W := w6) (base := w.heap.size) 32 rfl hb6.size)) 0 w.heap.size AV s.st.length cV rfl hAV vs (by exact RV.out _ (hb6.alloc hb6.size (.cells #[] 32))) HO.out b1 b2 (Below.size (hb6.alloc hb6.size (.cells #[] 32))) ?_; intro v5 w5 own5 grow5 at5; obtain ⟨A5, c5, rfl, oV5, k5, hb5⟩ := after_app (W := w6.alloc (.cells #[] 32)) (hb6.alloc hb6.size (.cells #[] 32)) (k6.alloc (.cells #[] 32)) hgl own5 grow5 hb6.size; have FE : Hid (RFin w w5 A5 A6 s.st.length s.tr.length c5 c6 vs s.tr) := hid ⟨oV5, kept_types (w := w6.alloc (.cells #[] 32)) (oT6.alloc (.cells #[] 32)) (made_at (W := w6) (base := w.heap.size) 32 rfl hb6.size) (by decide) grow5, hb5⟩)
      | (refine step_append_row _ rfl (.tmp 11) (.tmp 15) 44 rfl w.heap.size 32 i0 (.slice none 0 0) 24 Tryd.underlying44 hi0 hz0 hz1 hz2 rfl (.slice (some ⟨w.heap.size, 0, none⟩) 0 0) 0 [] rfl (by exact MA.out) 0 w.heap.size AV s.st.length cV rfl hAV vs (by exact RV.out _ hva.out) HO.out b1 b2 (Below.size hva.out) ?_; intro v5 w5 own5 grow5 at5; obtain ⟨A5, c5, rfl, oV5, k5, hb5⟩ := after_app (W := (w.alloc (.cells #[] 32)).drew) hva.out ka.out hgl own5 grow5 (Nat.le_refl _); skip)
      | (refine step_append_row _ rfl (.tmp 11) (.tmp 15) 44 rfl w.heap.size 32 i0 (.slice none 0 0) 24 Tryd.underlying44 hi0 hz0 hz1 hz2 rfl (.slice (some ⟨w.heap.size, 0, none⟩) 0 0) 0 [] rfl (by exact MA2.out) 0 w.heap.size AV s.st.length cV rfl hAV vs (by exact RV.out _ hvab.out) HO.out b1 b2 (Below.size hvab.out) ?_; intro v5 w5 own5 grow5 at5; obtain ⟨A5, c5, rfl, oV5, k5, hb5⟩ := after_app (W := ((w.alloc (.cells #[] 32)).alloc (.cells #[] 3)).drew) hvab.out kab.out hgl own5 grow5 (Nat.le_refl _); have MT5 := kept_types (w := ((w.alloc (.cells #[] 32)).alloc (.cells #[] 3)).drew) MBa.out MA2.out (by decide) grow5; have hT5 : w.heap.size ≤ w.heap.size + 1 := Nat.le_succ _)
      | (refine step_append_row _ rfl (.tmp 11) (.tmp 15) 44 rfl w.heap.size 32 i0 (.slice none 0 0) 24 Tryd.underlying44 hi0 hz0 hz1 hz2 rfl (.slice (some ⟨w.heap.size + 1, 0, none⟩) 0 0) 0 [] rfl (by exact MAb.out) 0 w.heap.size AV s.st.length cV rfl hAV vs (by exact RV.out _ hvba.out) HO.out b1 b2 (Below.size hvba.out) ?_; intro v5 w5 own5 grow5 at5; obtain ⟨A5, c5, rfl, oV5, k5, hb5⟩ := after_app (W := ((w.alloc (.cells #[] 3)).alloc (.cells #[] 32)).drew) hvba.out kba.out hgl own5 grow5 (Nat.le_succ _); have MT5 := kept_types (w := ((w.alloc (.cells #[] 3)).alloc (.cells #[] 32)).drew) MB2.out MAb.out (by decide) grow5; have hT5 : w.heap.size ≤ w.heap.size := Nat.le_refl _)
      | (refine step_append_row _ rfl (.tmp 17) (.tmp 21) 45 rfl w.heap.size 3 j0 (.int .i64 0) 8 Tryd.underlying45 ji jz0 jz1 jz2 rfl (.slice (some ⟨w.heap.size, 0, none⟩) 0 0) 0 [] rfl (by exact MB.out) 0 w.heap.size AT s.tr.length cT rfl hAT (IK .i64 s.tr) (by exact RT.out _ hvb.out) (IK_one _ _) d1 d2 (Below.size hvb.out) ?_; intro v6 w6 own6 grow6 at6; obtain ⟨A6, c6, rfl, oT6, k6, hb6⟩ := after_app (W := (w.alloc (.cells #[] 3)).drew) hvb.out kb.out hgl own6 grow6 (Nat.le_refl _); skip)
      | (refine step_append_row _ rfl (.tmp 17) (.tmp 21) 45 rfl w.heap.size 3 j0 (.int .i64 0) 8 Tryd.underlying45 ji jz0 jz1 jz2 rfl (.slice (some ⟨w.heap.size + 1, 0, none⟩) 0 0) 0 [] rfl (by exact MBa.out) 0 w.heap.size AT s.tr.length cT rfl hAT (IK .i64 s.tr) (by exact RT.out _ hvab.out) (IK_one _ _) d1 d2 (Below.size hvab.out) ?_; intro v6 w6 own6 grow6 at6; obtain ⟨A6, c6, rfl, oT6, k6, hb6⟩ := after_app (W := ((w.alloc (.cells #[] 32)).alloc (.cells #[] 3)).drew) hvab.out kab.out hgl own6 grow6 (Nat.le_succ _); have MV6 := kept_types (w := ((w.alloc (.cells #[] 32)).alloc (.cells #[] 3)).drew) MA2.out MBa.out (by decide) grow6; have hV6 : w.heap.size ≤ w.heap.size := Nat.le_refl _)
      | (refine step_append_row _ rfl (.tmp 17) (.tmp 21) 45 rfl w.heap.size 3 j0 (.int .i64 0) 8 Tryd.underlying45 ji jz0 jz1 jz2 rfl (.slice (some ⟨w.heap.size, 0, none⟩) 0 0) 0 [] rfl (by exact MB2.out) 0 w.heap.size AT s.tr.length cT rfl hAT (IK .i64 s.tr) (by exact RT.out _ hvba.out) (IK_one _ _) d1 d2 (Below.size hvba.out) ?_; intro v6 w6 own6 grow6 at6; obtain ⟨A6, c6, rfl, oT6, k6, hb6⟩ := after_app (W := ((w.alloc (.cells #[] 3)).alloc (.cells #[] 32)).drew) hvba.out kba.out hgl own6 grow6 (Nat.le_refl _); have MV6 := kept_types (w := ((w.alloc (.cells #[] 3)).alloc (.cells #[] 32)).drew) MAb.out MB2.out (by decide) grow6; have hV6 : w.heap.size ≤ w.heap.size + 1 := Nat.le_succ _))
  all_goals
    go_wp2
    go_ret
    exact rclone_end HH.out HR.out FE.out
end
end Go.Proofs.YtamglgampeoepaaDoor
