/-
  Contract of slot's Clone.
-/
import Derived.Test.YtamglgampeoepaaDoorSlotLive
namespace Go.Proofs.YtamglgampeoepaaDoor
set_option maxRecDepth 40000
open Go.RowKit Go.Joins

section
variable {w : World} {g : Nat} {F : List Nat} {s : SSt}
theorem own_lows9 {w : World} {base base' : Nat} {e : TypeId} {size : Nat} {v : Value} {n : Nat} {xs : List Value} (h : w.ownsRow base e size v n xs) (hb : base' ≤ base) : w.ownsRow base' e size v n xs :=
  ⟨h.1, h.2.imp id fun ⟨g, cap, cur, h1, h2, h3⟩ => ⟨g, cap, cur, h1, Nat.le_trans hb h2, h3⟩⟩
/-- Words as numbers. -/
theorem w64_ik (ws : List Nat) : W64 ws = IK .u64 (ws.map Int.ofNat) := by
  simp only [W64, IK, List.map_map]
  rfl
set_option maxHeartbeats 2000000 in
set_option maxRecDepth 20000 in
theorem clone_s (h : SAt w g F s) : Calls Tryd.prog 20 #[ptr g] w fun e w' => ∃ g' F', e = .returned (ptr g') ∧ SAt w' g' F' s ∧ (∀ b ∈ F', w.heap.size ≤ b) ∧ Below w.heap.size w w' := by
  obtain ⟨vv, tv, rv, ws, f, hr, hb⟩ := h.raw
  have HR := hid hr
  have HF := hid h.fit
  have U := hid (unmade_s hr h.fit)
  have c0 := hr.c0
  have c1 := hr.c1
  have c2 := hr.c2
  have c3 := hr.c3
  have c4 := hr.c4
  have c5 := hr.c5
  have c6 := hr.c6
  obtain ⟨AV, cV, rfl, hAV, hmV⟩ := own_shape' hr.vo
  obtain ⟨AT, cT, rfl, hAT, hmT⟩ := own_shape' hr.to
  obtain ⟨AR, cR, rfl, hAR, hmR⟩ := own_shape' hr.ro
  have hd := h.fit.dim
  have hrm := h.fit.room
  have hw := h.fit.wide
  have ht := h.fit.tr
  have hfew := hr.told.few
  have hvn : s.st.length * s.dim ≤ 17592186044416 := Nat.le_trans (Nat.mul_le_mul (show s.st.length ≤ 16777216 by omega) (show s.dim ≤ 1024 by omega)) (by decide)
  have hVN := hid hvn
  have htn : ws.length ≤ 17592186044416 := by omega
  have CV := hid (fun (W : World) (hW : Below w.heap.size w W) => clone16_any AV (s.st.length * s.dim) cV 0 w.heap.size (flatS s.dim s.st) W ((Row.of_own hr.vo).below hW (Nat.le_refl _)) hAV hW.size hVN.out)
  have CT := hid (fun (W : World) (hW : Below w.heap.size w W) => cloneu_any AT ws.length cT 0 w.heap.size (ws.map Int.ofNat) W ((Row.of_own (w64_ik ws ▸ hr.to)).below hW (Nat.le_refl _)) hAT hW.size htn)
  have CR := hid (fun (W : World) (hW : Below w.heap.size w W) => clone64_any AR s.tr.length cR 0 w.heap.size s.tr W ((Row.of_own hr.ro).below hW (Nat.le_refl _)) hAR hW.size (by omega))
  have HBk := hid (hr.blk.alloc (.cells (scells s (.slice AV (s.st.length * s.dim) cV) (.slice AT ws.length cT) (.slice AR s.tr.length cR) f) 60))
  have HN := hid (Blk.new w 60 (scells s (.slice AV (s.st.length * s.dim) cV) (.slice AT ws.length cT) (.slice AR s.tr.length cR) f))
  have hgl := hr.blk.lt
  have d2 := HBk.out.cell 2
  unfold scells at d2
  have n2 := HN.out.frozen 2
  unfold scells at n2
  have hb1 : Below w.heap.size w (w.alloc (.cells (scells s (.slice AV (s.st.length * s.dim) cV) (.slice AT ws.length cT) (.slice AR s.tr.length cR) f) 60)) := (Below.refl _ _).alloc (Nat.le_refl _) _
  have HB1 := hid hb1
  have C1 := CV.out _ hb1
  unfold scells at C1
  have HC1 := hid C1
  clear h hr hb hAV hAT hAR hmV hmT hmR hd hrm hw ht hfew hvn htn hb1 C1 CV
  go_enter Tryd.func20, Tryd.ntmps20
  go_wp2_with fail
  refine U.out.mono ?_
  rintro e w1 ⟨rfl, rfl⟩
  go_wp2_with fail
  refine HC1.out.mono ?_
  rintro e w2 ⟨A2, m2, k2, rfl, l2, z2, own2, hb2⟩
  have HK2 := hid (HN.out.below hb2 (by simp))
  have HB2 := hid (HB1.out.trans (hb2.mono HB1.out.size))
  have HO2 := hid own2
  have hsz2 : w1.heap.size < w2.heap.size := HK2.out.lt
  have f2 := HK2.out.frozen 2
  have c2' := HK2.out.cell 2
  unfold scells at c2'
  have hne : g ≠ w1.heap.size := by omega
  have B2 := (HBk.out.below hb2 (by simp; omega)).far hne (p := ⟨w1.heap.size, 2, none⟩) (.slice A2 m2 k2)
  have HBk2 := hid B2
  have d3 := B2.cell 3
  have K2 := HK2.out.set 2 (.slice A2 m2 k2)
  have HKs2 := hid K2
  have hbW2 : Below w1.heap.size w1 (w2.setCell ⟨w1.heap.size, 2, none⟩ (.slice A2 m2 k2)) := HB2.out.setCell (by simp) _
  have HBW2 := hid hbW2
  have C2 := hid (CT.out _ hbW2)
  unfold scells at d3
  clear own2 hb2 B2 K2 hbW2 HC1 CT d2 n2 HN HBk
  go_wp2_with fail
  refine C2.out.mono ?_
  rintro e w3 ⟨A3, m3, k3, rfl, l3, z3, own3, hb3⟩
  have hs2 : (w2.setCell ⟨w1.heap.size, 2, none⟩ (.slice A2 m2 k2)).heap.size = w2.heap.size := by simp
  have HO3 := hid own3
  have HB3 := hid hb3
  have HK3 := hid (HKs2.out.below hb3 (by rw [hs2]; exact hsz2))
  have hsz3 : w1.heap.size < w3.heap.size := HK3.out.lt
  have f3 := HK3.out.frozen 3
  have c3' := HK3.out.cell 3
  have B3 := (HBk2.out.below hb3 (by rw [hs2]; omega)).far hne (p := ⟨w1.heap.size, 3, none⟩) (.slice A3 m3 k3)
  have d6 := B3.cell 6
  have HKs3 := hid (HK3.out.set 3 (.slice A3 m3 k3))
  have hbW3 : Below w1.heap.size w1 (w3.setCell ⟨w1.heap.size, 3, none⟩ (.slice A3 m3 k3)) := (HBW2.out.trans (hb3.mono (by rw [hs2]; omega))).setCell (by simp) _
  have HBW3 := hid hbW3
  have C3 := hid (CR.out _ hbW3)
  unfold scells at d6 c3'
  clear own3 hb3 B3 hbW3 C2 CR d3 f2 c2' hs2
  go_wp2_with fail
  refine C3.out.mono ?_
  rintro e w4 ⟨A4, m4, k4, rfl, l4, z4, own4, hb4⟩
  have hs3 : (w3.setCell ⟨w1.heap.size, 3, none⟩ (.slice A3 m3 k3)).heap.size = w3.heap.size := by simp
  have HO4 := hid own4
  have HB4 := hid hb4
  have HK4 := hid (HKs3.out.below hb4 (by rw [hs3]; exact hsz3))
  have f6 := HK4.out.frozen 6
  have c6' := HK4.out.cell 6
  unfold scells at c6'
  clear own4 hb4 C3 d6 f3 c3'
  go_wp2
  go_ret
  have hs2 : (w2.setCell ⟨w1.heap.size, 2, none⟩ (.slice A2 m2 k2)).heap.size = w2.heap.size := by simp
  have T4 : Touch w4 (w4.setCell ⟨w1.heap.size, 6, none⟩ (.slice A4 m4 k4)) [w1.heap.size] := touch_set (List.mem_singleton.2 rfl)
  have T3 : Touch w3 (w4.setCell ⟨w1.heap.size, 6, none⟩ (.slice A4 m4 k4)) [w1.heap.size] := ((touch_set (List.mem_singleton.2 rfl)).then (touch_below HB4.out [w1.heap.size]) (fun _ _ h => h)).then T4 (fun _ _ h => h)
  have T2 : Touch w2 (w4.setCell ⟨w1.heap.size, 6, none⟩ (.slice A4 m4 k4)) [w1.heap.size] := ((touch_set (List.mem_singleton.2 rfl)).then (touch_below HB3.out [w1.heap.size]) (fun _ _ h => h)).then T3 (fun _ _ h => h)
  have h2 : ∀ e, (Value.slice A2 m2 k2).ownBlock = some e → w1.heap.size < e ∧ e < w2.heap.size := fun e he => by have := HO2.out.lt e he; simp at this; omega
  have h3 : ∀ e, (Value.slice A3 m3 k3).ownBlock = some e → w2.heap.size ≤ e ∧ e < w3.heap.size := fun e he => by have := HO3.out.lt e he; rw [hs2] at this; omega
  have h4 : ∀ e, (Value.slice A4 m4 k4).ownBlock = some e → w3.heap.size ≤ e := fun e he => by have := HO4.out.lt e he; rw [hs3] at this; omega
  have h23 : w2.heap.size ≤ w3.heap.size := by have := HB3.out.size; rw [hs2] at this; exact this
  have o2 : (w4.setCell ⟨w1.heap.size, 6, none⟩ (.slice A4 m4 k4)).ownsRow 0 39 1 (.slice A2 m2 k2) (s.st.length * s.dim) (IK .i16 (flatS s.dim s.st)) := by
    have h := own_touched (own_lows9 HO2.out (Nat.zero_le _)) T2 (fun e he hm => by have := h2 e he; have := List.mem_singleton.1 hm; omega)
    rw [← l2.out, flat_len HF.out.fit] at h
    rw [← l2.out, flat_len HF.out.fit]
    exact h
  have o3 : (w4.setCell ⟨w1.heap.size, 6, none⟩ (.slice A4 m4 k4)).ownsRow 0 63 1 (.slice A3 m3 k3) ws.length (W64 ws) := by
    have h := own_touched (own_lows9 HO3.out (Nat.zero_le _)) T3 (fun e he hm => by have := h3 e he; have := List.mem_singleton.1 hm; omega)
    rw [← w64_ik, ← l3.out, List.length_map] at h
    rw [← l3.out, List.length_map]
    exact h
  have o4 : (w4.setCell ⟨w1.heap.size, 6, none⟩ (.slice A4 m4 k4)).ownsRow 0 3 1 (.slice A4 m4 k4) s.tr.length (IK .i64 s.tr) := by
    have h := own_touched (own_lows9 HO4.out (Nat.zero_le _)) T4 (fun e he hm => by have := h4 e he; have := List.mem_singleton.1 hm; omega)
    rw [← l4.out] at h ⊢
    exact h
  have KE := HK4.out.set 6 (.slice A4 m4 k4)
  have R : SRaw (w4.setCell ⟨w1.heap.size, 6, none⟩ (.slice A4 m4 k4)) w1.heap.size s (.slice A2 m2 k2) (.slice A3 m3 k3) (.slice A4 m4 k4) ws f :=
    ⟨KE, o2, o3, o4, HR.out.told, HR.out.full, fun e => by have := h2 _ e; omega, fun e => by have := h3 _ e; omega, fun e => by have := h4 _ e; omega,
      Classical.or_iff_not_imp_left.2 fun hn e => by
        obtain ⟨x, hx⟩ := Option.ne_none_iff_exists'.1 hn
        have a1 := h2 x hx
        have a2 := h3 x (e ▸ hx)
        omega,
      Classical.or_iff_not_imp_left.2 fun hn e => by
        obtain ⟨x, hx⟩ := Option.ne_none_iff_exists'.1 hn
        have a1 := h2 x hx
        have a2 := h4 x (e ▸ hx)
        omega,
      Classical.or_iff_not_imp_left.2 fun hn e => by
        obtain ⟨x, hx⟩ := Option.ne_none_iff_exists'.1 hn
        have a1 := h3 x hx
        have a2 := h4 x (e ▸ hx)
        omega⟩
  refine ⟨_, _, rfl, R.at_ HF.out, fun b hb => ?_, (HBW3.out.trans (HB4.out.mono (by rw [hs3]; omega))).setCell (by simp) _⟩
  simp only [blocks, List.mem_cons, List.mem_append, Option.mem_toList] at hb
  rcases hb with hb | hb | hb | hb
  · omega
  · have := h2 b hb; omega
  · have := h3 b hb; omega
  · have := h4 b hb; omega
end
end Go.Proofs.YtamglgampeoepaaDoor
