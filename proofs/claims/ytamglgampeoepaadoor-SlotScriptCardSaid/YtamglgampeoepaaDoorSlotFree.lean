/-
  Contract of slot's Free.
-/
import Derived.Test.YtamglgampeoepaaDoorSlotPut
import Derived.Lib.SliceRun
namespace Go.Proofs.YtamglgampeoepaaDoor
set_option maxRecDepth 40000
open Go.RowKit Go.Joins

theorem splice_next {α : Type} (xs cs : List α) (u : α) (o : Nat) (h : o < xs.length) : splice xs o (u :: cs) = splice (xs.set o u) (o + 1) cs := by
  unfold splice
  rw [List.take_set, List.take_succ_eq_append_getElem h, List.set_append_right _ _ (by rw [List.length_take]; omega), List.length_take, show o - min o xs.length = 0 by omega, List.set_cons_zero, List.drop_set_of_lt (by omega), List.length_cons, show o + (cs.length + 1) = o + 1 + cs.length by omega]
  simp
theorem own_cells {e : TypeId} {b n cap : Nat} : ∀ (cs : List Value) (o : Nat) (w : World) (xs : List Value), w.ownsRow 0 e 1 (.slice (some ⟨b, 0, none⟩) n cap) n xs → o + cs.length ≤ n →
    (w.setCells b o cs).ownsRow 0 e 1 (.slice (some ⟨b, 0, none⟩) n cap) n (splice xs o cs) ∧ Touch w (w.setCells b o cs) [b]
  | [], o, w, xs, h, _ => ⟨by simpa [splice, World.setCells] using h, Touch.refl _ _⟩
  | u :: cs, o, w, xs, h, hl => by
    have hx : xs.length = n := by have := h.1; omega
    rw [List.length_cons] at hl
    obtain ⟨h1, h2⟩ := h.stored o u
    obtain ⟨h3, h4⟩ := own_cells cs (o + 1) _ _ h1 (by omega)
    rw [splice_next xs cs u o (by omega)]
    exact ⟨h3, (touch_grown h2 (fun g hg => by injection hg with hg; rw [← hg]; exact List.mem_cons_self)).then h4 (fun _ _ hi => hi)⟩
section
variable {w : World} {g : Nat} {F : List Nat} {s : SSt} {vv tv rv : Value} {ws : List Nat} {f : Nat}
/-- Noughts laid over a vector. -/
theorem cleared (h : SRaw w g s vv tv rv ws f) (hf : SFit s) {b n cV : Nat} {k : Nat} (hn : n < s.st.length) (hvv : vv = .slice (some ⟨b, 0, none⟩) (s.st.length * s.dim) cV) (hle : n * s.dim + s.dim ≤ s.st.length * s.dim) (hk : k = s.dim) :
    Laid (w.setCells b (n * s.dim) (List.replicate k (.int .i16 0))) g s (freeS s.st n) vv tv rv ws f ∧ Touch w (w.setCells b (n * s.dim) (List.replicate k (.int .i16 0))) (blocks g vv tv rv) := by
  subst hvv hk
  have hgb : g ≠ b := fun e => h.vg (by rw [e]; rfl)
  obtain ⟨ho, ht⟩ := own_cells (List.replicate s.dim (.int .i16 0)) (n * s.dim) w _ h.vo (by rw [List.length_replicate]; exact hle)
  have e0 : (List.replicate s.dim (Value.int .i16 0)) = IK .i16 (List.replicate s.dim 0) := by simp [IK]
  rw [e0] at ho ht ⊢
  refine ⟨h.laid ht (fun x hx hne hm => ?_) (Blk.touch h.blk ht (fun hm => hgb (List.mem_singleton.1 hm))) ?_ (fun e he => .inl he), ht.mono (fun i _ hi => ?_)⟩
  · have hxb := List.mem_singleton.1 hm
    subst hxb
    simp only [blocks, List.mem_cons, List.mem_append, Option.mem_toList] at hx
    rcases hx with hx | hx | hx | hx
    · exact hne hx
    · cases hx
    · rcases h.vt with h1 | h1
      · cases h1
      · exact h1 (Eq.symm hx)
    · rcases h.vr with h1 | h1
      · cases h1
      · exact h1 (Eq.symm hx)
  · have e1 := flat_set hf.fit (n := n) (o := none) hn (by simp)
    simp only [Option.getD_none] at e1
    rw [free_len, show flatS s.dim (freeS s.st n) = flatS s.dim (s.st.set n none) from rfl, e1, IK_splice]
    exact ho
  · rw [List.mem_singleton] at hi
    subst hi
    simp [blocks, Value.ownBlock]
theorem freed {n tb cT : Nat} {W : World} (L : Laid w g s (freeS s.st n) vv tv rv ws f) (told : Told64 ws s.st) (full : FullTo ws f) (hh : has s.st n = true) (htv : tv = .slice (some ⟨tb, 0, none⟩) ws.length cT) {z : Nat} (hz : z = ws[n / 64]?.getD 0 &&& (18446744073709551615 - 2 ^ (n % 64)))
    {x4 x5 : Int} (h4 : x4 = ((min f (n / 64) : Nat) : Int)) (h5 : x5 = (cnt s.st : Int) - 1) (hW : W = ((w.setCell ⟨tb, n / 64, none⟩ (.int .u64 (z : Int))).setCell ⟨g, 4, none⟩ (.int .i64 x4)).setCell ⟨g, 5, none⟩ (.int .i64 x5)) :
    SRaw W g { s with st := freeS s.st n } vv tv rv (ws.set (n / 64) z) (min f (n / 64)) := by
  subst htv hW h4 h5
  have hl : n / 64 < ws.length := told.lt hh
  have hgt : g ≠ tb := fun e => L.tg (by rw [e]; rfl)
  have k1 : Blk (w.setCell ⟨tb, n / 64, none⟩ (.int .u64 (z : Int))) g 60 (scells s vv (.slice (some ⟨tb, 0, none⟩) ws.length cT) rv f) := L.blk.far hgt _
  have t1 := (L.to.stored (n / 64) (.int .u64 (z : Int))).1
  rw [← W64_set] at t1
  have v1 := ownsRow_setCell_other L.vo (a := ⟨tb, n / 64, none⟩) (by rcases L.vt with h | h; rw [h]; simp; exact h) (.int .u64 (z : Int))
  have r1 := ownsRow_setCell_other L.ro (a := ⟨tb, n / 64, none⟩) (by rcases L.tr with h | h; cases h; exact fun e => h e.symm) (.int .u64 (z : Int))
  have hc := cnt_free hh
  refine ⟨?_, ownsRow_setCell_other (ownsRow_setCell_other v1 L.vg _) L.vg _, ?_, ownsRow_setCell_other (ownsRow_setCell_other r1 L.rg _) L.rg _, ?_, (full.less (Nat.min_le_left _ _)).set (Nat.min_le_right _ _), L.vg, L.tg, L.rg, L.vt, L.vr, L.tr⟩
  · have := (k1.set 4 (.int .i64 ((min f (n / 64) : Nat) : Int))).set 5 (.int .i64 ((cnt s.st : Int) - 1))
    have e : ((scells s vv (.slice (some ⟨tb, 0, none⟩) ws.length cT) rv f).setIfInBounds 4 (.int .i64 ((min f (n / 64) : Nat) : Int))).setIfInBounds 5 (.int .i64 ((cnt s.st : Int) - 1)) = scells { s with st := freeS s.st n } vv (.slice (some ⟨tb, 0, none⟩) ws.length cT) rv (min f (n / 64)) := by
      have e5 : (cnt s.st : Int) - 1 = ((cnt (freeS s.st n) : Nat) : Int) := by omega
      unfold scells
      simp only [e5]
      rfl
    rw [e] at this
    exact this
  · have t2 := ownsRow_setCell_other (ownsRow_setCell_other t1 (a := ⟨g, 4, none⟩) L.tg (.int .i64 ((min f (n / 64) : Nat) : Int))) (a := ⟨g, 5, none⟩) L.tg (.int .i64 ((cnt s.st : Int) - 1))
    rw [List.length_set]
    exact t2
  · rw [hz]; exact told.free hl
set_option maxHeartbeats 400000 in
theorem free_no (h : SAt w g F s) (n : Int) (hn : n ≤ 9223372036854775807) (hh : hasI s.st n = false) : Calls Tryd.prog 17 #[ptr g, .int .i64 n] w fun e w' => e = .returned (.int .i64 6) ∧ ∃ k, w' = w.drewN k := by
  obtain ⟨vv, tv, rv, ws, f, hr, hb⟩ := h.raw
  have RF := hid (refusal_s hr h.fit n hn)
  rw [hh] at RF
  clear h hr hb
  go_enter Tryd.func17, Tryd.ntmps17
  go_wp2_with fail
  refine RF.out.mono ?_
  rintro e w1 ⟨rfl, k, rfl⟩
  go_wp2
  go_ret
  exact ⟨rfl, k, rfl⟩
set_option maxHeartbeats 2000000 in
theorem free_ok (h : SAt w g F s) (n : Nat) (hh : has s.st n = true) : Calls Tryd.prog 17 #[ptr g, .int .i64 (n : Int)] w fun e w' => e = .returned (.int .i64 0) ∧ SDid w g F { s with st := freeS s.st n } w' := by
  obtain ⟨vv, tv, rv, ws, f, hr, hb⟩ := h.raw
  have hn := has_lt hh
  have hn9 : n ≤ 16777216 := by have := h.fit.wide; have := h.fit.room; omega
  have RF := hid (refusal_s hr h.fit (n : Int) (by omega))
  rw [hasI_nat, hh] at RF
  have HR := hid hr
  have HB := hid hb
  have HF := hid h.fit
  have HH := hid hh
  have hdim : s.dim ≤ 1024 := h.fit.dim.2
  have hdim0 : 1 ≤ s.dim := h.fit.dim.1
  clear h hr hb hh
  go_enter Tryd.func17, Tryd.ntmps17
  go_wp2_with fail
  refine RF.out.mono ?_
  rintro e w1 ⟨rfl, k, rfl⟩
  obtain ⟨b, cap, hvv, hle, PL⟩ := place_s (HR.out.draws (k := k)) HF.out n hn
  have HPL := hid PL
  have HVV := hid hvv
  have HLE := hid hle
  clear PL hvv hle
  go_wp2_with fail
  refine HPL.out.mono ?_
  rintro e w4 ⟨rfl, k4, rfl⟩
  obtain ⟨wq, hwq⟩ : ∃ wq, wq = (w.drewN k).drewN k4 := ⟨_, rfl⟩
  have HRq : Hid (SRaw wq g s vv tv rv ws f) := hid (by rw [hwq]; exact (HR.out.draws).draws)
  have HTq : Hid (Touch w wq (blocks g vv tv rv)) := hid (by rw [hwq]; exact (touch_drewN w k _).drews k4)
  rw [← hwq]
  have own := HRq.out.vo
  rw [HVV.out] at own
  have RUN := Lib.run_clear_slice (P := Tryd.prog) wq 32 39 0 (.int .i16 0) Tryd.underlying32 (fun w => by kernel_rfl) rfl rfl b (n * s.dim) s.dim s.dim hdim0 (fun j hj => by
    rw [own.cellAt _ (by have := HLE.out; omega)]
    have hl := own.1
    rw [List.getElem?_eq_getElem (by have := HLE.out; omega)]
    rfl) (fun j hj => own.frozenAt _)
  obtain ⟨L5, T5⟩ := cleared HRq.out HF.out hn HVV.out HLE.out rfl
  have HL5 := hid L5
  have HT5 := hid T5
  obtain ⟨w5, hw5⟩ : ∃ w5, w5 = wq.setCells b (n * s.dim) (List.replicate s.dim (.int .i16 0)) := ⟨_, rfl⟩
  rw [← hw5] at HL5 HT5 RUN
  clear hw5 L5 T5 own hwq HPL RF
  have HTOLD := hid HR.out.told
  have HFULL := hid HR.out.full
  have hjl := HR.out.told.lt HH.out
  obtain ⟨AT, cT, rfl, hwd⟩ := words_shape HL5.out.to
  obtain ⟨tb, rfl, hcell⟩ := hwd (n / 64) hjl
  obtain ⟨j, hj⟩ : ∃ j, j = n / 64 := ⟨_, rfl⟩
  have hq : ((n : Int).tdiv 64) = (j : Int) := by rw [Int.tdiv_eq_ediv_of_nonneg (by omega)]; omega
  have hqd : (n : Int) / 64 = (j : Int) := by omega
  have hjl2 : (j : Int) < (ws.length : Int) := by omega
  have hj9 : j ≤ 9223372036854775807 := by omega
  have hj18 : j ≤ 262144 := by omega
  rw [← hj] at hcell
  obtain ⟨x, hx⟩ : ∃ x, x = ws[j]?.getD 0 := ⟨_, rfl⟩
  have hx64 : x < 18446744073709551616 := by rw [hx]; exact HTOLD.out.word_lt j
  rw [← hx] at hcell
  have BT := hid (fun W : World => bit_any n W (by omega))
  have hpw : 2 ^ (n % 64) < 18446744073709551616 := pow_lt (Nat.mod_lt _ (by omega))
  obtain ⟨y, hy⟩ : ∃ y, y = 2 ^ (n % 64) := ⟨_, rfl⟩
  rw [← hy] at BT hpw
  have hand : bits .andNot .u64 (x : Int) (y : Int) = ((x &&& (18446744073709551615 - y) : Nat) : Int) := u64_andNot_nat x y hx64 hpw
  obtain ⟨z, hz⟩ : ∃ z, z = x &&& (18446744073709551615 - y) := ⟨_, rfl⟩
  rw [← hz] at hand
  have HZ : Hid (z = ws[n / 64]?.getD 0 &&& (18446744073709551615 - 2 ^ (n % 64))) := hid (by rw [hz, hx, hy, hj])
  have HJ := hid hj
  have d3 : w5.cell? ⟨g, 3, none⟩ = some (.slice (some ⟨tb, 0, none⟩) ws.length cT) := HL5.out.blk.cell 3
  have hfz := HL5.out.to.frozenAt j
  have hgt : g ≠ tb := fun e => HL5.out.tg (by rw [e]; rfl)
  have HWJ := hid (wrap_nat hj9)
  have HW64 := hid (wrap64_nat hj9)
  have hw64 := HW64.out
  clear hj hx hx64 hpw hy hz hwd hj9 hjl
  go_wp2
  have hwj := HWJ.out
  go_region_law (first | (go_simp; go_at_call 33; refine (BT.out _).mono ?_; rintro e w9 ⟨rfl, rfl⟩))
  all_goals
    have k5 := HL5.out.blk.far hgt (.int .u64 (z : Int)) (p := ⟨tb, j, none⟩)
    have d4' : (w5.setCell ⟨tb, j, none⟩ (.int .u64 (z : Int))).drew.cell? ⟨g, 4, none⟩ = some (.int .i64 (f : Int)) := k5.cell 4
    have f4' : (w5.setCell ⟨tb, j, none⟩ (.int .u64 (z : Int))).drew.frozen? ⟨g, 4, none⟩ = false := k5.frozen 4
    have hcn : cnt s.st ≤ 16777216 := by have := HF.out.cnt; have := HF.out.room; omega
    have hcn1 : 1 ≤ cnt s.st := by have := cnt_free HH.out; omega
    obtain ⟨cc, hcc⟩ : ∃ cc : Nat, cnt s.st = cc + 1 := ⟨cnt s.st - 1, by omega⟩
    have HCC := hid hcc
    have hcc9 : cc ≤ 16777216 := by omega
    obtain ⟨m4, hm4, hmin⟩ : ∃ m4 : Nat, m4 = min f j ∧ ((j < f ∧ m4 = j) ∨ (f ≤ j ∧ m4 = f)) := ⟨min f j, rfl, by omega⟩
    have HM4 := hid hm4
    have k6 := k5.set 4 (.int .i64 (m4 : Int))
    have d5' : ((w5.setCell ⟨tb, j, none⟩ (.int .u64 (z : Int))).setCell ⟨g, 4, none⟩ (.int .i64 (m4 : Int))).drew.cell? ⟨g, 5, none⟩ = some (.int .i64 ((cc : Int) + 1)) := by
      have e : ((w5.setCell ⟨tb, j, none⟩ (.int .u64 (z : Int))).setCell ⟨g, 4, none⟩ (.int .i64 (m4 : Int))).cell? ⟨g, 5, none⟩ = some (.int .i64 (cnt s.st : Int)) := k6.cell 5
      rw [hcc] at e
      rw [show ((cc : Int) + 1) = ((cc + 1 : Nat) : Int) by simp]
      exact e
    have f5' : ((w5.setCell ⟨tb, j, none⟩ (.int .u64 (z : Int))).setCell ⟨g, 4, none⟩ (.int .i64 (m4 : Int))).drew.frozen? ⟨g, 5, none⟩ = false := k6.frozen 5
    have o5 : IntKind.i64.wrap ((cc : Int) + 1 - 1) = (cc : Int) := by rw [show (cc : Int) + 1 - 1 = (cc : Int) by omega]; exact wrap_nat (by omega)
    clear d3 hcell hfz hand hqd hwj k5 hq k6 hcc hm4 hcn hcn1 hw64
    have FIN : Hid (∀ W, W = ((w5.setCell ⟨tb, j, none⟩ (.int .u64 (z : Int))).setCell ⟨g, 4, none⟩ (.int .i64 (m4 : Int))).setCell ⟨g, 5, none⟩ (.int .i64 (cc : Int)) → SDid w g F { s with st := freeS s.st n } W.drew) := hid fun W hW => by
      have R := freed HL5.out HTOLD.out HFULL.out HH.out rfl HZ.out (x4 := (m4 : Int)) (x5 := (cc : Int)) (W := W) (by rw [HM4.out, HJ.out]) (by rw [HCC.out]; simp) (by rw [hW, HJ.out])
      have t2 : Touch w w5 F := ((HTq.out.then HT5.out (fun _ _ hi => hi)).mono (fun i _ hi => HB.out i hi))
      have t3 : Touch w W F := by
        rw [hW]
        exact ((t2.set (HB.out tb (by simp [blocks, Value.ownBlock]))).set (HB.out g (by simp [blocks]))).set (HB.out g (by simp [blocks]))
      exact sdid_mk (R.draws (k := 1)) ⟨HF.out.dim, HF.out.room, fitted_free HF.out.fit, by show cnt (freeS s.st n) ≤ s.room; have := cnt_free HH.out; have := HF.out.cnt; omega, by show (freeS s.st n).length ≤ s.room; rw [free_len]; exact HF.out.wide, HF.out.tr⟩ (t3.drews 1) (fun b hb => .inl (HB.out b hb))
    rcases hmin with ⟨hjf, rfl⟩ | ⟨hjf, rfl⟩
    · have hjf' : (m4 : Int) < (f : Int) := by omega
      go_wp2
      go_ret
      exact ⟨rfl, FIN.out _ rfl⟩
    · have hjf' : (m4 : Int) ≤ (j : Int) := by omega
      go_wp2
      go_ret
      exact ⟨rfl, FIN.out _ rfl⟩
end
end Go.Proofs.YtamglgampeoepaaDoor
