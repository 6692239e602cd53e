/-
  Contract of slot's Put.
-/
import Derived.Test.YtamglgampeoepaaDoorSlotLay
namespace Go.Proofs.YtamglgampeoepaaDoor
set_option maxRecDepth 40000
open Go.RowKit Go.Joins

section
variable {w : World} {g : Nat} {F : List Nat} {s : SSt} {vv tv rv : Value} {ws : List Nat} {f : Nat}
theorem W64_set (ws : List Nat) (j x : Nat) : W64 (ws.set j x) = (W64 ws).set j (.int .u64 (x : Int)) := by simp [W64, List.map_set]
theorem putted {n tb cT : Nat} {v : List Int} (L : Laid w g s (putS s.st n v) vv tv rv ws f) (told : Told64 ws s.st) (full : FullTo ws f) (low : Low s.st n) (hl : n / 64 < ws.length) (hfn : f ≤ n / 64) (htv : tv = .slice (some ⟨tb, 0, none⟩) ws.length cT) {z : Nat} (hz : z = ws[n / 64]?.getD 0 ||| 2 ^ (n % 64)) :
    SRaw ((w.setCell ⟨tb, n / 64, none⟩ (.int .u64 (z : Int))).setCell ⟨g, 5, none⟩ (.int .i64 ((cnt s.st : Int) + 1))) g { s with st := putS s.st n v } vv tv rv (ws.set (n / 64) z) f := by
  subst htv
  have hgt : g ≠ tb := fun e => L.tg (by rw [e]; rfl)
  have k1 : Blk (w.setCell ⟨tb, n / 64, none⟩ (.int .u64 (z : Int))) g 60 (scells s vv (.slice (some ⟨tb, 0, none⟩) ws.length cT) rv f) := L.blk.far hgt _
  have t1 := (L.to.stored (n / 64) (.int .u64 (z : Int))).1
  rw [← W64_set] at t1
  have v1 := ownsRow_setCell_other L.vo (a := ⟨tb, n / 64, none⟩) (by rcases L.vt with h | h; rw [h]; simp; exact h) (.int .u64 (z : Int))
  have r1 := ownsRow_setCell_other L.ro (a := ⟨tb, n / 64, none⟩) (by rcases L.tr with h | h; cases h; exact fun e => h e.symm) (.int .u64 (z : Int))
  have hc := cnt_put (v := v) low.1
  refine ⟨?_, ownsRow_setCell_other v1 L.vg _, ?_, ownsRow_setCell_other r1 L.rg _, ?_, full.set hfn, L.vg, L.tg, L.rg, L.vt, L.vr, L.tr⟩
  · have := k1.set 5 (.int .i64 ((cnt s.st : Int) + 1))
    have e : (scells s vv (.slice (some ⟨tb, 0, none⟩) ws.length cT) rv f).setIfInBounds 5 (.int .i64 ((cnt s.st : Int) + 1)) = scells { s with st := putS s.st n v } vv (.slice (some ⟨tb, 0, none⟩) ws.length cT) rv f := by
      unfold scells
      simp only [hc]
      rfl
    rw [e] at this
    exact this
  · have := ownsRow_setCell_other t1 (a := ⟨g, 5, none⟩) L.tg (.int .i64 ((cnt s.st : Int) + 1))
    rw [List.length_set]
    exact this
  · rw [hz]; exact told.put low.le hl
def PutTo (w : World) (g : Nat) (F : List Nat) (s : SSt) (v : List Int) (e : Ending) (w' : World) : Prop :=
  ∃ n : Nat, Low s.st n ∧ e = .returned (.tuple #[.int .i64 (n : Int), .int .i64 0]) ∧ SDid w g F { s with st := putS s.st n v } w'
set_option maxHeartbeats 400000 in
theorem put_bad (h : SAt w g F s) (A : Option Addr) (m c : Nat) (hb : chk m (s.dim : Int) = 2) : Calls Tryd.prog 11 #[ptr g, .slice A m c] w fun e w' => e = .returned (.tuple #[.int .i64 0, .int .i64 2]) ∧ w' = w := by
  obtain ⟨vv, tv, rv, ws, f, hr, hbl⟩ := h.raw
  have U := hid (unmade_s hr h.fit)
  have CK := hid (check_any A m c (s.dim : Int) w)
  rw [hb] at CK
  have c0 := hr.c0
  clear h hr hbl hb
  go_enter Tryd.func11, Tryd.ntmps11
  go_wp2_with fail
  refine U.out.mono ?_
  rintro e w1 ⟨rfl, rfl⟩
  go_wp2_with fail
  refine CK.out.mono ?_
  rintro e w2 ⟨rfl, rfl⟩
  go_wp2
  go_ret2
  exact ⟨rfl, rfl⟩
set_option maxHeartbeats 400000 in
theorem put_full (h : SAt w g F s) (A : Option Addr) (m c : Nat) (hb : chk m (s.dim : Int) = 0) (hfull : cnt s.st = s.room) : Calls Tryd.prog 11 #[ptr g, .slice A m c] w fun e w' => e = .returned (.tuple #[.int .i64 0, .int .i64 7]) ∧ ∃ k, w' = w.drewN k := by
  obtain ⟨vv, tv, rv, ws, f, hr, hbl⟩ := h.raw
  have U := hid (unmade_s hr h.fit)
  have CK := hid (check_any A m c (s.dim : Int) w)
  rw [hb] at CK
  have c0 := hr.c0
  have c1 := hr.c1
  have c5 := hr.c5
  rw [hfull] at c5
  clear h hr hbl hb hfull
  go_enter Tryd.func11, Tryd.ntmps11
  go_wp2_with fail
  refine U.out.mono ?_
  rintro e w1 ⟨rfl, rfl⟩
  go_wp2_with fail
  refine CK.out.mono ?_
  rintro e w2 ⟨rfl, rfl⟩
  go_wp2
  go_quiet (fail)
  go_wp2
  go_ret2
  exact ⟨rfl, _, rfl⟩
set_option maxHeartbeats 2000000 in
theorem put_ok (h : SAt w g F s) (A : Option Addr) (c lo hi : Nat) (v : List Int) (hR : Row w lo hi A s.dim (IK .i16 v)) (hhi : hi ≤ w.heap.size) (hA : A = none → c = 0) (hlo : ∀ b ∈ F, b < lo ∨ hi ≤ b) (hroom : cnt s.st < s.room) (hT : ∀ W, Touch w W F → Tab W) :
    Calls Tryd.prog 11 #[ptr g, .slice A s.dim c] w (PutTo w g F s v) := by
  obtain ⟨vv, tv, rv, ws, f, hr, hbl⟩ := h.raw
  have hd := h.fit.dim
  have U := hid (unmade_s hr h.fit)
  have CK := hid (check_any A s.dim c (s.dim : Int) w)
  rw [show chk s.dim (s.dim : Int) = 0 by unfold chk; rw [if_pos (by omega)]] at CK
  have c0 := hr.c0
  have c1 := hr.c1
  have c5 := hr.c5
  have q : ((cnt s.st : Int) == (s.room : Int)) = false := by simp; omega
  have HF := hid h.fit
  have HR := hid hr
  have HBL := hid hbl
  have LF := hid (fun k : Nat => least_s (hr.draws (k := k)) h.fit (fun W ht => hT W (((touch_drewN w k F).then (ht.mono (fun i _ hi => hbl i hi)) (fun _ _ hi => hi)))))
  have HRW := hid hR
  have HLO := hid hlo
  have HAA := hid hA
  have hdim : s.dim ≤ 1024 := hd.2
  have hdim0 : 1 ≤ s.dim := hd.1
  have HRM := hid hroom
  clear h hr hbl hR hlo hA hT hd hroom
  go_enter Tryd.func11, Tryd.ntmps11
  go_wp2_with fail
  refine U.out.mono ?_
  rintro e w1 ⟨rfl, rfl⟩
  go_wp2_with fail
  refine CK.out.mono ?_
  rintro e w2 ⟨rfl, rfl⟩
  go_wp2
  go_quiet (fail)
  have LFX := hid (LF.out nq)
  go_wp2_with fail
  refine LFX.out.mono ?_
  rintro e w3 ⟨n, tv3, ws3, f3, rfl, hlow, R3, hl3, hf3, T3, B3⟩
  have hT3 : Touch w1 w3 (blocks g vv tv rv) := (touch_drewN w1 nq _).then T3 (fun _ _ hi => hi)
  have hR3 : Row w3 lo w3.heap.size A s.dim (IK .i16 v) := (HRW.out.touch hT3 hhi (fun i hi => HLO.out i (HBL.out i hi))).wide (Nat.le_refl _) (Nat.le_trans hhi hT3.size)
  have LY := hid (lay_s R3 HF.out n hlow.le A c lo v hR3 HAA.out)
  have HLOW := hid hlow
  have HTOLD := hid R3.told
  have HFULL := hid R3.full
  have HT3 := hid hT3
  have HB3 : Hid (∀ b ∈ blocks g vv tv3 rv, b ∈ F ∨ w1.heap.size ≤ b) := hid fun b hb => by
    rcases B3 b hb with h | h
    · exact .inl (HBL.out b h)
    · exact .inr h
  have HL3 := hid hl3
  have HF3 := hid hf3
  have hn : n ≤ 16777216 := by have := hlow.le; have := HF.out.wide; have := HF.out.room; omega
  clear hlow R3 hl3 hf3 T3 B3 hT3 hR3 LFX
  go_wp2_with fail
  refine LY.out.mono ?_
  rintro e w4 ⟨vv4, rfl, L4, T4, B4⟩
  obtain ⟨AT, cT, rfl, hwd⟩ := words_shape L4.to
  obtain ⟨tb, rfl, hcell⟩ := hwd (n / 64) HL3.out
  obtain ⟨j, hj⟩ : ∃ j, j = n / 64 := ⟨_, rfl⟩
  have hq : ((n : Int).tdiv 64) = (j : Int) := by rw [Int.tdiv_eq_ediv_of_nonneg (by omega)]; omega
  have hjl2 : (j : Int) < (ws3.length : Int) := by have := HL3.out; omega
  have hj9 : j ≤ 9223372036854775807 := by omega
  rw [← hj] at hcell
  obtain ⟨x, hx⟩ : ∃ x, x = ws3[j]?.getD 0 := ⟨_, rfl⟩
  have hx64 : x < 18446744073709551616 := by rw [hx]; exact HTOLD.out.word_lt j
  rw [← hx] at hcell
  have BT := hid (fun W : World => bit_any n W (by omega))
  have hpw : 2 ^ (n % 64) < 18446744073709551616 := pow_lt (Nat.mod_lt _ (by omega))
  obtain ⟨y, hy⟩ : ∃ y, y = 2 ^ (n % 64) := ⟨_, rfl⟩
  rw [← hy] at BT hpw
  have hor : bits .or .u64 (x : Int) (y : Int) = ((x ||| y : Nat) : Int) := u64_or_nat x y hx64 hpw
  obtain ⟨z, hz⟩ : ∃ z, z = x ||| y := ⟨_, rfl⟩
  rw [← hz] at hor
  have HZ : Hid (z = ws3[n / 64]?.getD 0 ||| 2 ^ (n % 64)) := hid (by rw [hz, hx, hy, hj])
  have HJ := hid hj
  have d3 : w4.cell? ⟨g, 3, none⟩ = some (.slice (some ⟨tb, 0, none⟩) ws3.length cT) := L4.blk.cell 3
  have d5 : w4.cell? ⟨g, 5, none⟩ = some (.int .i64 (cnt s.st : Int)) := L4.blk.cell 5
  have f5 := L4.blk.frozen 5
  have HL4 := hid L4
  have HT4 := hid T4
  have HB4 : Hid (∀ b ∈ blocks g vv4 (.slice (some ⟨tb, 0, none⟩) ws3.length cT) rv, b ∈ F ∨ w1.heap.size ≤ b) := hid fun b hb => by
    rcases B4 b hb with h | h
    · exact HB3.out b h
    · exact .inr (Nat.le_trans HT3.out.size h)
  have hfz := L4.to.frozenAt j
  have hgt : g ≠ tb := fun e => L4.tg (by rw [e]; rfl)
  have HQE : Hid (IntKind.i64.wrap ((n : Int) / 64) = (j : Int) ∧ (n : Int) / 64 = (j : Int)) := hid (by
    have e : (n : Int) / 64 = (j : Int) := by omega
    rw [e]
    exact ⟨wrap_nat hj9, rfl⟩)
  have HWJ := hid (wrap_nat hj9)
  have HQW : Hid (wrap64 ((n : Int).tdiv 64) = (j : Int)) := hid (by rw [hq]; exact wrap64_nat hj9)
  clear L4 T4 B4 hj hx hx64 hpw hy hz hwd LY hj9 hq
  go_wp2
  have hqw := HQW.out
  obtain ⟨_, hqd⟩ := HQE.out
  have hwj := HWJ.out
  go_region_law (first | (go_simp; go_at_call 33; refine (BT.out _).mono ?_; rintro e w9 ⟨rfl, rfl⟩))
  all_goals
    have k5 := HL4.out.blk.far hgt (.int .u64 (z : Int)) (p := ⟨tb, j, none⟩)
    have d5' : (w4.setCell ⟨tb, j, none⟩ (.int .u64 (z : Int))).drew.cell? ⟨g, 5, none⟩ = some (.int .i64 (cnt s.st : Int)) := k5.cell 5
    have f5' : (w4.setCell ⟨tb, j, none⟩ (.int .u64 (z : Int))).drew.frozen? ⟨g, 5, none⟩ = false := k5.frozen 5
    have hcn : cnt s.st ≤ 16777216 := by have := HF.out.cnt; have := HF.out.room; omega
    clear d5 f5 d3 hcell hfz hor hqw hqd hwj k5
    go_wp2
    go_ret2
    have R := putted HL4.out HTOLD.out HFULL.out HLOW.out HL3.out HF3.out rfl HZ.out
    have hvl : v.length = s.dim := by have := HRW.out.len; rwa [IK_len] at this
    have hnr := HLOW.out.cnt_le
    refine ⟨n, HLOW.out, rfl, sdid_mk (R.touch (G := []) (w' := ((w4.setCell ⟨tb, j, none⟩ (.int .u64 (z : Int))).drew).setCell ⟨g, 5, none⟩ (.int .i64 ((cnt s.st : Int) + 1))) (by rw [HJ.out]; exact ⟨rfl, rfl, rfl, Nat.le_refl _, fun _ _ _ => rfl⟩) (fun _ _ h => by cases h)) ⟨HF.out.dim, HF.out.room, fitted_put HF.out.fit hvl, ?_, ?_, HF.out.tr⟩ ?_ HB4.out⟩
    · show cnt (putS s.st n v) ≤ s.room
      rw [cnt_put HLOW.out.1]
      exact HRM.out
    · show (putS s.st n v).length ≤ s.room
      rw [put_len HLOW.out.le]
      have := HF.out.wide
      have := HRM.out
      omega
    · have t1 : Touch w1 w3 F := HT3.out.mono (fun i _ hi => HBL.out i hi)
      have t2 : Touch w1 w4 F := t1.then HT4.out (fun i hlt hi => by
        rcases HB3.out i hi with h | h
        · exact h
        · omega)
      have t3 : Touch w1 (w4.setCell ⟨tb, j, none⟩ (.int .u64 (z : Int))) F := t2.then (touch_set (F := [tb]) List.mem_cons_self) (fun i hlt hi => by
        rw [List.mem_singleton] at hi
        subst hi
        rcases HB4.out i (by simp [blocks, Value.ownBlock]) with h | h
        · exact h
        · omega)
      exact (t3.drews 1).then (touch_set (F := [g]) List.mem_cons_self) (fun i _ hi => by rw [List.mem_singleton] at hi; subst hi; exact HBL.out i (by simp [blocks]))
end
end Go.Proofs.YtamglgampeoepaaDoor
