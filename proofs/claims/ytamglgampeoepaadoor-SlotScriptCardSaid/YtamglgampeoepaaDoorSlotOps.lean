/-
  Contracts of slot's New, Clear and Get.
-/
import Derived.Test.YtamglgampeoepaaDoorSlotPlace
import Derived.Lib.SmallJoins
namespace Go.Proofs.YtamglgampeoepaaDoor
set_option maxRecDepth 40000
open Go.RowKit Go.Joins

def SDid (w : World) (g : Nat) (F : List Nat) (s' : SSt) (w' : World) : Prop := ∃ F', SAt w' g F' s' ∧ Touch w w' F ∧ ∀ b ∈ F', b ∈ F ∨ w.heap.size ≤ b
theorem touch_set {w : World} {g i : Nat} {u : Value} {F : List Nat} (h : g ∈ F) : Touch w (w.setCell ⟨g, i, none⟩ u) F :=
  touch_grown (only_set (World.grownBy.refl w (some g)) i u) (fun e he => by injection he with he; rw [← he]; exact h)
theorem Touch.set {w w' : World} {g i : Nat} {u : Value} {F : List Nat} (ht : Touch w w' F) (h : g ∈ F) : Touch w (w'.setCell ⟨g, i, none⟩ u) F := ht.then (touch_set h) (fun _ _ hi => hi)
theorem Touch.drews {w w' : World} {F : List Nat} (ht : Touch w w' F) (k : Nat) : Touch w (w'.drewN k) F := ⟨ht.os, ht.tape, ht.output, ht.size, ht.block⟩
theorem SAt.raw {w : World} {g : Nat} {F : List Nat} {s : SSt} (h : SAt w g F s) : ∃ vv tv rv ws f, SRaw w g s vv tv rv ws f ∧ (∀ b ∈ blocks g vv tv rv, b ∈ F) := by
  obtain ⟨_, _, vv, tv, rv, ws, f, h3, h4⟩ := h
  exact ⟨vv, tv, rv, ws, f, h3, h4⟩
/-- Slots whose blocks are just theirs. -/
theorem SRaw.at_ {w : World} {g : Nat} {s : SSt} {vv tv rv : Value} {ws : List Nat} {f : Nat} (h : SRaw w g s vv tv rv ws f) (hf : SFit s) : SAt w g (blocks g vv tv rv) s := by
  refine ⟨hf, fun b hb => ?_, vv, tv, rv, ws, f, h, fun _ h => h⟩
  simp only [blocks, List.mem_cons, List.mem_append, Option.mem_toList] at hb
  rcases hb with hb | hb | hb | hb
  · rw [hb]; exact h.blk.lt
  · exact (h.vo.lt b hb).2
  · exact (h.to.lt b hb).2
  · exact (h.ro.lt b hb).2
theorem sdid_mk {w w' : World} {g : Nat} {F : List Nat} {s' : SSt} {vv tv rv : Value} {ws : List Nat} {f : Nat} (h : SRaw w' g s' vv tv rv ws f) (hf : SFit s') (ht : Touch w w' F) (hb : ∀ b ∈ blocks g vv tv rv, b ∈ F ∨ w.heap.size ≤ b) : SDid w g F s' w' := ⟨_, h.at_ hf, ht, hb⟩
theorem fit_new {dim room : Nat} (h1 : 1 ≤ dim ∧ dim ≤ 1024) (h2 : 1 ≤ room ∧ room ≤ 16777216) : SFit ⟨dim, room, [], []⟩ := ⟨h1, h2, (fun v hv => by cases hv), Nat.zero_le _, Nat.zero_le _, Nat.zero_le _⟩
theorem raw_new {w : World} {g dim room : Nat} (hb : Blk w g 60 (scells ⟨dim, room, [], []⟩ (.slice none 0 0) (.slice none 0 0) (.slice none 0 0) 0)) : SRaw w g ⟨dim, room, [], []⟩ (.slice none 0 0) (.slice none 0 0) (.slice none 0 0) [] 0 :=
  ⟨hb, by simpa [flatS, IK] using World.ownsRow_nil w 0 39 1, by simpa [W64] using World.ownsRow_nil w 0 63 1, by simpa [IK] using World.ownsRow_nil w 0 3 1,
    ⟨(fun x hx => by cases hx), fun i => by simp [has], by simp⟩, ⟨Nat.le_refl _, fun j hj => by omega⟩, by simp [Value.ownBlock], by simp [Value.ownBlock], by simp [Value.ownBlock], .inl rfl, .inl rfl, .inl rfl⟩
set_option maxHeartbeats 400000 in
theorem new_ok (dim room : Nat) (w : World) (h1 : 1 ≤ dim ∧ dim ≤ 1024) (h2 : 1 ≤ room ∧ room ≤ 16777216) : Calls Tryd.prog 8 #[.int .i64 (dim : Int), .int .i64 (room : Int)] w fun e w' => ∃ g, e = .returned (.tuple #[ptr g, .int .i64 0]) ∧ SAt w' g [g] ⟨dim, room, [], []⟩ ∧ w.heap.size ≤ g ∧ Below w.heap.size w w' := by
  have a1 : ¬ ((dim : Int) < 1) := by omega
  have a2 : ¬ ((1024 : Int) < (dim : Int)) := by omega
  have a3 : ¬ ((room : Int) < 1) := by omega
  have a4 : ¬ ((16777216 : Int) < (room : Int)) := by omega
  have FN := hid (fit_new h1 h2)
  have HB := hid (Blk.new w 60 (scells ⟨dim, room, [], []⟩ (.slice none 0 0) (.slice none 0 0) (.slice none 0 0) 0))
  clear h1 h2
  go_enter Tryd.func8, Tryd.ntmps8
  go_wp2
  go_ret2
  refine ⟨w.heap.size, rfl, ?_, Nat.le_refl _, (Below.refl _ w).alloc (Nat.le_refl _) _⟩
  have h3 := (raw_new HB.out).at_ FN.out
  rw [show blocks w.heap.size (.slice none 0 0) (.slice none 0 0) (.slice none 0 0) = [w.heap.size] from rfl] at h3
  exact h3
set_option maxHeartbeats 400000 in
theorem new_bad (dim room : Int) (w : World) (h : ¬ (1 ≤ dim ∧ dim ≤ 1024 ∧ 1 ≤ room ∧ room ≤ 16777216)) : Calls Tryd.prog 8 #[.int .i64 dim, .int .i64 room] w fun e w' => e = .returned (.tuple #[.pointer none, .int .i64 2]) ∧ w' = w := by
  by_cases a1 : dim < 1
  · clear h
    go_enter Tryd.func8, Tryd.ntmps8
    go_wp2
    go_ret2
    exact ⟨rfl, rfl⟩
  by_cases a2 : (1024 : Int) < dim
  · clear h
    go_enter Tryd.func8, Tryd.ntmps8
    go_wp2
    go_ret2
    exact ⟨rfl, rfl⟩
  by_cases a3 : room < 1
  · clear h
    go_enter Tryd.func8, Tryd.ntmps8
    go_wp2
    go_ret2
    exact ⟨rfl, rfl⟩
  · have a4 : (16777216 : Int) < room := by omega
    clear h
    go_enter Tryd.func8, Tryd.ntmps8
    go_wp2
    go_ret2
    exact ⟨rfl, rfl⟩
section
variable {w : World} {g : Nat} {F : List Nat} {s : SSt} {vv tv rv : Value} {ws : List Nat} {f : Nat}
/-- The trace is another one. -/
theorem SRaw.trace {w' : World} {rv' : Value} {tr' : List Int} {G : List Nat} (h : SRaw w g s vv tv rv ws f) (ht : Touch w w' G) (hG : ∀ b ∈ blocks g vv tv (.slice none 0 0), b ≠ g → b ∉ G) (hb : Blk w' g 60 (scells s vv tv rv' f)) (ro : w'.ownsRow 0 3 1 rv' tr'.length (IK .i64 tr'))
    (hr : ∀ e, rv'.ownBlock = some e → rv.ownBlock = some e ∨ w.heap.size ≤ e) : SRaw w' g { s with tr := tr' } vv tv rv' ws f := by
  refine ⟨hb, own_touched h.vo ht (fun e he => hG e (by simp [blocks, he]) (fun e2 => h.vg (by rw [he, e2]))), own_touched h.to ht (fun e he => hG e (by simp [blocks, he]) (fun e2 => h.tg (by rw [he, e2]))), ro, h.told, h.full, h.vg, h.tg, fun e => ?_, h.vt, ?_, ?_⟩
  · rcases hr g e with h1 | h1
    · exact h.rg h1
    · have := h.blk.lt; omega
  · rcases h.vr with h1 | h1
    · exact .inl h1
    · cases hv : vv.ownBlock with
      | none => exact .inl rfl
      | some e =>
        right
        intro e2
        rcases hr e e2.symm with h2 | h2
        · exact h1 (by rw [hv, h2])
        · have := (h.vo.lt e hv).2; omega
  · rcases h.tr with h1 | h1
    · exact .inl h1
    · cases hv : tv.ownBlock with
      | none => exact .inl rfl
      | some e =>
        right
        intro e2
        rcases hr e e2.symm with h2 | h2
        · exact h1 (by rw [hv, h2])
        · have := (h.to.lt e hv).2; omega
theorem clear_s (h : SAt w g F s) : Calls Tryd.prog 19 #[ptr g] w fun e w' => e = .returned (.tuple #[]) ∧ SDid w g F { s with tr := [] } w' := by
  obtain ⟨vv, tv, rv, ws, f, hr, hb⟩ := h.raw
  have U := hid (unmade_s hr h.fit)
  have c6 := hr.c6
  have f6 := hr.blk.frozen 6
  have HR := hid hr
  have HB := hid hb
  have HF := hid h.fit
  clear h hr hb
  go_enter Tryd.func19, Tryd.ntmps19
  go_wp2_with fail
  refine U.out.mono ?_
  rintro e w1 ⟨rfl, rfl⟩
  go_wp2
  go_end0
  have hg : g ∈ F := HB.out g (by simp [blocks])
  refine ⟨rfl, sdid_mk (HR.out.trace (rv' := .slice none 0 0) (tr' := []) (touch_set (F := [g]) List.mem_cons_self) (fun b _ hne hm => hne (List.mem_singleton.1 hm)) (HR.out.blk.set 6 (.slice none 0 0)) (by simpa [IK] using World.ownsRow_nil _ 0 3 1) (fun e he => by cases he)) ⟨HF.out.dim, HF.out.room, HF.out.fit, HF.out.cnt, HF.out.wide, Nat.zero_le _⟩ (touch_set hg) (fun b hb => .inl (HB.out b ?_))⟩
  simp only [blocks, List.mem_cons, List.mem_append] at hb ⊢
  rcases hb with hb | hb | hb | hb
  · exact .inl hb
  · exact .inr (.inl hb)
  · exact .inr (.inr (.inl hb))
  · cases hb
/-- What Get leaves where the slot has a vector. -/
def Got (w : World) (g : Nat) (F : List Nat) (s : SSt) (v : List Int) (e : Ending) (w' : World) : Prop :=
  ∃ A m c F', e = .returned (.tuple #[.slice A m c, .int .i64 0]) ∧ Hid (v.length = m) ∧ Hid (A = none → c = 0) ∧ w'.ownsRow w.heap.size 39 1 (.slice A m c) m (IK .i16 v) ∧ SAt w' g F' s ∧ Touch w w' F ∧ (∀ b ∈ F', b ∈ F ∨ w.heap.size ≤ b) ∧ ∀ e, (Value.slice A m c).ownBlock = some e → e ∉ F'
set_option maxHeartbeats 400000 in
theorem get_no (h : SAt w g F s) (n : Int) (hn : n ≤ 9223372036854775807) (hh : hasI s.st n = false) : Calls Tryd.prog 14 #[ptr g, .int .i64 n] w fun e w' => e = .returned (.tuple #[.slice none 0 0, .int .i64 6]) ∧ ∃ k, w' = w.drewN k := by
  obtain ⟨vv, tv, rv, ws, f, hr, hb⟩ := h.raw
  have RF := hid (refusal_s hr h.fit n hn)
  rw [hh] at RF
  clear h hr hb
  go_enter Tryd.func14, Tryd.ntmps14
  go_wp2_with fail
  refine RF.out.mono ?_
  rintro e w1 ⟨rfl, k, rfl⟩
  go_wp2
  go_ret2
  exact ⟨rfl, k, rfl⟩
theorem touch_drewN (w : World) (k : Nat) (F : List Nat) : Touch w (w.drewN k) F := ⟨rfl, rfl, rfl, Nat.le_refl _, fun _ _ _ => rfl⟩
theorem SRaw.draws {k : Nat} (h : SRaw w g s vv tv rv ws f) : SRaw (w.drewN k) g s vv tv rv ws f := h.touch (touch_drewN w k []) (fun _ _ h => by cases h)
/-- A slot's numbers as a slice of its row. -/
theorem SRaw.row (h : SRaw w g s vv tv rv ws f) (hf : SFit s) {n b cap : Nat} {v : List Int} (hv : s.st[n]? = some (some v)) (he : vv = .slice (some ⟨b, 0, none⟩) (s.st.length * s.dim) cap) : Row w 0 w.heap.size (some ⟨b, n * s.dim, none⟩) s.dim (IK .i16 v) := by
  subst he
  have hn : n < s.st.length := (List.getElem?_eq_some_iff.1 hv).1
  have hd := flat_at hf.fit hv
  have hvl : v.length = s.dim := hf.fit v (List.mem_of_getElem? hv)
  refine ⟨by rw [IK_len]; exact hvl, fun _ => ⟨b, n * s.dim, rfl, Nat.zero_le _, (h.vo.lt b rfl).2, fun j u hu => ?_⟩⟩
  have hj : j < v.length := by have := (List.getElem?_eq_some_iff.1 hu).1; rwa [IK_len] at this
  have h2 : (IK .i16 (flatS s.dim s.st))[n * s.dim + j]? = some u := by
    rw [← hu]
    unfold IK
    rw [List.getElem?_map, List.getElem?_map]
    congr 1
    have h3 := congrArg (fun l => l[j]?) hd
    simp only [Option.getD_some] at h3
    rw [List.getElem?_take_of_lt (by omega), List.getElem?_drop] at h3
    exact h3
  have := h.vo.cells (g := b) rfl _ u h2
  rwa [addr_add, Nat.zero_add] at this
/-- The trace with a slot more. -/
theorem traced (h : SRaw w g s vv tv rv ws f) {n : Int} {o : Obj} {v2 : Value} {w2 : World} (own2 : w2.ownsRow 0 3 1 v2 (s.tr.length + 1) (IK .i64 s.tr ++ [.int .i64 n])) (grow2 : (w.alloc o).grownBy w2 rv.ownBlock) (at2 : v2.ownBlock = rv.ownBlock ∨ v2.ownBlock = some (w.alloc o).heap.size) :
    SRaw (w2.setCell ⟨g, 6, none⟩ v2) g { s with tr := s.tr ++ [n] } vv tv v2 ws f ∧ Touch w (w2.setCell ⟨g, 6, none⟩ v2) (blocks g vv tv rv) ∧ ∀ b ∈ blocks g vv tv v2, b ∈ blocks g vv tv rv ∨ w.heap.size ≤ b := by
  have hgl := h.blk.lt
  have hs : (w.alloc o).heap.size = w.heap.size + 1 := by simp
  have hv : ∀ e, v2.ownBlock = some e → rv.ownBlock = some e ∨ w.heap.size ≤ e := fun e he => by
    rcases at2 with h1 | h1
    · exact .inl (h1 ▸ he)
    · rw [h1] at he; injection he with he; right; omega
  have hvg : v2.ownBlock ≠ some g := fun e => by
    rcases hv g e with h1 | h1
    · exact h.rg h1
    · omega
  have k2 : Blk w2 g 60 (scells s vv tv rv f) := (h.blk.alloc o).grown grow2 (Ne.symm h.rg)
  have t1 : Touch w w2 rv.ownBlock.toList := (touch_below ((Below.refl _ w).alloc (Nat.le_refl _) o) _).then (touch_grown grow2 (fun e he => by rw [he]; simp)) (fun _ _ hi => hi)
  have t2 : Touch w (w2.setCell ⟨g, 6, none⟩ v2) (g :: rv.ownBlock.toList) := (t1.mono (fun _ _ hi => List.mem_cons_of_mem _ hi)).set List.mem_cons_self
  refine ⟨h.trace t2 (fun b hb hne hm => ?_) (k2.set 6 v2) ?_ hv, t2.mono (fun i _ hi => ?_), fun b hb => ?_⟩
  · simp only [blocks, List.mem_cons, List.mem_append, Option.mem_toList] at hb hm
    rcases hm with hm | hm
    · exact hne hm
    · rcases hb with hb | hb | hb | hb
      · exact hne hb
      · rcases h.vr with h1 | h1
        · rw [h1] at hb; cases hb
        · exact h1 (Eq.trans hb (Eq.symm hm))
      · rcases h.tr with h1 | h1
        · rw [h1] at hb; cases hb
        · exact h1 (Eq.trans hb (Eq.symm hm))
      · cases hb
  · rw [List.length_append, IK_append]
    exact ownsRow_setCell_other own2 hvg _
  · simp only [blocks, List.mem_cons, List.mem_append] at hi ⊢
    rcases hi with hi | hi
    · exact .inl hi
    · exact .inr (.inr (.inr hi))
  · simp only [blocks, List.mem_cons, List.mem_append, Option.mem_toList] at hb ⊢
    rcases hb with hb | hb | hb | hb
    · exact .inl (.inl hb)
    · exact .inl (.inr (.inl hb))
    · exact .inl (.inr (.inr (.inl hb)))
    · rcases hv b hb with h1 | h1
      · exact .inl (.inr (.inr (.inr h1)))
      · exact .inr h1
set_option maxHeartbeats 1000000 in
theorem get_ok (h : SAt w g F s) (n : Nat) (v : List Int) (hv : s.st[n]? = some (some v)) (htr : s.tr.length < 1000000) : Calls Tryd.prog 14 #[ptr g, .int .i64 (n : Int)] w (Got w g F { s with tr := s.tr ++ [(n : Int)] } v) := by
  obtain ⟨vv, tv, rv, ws, f, hr, hb⟩ := h.raw
  have hn : n < s.st.length := (List.getElem?_eq_some_iff.1 hv).1
  have hn9 : n ≤ 16777216 := by have := h.fit.wide; have := h.fit.room; omega
  have RF := hid (refusal_s hr h.fit (n : Int) (by omega))
  rw [hasI_nat, has_of hv] at RF
  obtain ⟨i0, hi, hz0, hz1, hz2⟩ := info_parts info64
  obtain ⟨AR, cR, rfl, _, _⟩ := own_shape' hr.ro
  have HR := hid hr
  have HB := hid hb
  have HF := hid h.fit
  have HV := hid hv
  clear h hr hb hv
  go_enter Tryd.func14, Tryd.ntmps14
  go_wp2_with fail
  refine RF.out.mono ?_
  rintro e w1 ⟨rfl, k, rfl⟩
  have HR1 := hid (HR.out.draws (k := k))
  have c6 := HR1.out.c6
  have HT1 := hid (touch_drewN w k F)
  obtain ⟨w1, hw1⟩ : ∃ w1, w1 = w.drewN k := ⟨_, rfl⟩
  rw [← hw1] at HR1 c6 HT1 ⊢
  have HZ : Hid (w1.heap.size = w.heap.size) := hid (by rw [hw1]; rfl)
  have HG := HR1.out.blk.lt
  have RN := hid (row_one w1 3 (.int .i64 (n : Int)))
  clear hw1 RF
  go_wp2_with (at_builtin; go_loud (refine wpList_append_row _ rfl _ _ 45 rfl 0 3 i0 (.int .i64 0) 8 Tryd.underlying45 hi hz0 hz1 hz2 rfl (.slice AR s.tr.length cR) s.tr.length (IK .i64 s.tr) rfl (HR1.out.ro.alloc _) w1.heap.size (w1.heap.size + 1) (some ⟨w1.heap.size, 0, none⟩) 1 1 rfl (fun e => by cases e) [.int .i64 (n : Int)] RN.out (by intro u hu; simp at hu; subst hu; rfl) (by unfold maxLen; omega) (by omega) (by simp) ?_); intro v2 w2 own2 grow2 at2; obtain ⟨R3, T3, B3⟩ := traced HR1.out own2 grow2 at2; have k2 := (HR1.out.blk.alloc (.cells #[.int .i64 (n : Int)] 3)).grown grow2 (Ne.symm HR1.out.rg); have f6 := k2.frozen 6; have c6' := k2.cell 6; obtain ⟨A2, c2, rfl, _, _⟩ := own_shape' own2; have HR3 := hid R3; have HT3 := hid T3; have HB3 := hid B3; have HK2 := hid k2; clear R3 T3 B3 own2 grow2 at2 k2; obtain ⟨w3, hw3⟩ : ∃ w3, w3 = w2.setCell ⟨g, 6, none⟩ (.slice A2 (s.tr.length + 1) c2) := ⟨_, rfl⟩; rw [← hw3] at HR3 HT3; have HW3 := hid hw3; clear hw3)
  rw [← HW3.out]
  have HF3 : Hid (SFit { s with tr := s.tr ++ [(n : Int)] }) := hid ⟨HF.out.dim, HF.out.room, HF.out.fit, HF.out.cnt, HF.out.wide, by rw [List.length_append]; simp; omega⟩
  obtain ⟨b, cap, hvv, hle, PL⟩ := place_s HR3.out HF3.out n hn
  have HRW := hid (HR3.out.row HF3.out (n := n) (v := v) HV.out hvv)
  have HPL := hid PL
  have hdim : s.dim ≤ 1024 := HF.out.dim.2
  clear PL hle hvv c6 c6' f6
  refine HPL.out.mono ?_
  rintro e w4 ⟨rfl, k4, rfl⟩
  have CL := hid (clone16_any (some ⟨b, n * s.dim, none⟩) s.dim s.dim 0 w3.heap.size v (w3.drewN k4) (HRW.out.drewN k4) (fun e => by cases e) (Nat.le_refl _) (by omega))
  go_wp2_with fail
  refine CL.out.mono ?_
  rintro e w5 ⟨A5, m5, c5, rfl, h1, h2, h3, hb5⟩
  have HO5 := hid h3
  have HB5 := hid hb5
  have H1 := hid h1.out
  have H2 := hid h2.out
  clear h1 h2 h3 hb5 CL HPL
  go_wp2
  go_ret2
  have L3 := (HR3.out.at_ HF3.out)
  have z3 : w.heap.size ≤ w3.heap.size := by have := HT3.out.size; have := HZ.out; omega
  refine ⟨A5, m5, c5, _, rfl, H1, H2, ownsRow_le HO5.out z3, ((L3.touch (touch_drewN w3 k4 []) (fun _ _ h => by cases h)).below HB5.out), ?_, fun b hb => ?_, fun e he hm => ?_⟩
  · exact (((HT1.out.then (HT3.out.mono (fun i _ hi => HB.out i hi)) (fun _ _ hi => hi)).drews k4).then (touch_below HB5.out F) (fun _ _ hi => hi))
  · rcases HB3.out b hb with h | h
    · exact .inl (HB.out b h)
    · right; have := HZ.out; omega
  · have h1 := L3.lt e hm
    have h2 := (HO5.out.lt e he).1
    exact absurd h1 (by show ¬ e < w3.heap.size; exact Nat.not_lt.2 h2)
end
end Go.Proofs.YtamglgampeoepaaDoor
