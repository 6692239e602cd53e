/-
  The document's slots: contracts of the calls that write.
-/
import Derived.Test.YtamglgampeoepaaDoorRSlot
namespace Go.Proofs.YtamglgampeoepaaDoor
set_option maxRecDepth 40000
open Go.RowKit Go.Joins

theorem infoS : (Tryd.prog.info? 32).map (fun i => (i.zero, i.size, i.bytes)) = some (some (.slice none 0 0), 1, 24) := by kernel_rfl
theorem set_size (w : World) (p : Addr) (u : Value) : (w.setCell p u).heap.size = w.heap.size := by simp [World.setCell]
theorem made_at {W : World} {base n : Nat} (e : TypeId) (hn : W.heap.size = n) (hb : base ≤ n) : (W.alloc (.cells #[] e)).ownsRow base e 1 (.slice (some ⟨n, 0, none⟩) 0 0) 0 [] := by
  subst hn
  exact World.ownsRow_made W #[] 0 hb (by decide) rfl
def RDid (w : World) (g : Nat) (O E : List Nat) (s' : SSt) (w' : World) : Prop :=
  ∃ O' E', RAt w' g O' E' s' ∧ Touch w w' O ∧ (∀ b ∈ O', b ∈ O ∨ w.heap.size ≤ b) ∧ ∀ b ∈ E', b ∈ E ∨ w.heap.size ≤ b
section
variable {w w' : World} {g : Nat} {O E G : List Nat} {s : SSt} {vv tv : Value} {vs : List Value}
theorem RAt.has (h : RAt w g O E s) (n : Int) : Calls Tryd.prog 27 #[rptr g, .int .i64 n] w fun e w' => e = .returned (.bool (hasI s.st n)) ∧ w' = w := by
  obtain ⟨vv, tv, vs, hr, _⟩ := h.raw
  exact rhas_s hr n
theorem RAt.count (h : RAt w g O E s) : Calls Tryd.prog 23 #[rptr g] w fun e w' => e = .returned (.int .i64 (cnt s.st : Int)) ∧ w' = w := by
  obtain ⟨vv, tv, vs, hr, _⟩ := h.raw
  exact rcount_s hr h.fit
/-- A number laid into the row. -/
theorem rset (h : RRaw w g s vv tv vs E) {p vb c : Nat} {u : Value} {o : Option (List Int)} {E' : List Nat} (hvv : vv = .slice (some ⟨vb, 0, none⟩) s.st.length c) (hp : p < s.st.length) (hE : ∀ b ∈ E, b ∈ E') (hvb : ∀ b ∈ E, b ≠ vb) (hu : VE (w.setCell ⟨vb, p, none⟩ u) E' u o) :
    RRaw (w.setCell ⟨vb, p, none⟩ u) g { s with st := s.st.set p o } vv tv (vs.set p u) E' ∧ Touch w (w.setCell ⟨vb, p, none⟩ u) (rblocks g vv tv) := by
  subst hvv
  have hgb : g ≠ vb := fun e => h.vg (by rw [e]; rfl)
  have ht : Touch w (w.setCell ⟨vb, p, none⟩ u) [vb] := touch_set (List.mem_singleton.2 rfl)
  have v1 := (h.vo.stored p u).1
  have hl : vs.length = s.st.length := by have := h.vo.1; omega
  refine ⟨⟨h.blk.far hgb u, ?_, own_touched h.to ht (fun e he hm => ?_), fun i v hv => ?_, h.vg, h.tg, h.vt⟩, ht.mono (fun i _ hi => ?_)⟩
  · rw [List.length_set]
    exact v1
  · have h1 := List.mem_singleton.1 hm
    subst h1
    rcases h.vt with h2 | h2
    · cases h2
    · exact h2 he.symm
  · rw [List.getElem?_set] at hv
    by_cases e : p = i
    · subst e
      rw [if_pos rfl, if_pos (by omega)] at hv
      injection hv with hv
      rw [← hv]
      have : (s.st.set p o)[p]?.getD none = o := by rw [List.getElem?_set]; simp [hp]
      show VE _ E' u ((s.st.set p o)[p]?.getD none)
      rw [this]
      exact hu
    · rw [if_neg e] at hv
      have : (s.st.set p o)[i]?.getD none = s.st[i]?.getD none := by rw [List.getElem?_set, if_neg e]
      show VE _ E' v ((s.st.set p o)[i]?.getD none)
      rw [this]
      exact ((h.el i v hv).touch ht (fun b hb hm => hvb b hb (List.mem_singleton.1 hm))).more hE
  · rw [List.mem_singleton] at hi
    subst hi
    simp [rblocks, Value.ownBlock]
/-- A row grown by one, laid into the struct. -/
theorem rgrow {old v2 : Value} {w2 : World} {o : Obj} (k : Nat) (hg : g < w.heap.size) (hog : old.ownBlock ≠ some g) (grow2 : (w.alloc o).grownBy w2 old.ownBlock) (at2 : v2.ownBlock = old.ownBlock ∨ v2.ownBlock = some (w.alloc o).heap.size) :
    (∀ e, v2.ownBlock = some e → old.ownBlock = some e ∨ w.heap.size ≤ e) ∧ v2.ownBlock ≠ some g ∧ Touch w (w2.setCell ⟨g, k, none⟩ v2) (g :: old.ownBlock.toList) := by
  have hs : (w.alloc o).heap.size = w.heap.size + 1 := by simp
  have hv : ∀ e, v2.ownBlock = some e → old.ownBlock = some e ∨ w.heap.size ≤ e := fun e he => by
    rcases at2 with h1 | h1
    · exact .inl (h1 ▸ he)
    · rw [h1] at he; injection he with he; right; omega
  have t1 : Touch w w2 old.ownBlock.toList := (touch_below ((Below.refl _ w).alloc (Nat.le_refl _) o) _).then (touch_grown grow2 (fun e he => by rw [he]; simp)) (fun _ _ hi => hi)
  refine ⟨hv, fun e => ?_, (t1.mono (fun _ _ hi => List.mem_cons_of_mem _ hi)).set List.mem_cons_self⟩
  rcases hv g e with h1 | h1
  · exact hog h1
  · omega
/-- The trace with a slot more. -/
theorem rtraced (h : RRaw w g s vv tv vs E) (hE : ∀ b ∈ E, b ∉ rblocks g vv tv) (hvl : ∀ e, vv.ownBlock = some e → e < w.heap.size) {n : Int} {o : Obj} {v2 : Value} {w2 : World} (own2 : w2.ownsRow 0 3 1 v2 (s.tr.length + 1) (IK .i64 s.tr ++ [.int .i64 n])) (grow2 : (w.alloc o).grownBy w2 tv.ownBlock) (at2 : v2.ownBlock = tv.ownBlock ∨ v2.ownBlock = some (w.alloc o).heap.size) :
    RRaw (w2.setCell ⟨g, 3, none⟩ v2) g { s with tr := s.tr ++ [n] } vv v2 vs E ∧ Touch w (w2.setCell ⟨g, 3, none⟩ v2) (rblocks g vv tv) ∧ ∀ b ∈ rblocks g vv v2, b ∈ rblocks g vv tv ∨ w.heap.size ≤ b := by
  obtain ⟨hv, hvg, t2⟩ := rgrow (v2 := v2) 3 h.blk.lt h.tg grow2 at2
  have k2 := (h.blk.alloc o).grown grow2 (Ne.symm h.tg)
  have k3 := k2.set 3 v2
  refine ⟨⟨by simpa using k3, own_touched h.vo t2 (fun e he hm => ?_), ?_, fun i v hv => (h.el i v hv).touch t2 (fun b hb hm => hE b hb ?_), h.vg, hvg, ?_⟩, t2.mono (fun i _ hi => ?_), fun b hb => ?_⟩
  · rcases List.mem_cons.1 hm with h1 | h1
    · exact h.vg (h1 ▸ he)
    · rcases h.vt with h2 | h2
      · rw [h2] at he; cases he
      · have h1 : tv.ownBlock = some e := by simpa using h1
        exact h2 (he.trans h1.symm)
  · rw [List.length_append, IK_append]
    exact ownsRow_setCell_other own2 hvg _
  · simp only [rblocks, List.mem_cons, List.mem_append] at hm ⊢
    rcases hm with h1 | h1
    · exact .inl h1
    · exact .inr (.inr h1)
  · refine Classical.or_iff_not_imp_left.2 fun hn e => ?_
    obtain ⟨x, hx⟩ := Option.ne_none_iff_exists'.1 hn
    rcases hv x (e ▸ hx) with h1 | h1
    · rcases h.vt with h2 | h2
      · exact hn h2
      · exact h2 (hx.trans h1.symm)
    · have := hvl x hx; omega
  · simp only [rblocks, List.mem_cons, List.mem_append] at hi ⊢
    rcases hi with h1 | h1
    · exact .inl h1
    · exact .inr (.inr h1)
  · simp only [rblocks, List.mem_cons, List.mem_append, Option.mem_toList] at hb ⊢
    rcases hb with h1 | h1 | h1
    · exact .inl (.inl h1)
    · exact .inl (.inr (.inl h1))
    · rcases hv b h1 with h2 | h2
      · exact .inl (.inr (.inr h2))
      · exact .inr h2
/-- The row with a slot more. -/
theorem rwidened (h : RRaw w g s vv tv vs E) (hE : ∀ b ∈ E, b ∉ rblocks g vv tv) (htl : ∀ e, tv.ownBlock = some e → e < w.heap.size) {o : Obj} {v2 : Value} {w2 : World} (own2 : w2.ownsRow 0 32 1 v2 (s.st.length + 1) (vs ++ [.slice none 0 0])) (grow2 : (w.alloc o).grownBy w2 vv.ownBlock) (at2 : v2.ownBlock = vv.ownBlock ∨ v2.ownBlock = some (w.alloc o).heap.size) :
    RRaw (w2.setCell ⟨g, 2, none⟩ v2) g { s with st := s.st ++ [none] } v2 tv (vs ++ [.slice none 0 0]) E ∧ Touch w (w2.setCell ⟨g, 2, none⟩ v2) (rblocks g vv tv) ∧ ∀ b ∈ rblocks g v2 tv, b ∈ rblocks g vv tv ∨ w.heap.size ≤ b := by
  obtain ⟨hv, hvg, t2⟩ := rgrow (v2 := v2) 2 h.blk.lt h.vg grow2 at2
  have k2 := (h.blk.alloc o).grown grow2 (Ne.symm h.vg)
  have k3 := k2.set 2 v2
  have hl : vs.length = s.st.length := by have := h.vo.1; omega
  refine ⟨⟨by simpa using k3, ?_, own_touched h.to t2 (fun e he hm => ?_), fun i v hv => ?_, hvg, h.tg, ?_⟩, t2.mono (fun i _ hi => ?_), fun b hb => ?_⟩
  · rw [List.length_append]
    exact ownsRow_setCell_other own2 hvg _
  · rcases List.mem_cons.1 hm with h1 | h1
    · exact h.tg (h1 ▸ he)
    · have h1 : vv.ownBlock = some e := by simpa using h1
      rcases h.vt with h2 | h2
      · rw [h2] at h1; cases h1
      · exact h2 (h1.trans he.symm)
  · rw [List.getElem?_append] at hv
    by_cases hi : i < vs.length
    · rw [if_pos hi] at hv
      have : (s.st ++ [none])[i]?.getD none = s.st[i]?.getD none := by rw [List.getElem?_append_left (by omega)]
      show VE _ E v ((s.st ++ [none])[i]?.getD none)
      rw [this]
      refine (h.el i v hv).touch t2 (fun b hb hm => hE b hb ?_)
      simp only [rblocks, List.mem_cons, List.mem_append] at hm ⊢
      rcases hm with h1 | h1
      · exact .inl h1
      · exact .inr (.inl h1)
    · rw [if_neg hi] at hv
      have hi0 : i - vs.length = 0 := by
        rcases Nat.eq_zero_or_pos (i - vs.length) with h0 | h0
        · exact h0
        · rw [List.getElem?_eq_none (by simp; omega)] at hv; cases hv
      rw [hi0] at hv
      injection hv with hv
      have : (s.st ++ [none])[i]?.getD none = none := by rw [List.getElem?_append_right (by omega), show i - s.st.length = 0 by omega]; rfl
      show VE _ E v ((s.st ++ [none])[i]?.getD none)
      rw [this]
      exact hv.symm
  · refine Classical.or_iff_not_imp_left.2 fun hn e => ?_
    obtain ⟨x, hx⟩ := Option.ne_none_iff_exists'.1 hn
    rcases hv x hx with h1 | h1
    · rcases h.vt with h2 | h2
      · rw [h2] at h1; cases h1
      · exact h2 (h1.trans (hx.symm.trans e))
    · have := htl x (e ▸ hx); omega
  · simp only [rblocks, List.mem_cons, List.mem_append] at hi ⊢
    rcases hi with h1 | h1
    · exact .inl h1
    · exact .inr (.inl h1)
  · simp only [rblocks, List.mem_cons, List.mem_append, Option.mem_toList] at hb ⊢
    rcases hb with h1 | h1 | h1
    · exact .inl (.inl h1)
    · rcases hv b h1 with h2 | h2
      · exact .inl (.inr (.inl h2))
      · exact .inr h2
    · exact .inl (.inr (.inr h1))
theorem rat_at {s' : SSt} {E' : List Nat} (h : RRaw w' g s' vv tv vs E') (hf : SFit s') (hlE : ∀ b ∈ E', b < w'.heap.size) (hd : ∀ b ∈ rblocks g vv tv, b ∉ E') : RAt w' g (rblocks g vv tv) E' s' := by
  refine ⟨hf, fun b hx => ?_, hlE, hd, vv, tv, vs, h, fun _ h => h⟩
  simp only [rblocks, List.mem_cons, List.mem_append, Option.mem_toList] at hx
  rcases hx with hx | hx | hx
  · rw [hx]; exact h.blk.lt
  · exact (h.vo.lt b hx).2
  · exact (h.to.lt b hx).2
/-- What stands in blocks that are known. -/
theorem rat_mk {s' : SSt} {E' : List Nat} (h : RRaw w' g s' vv tv vs E') (hf : SFit s') (ht : Touch w w' O) (hb : ∀ b ∈ rblocks g vv tv, b ∈ O ∨ w.heap.size ≤ b) (hE : ∀ b ∈ E', b ∈ E ∨ w.heap.size ≤ b) (hlE : ∀ b ∈ E', b < w'.heap.size) (hd : ∀ b ∈ rblocks g vv tv, b ∉ E') : RDid w g O E s' w' :=
  ⟨rblocks g vv tv, E', rat_at h hf hlE hd, ht, hb, hE⟩
set_option maxHeartbeats 400000 in
theorem rfree_no (h : RAt w g O E s) (n : Int) (hh : hasI s.st n = false) : Calls Tryd.prog 18 #[rptr g, .int .i64 n] w fun e w' => e = .returned (.int .i64 6) ∧ w' = w := by
  have RH := hid (h.has n)
  rw [hh] at RH
  clear h
  go_enter Tryd.func18, Tryd.ntmps18
  go_wp2_with fail
  refine RH.out.mono ?_
  rintro e w1 ⟨rfl, rfl⟩
  go_wp2
  go_ret
  exact ⟨rfl, rfl⟩
set_option maxHeartbeats 1000000 in
theorem rfree_ok (h : RAt w g O E s) (n : Nat) (hh : has s.st n = true) : Calls Tryd.prog 18 #[rptr g, .int .i64 (n : Int)] w fun e w' => e = .returned (.int .i64 0) ∧ RDid w g O E { s with st := freeS s.st n } w' := by
  have RH := hid (h.has (n : Int))
  rw [hasI_nat, hh] at RH
  obtain ⟨vv, tv, vs, hr, hb⟩ := h.raw
  have hn := has_lt hh
  obtain ⟨vb, c, v, rfl, _, hc, _⟩ := hr.place hn
  have c2 := hr.blk.cell 2
  simp at c2
  have hfz := hr.vo.frozenAt n
  have hvb : vb ∈ O := hb vb (by simp [rblocks, Value.ownBlock])
  have hnl : (n : Int) < (s.st.length : Int) := by omega
  have HE := hid (rset hr (p := n) (u := .slice none 0 0) (o := none) (E' := E) rfl hn (fun _ h => h) (fun b hE e => h.oe vb hvb (e ▸ hE)) rfl)
  have HH := hid h
  have HB := hid hb
  have HF : Hid (SFit { s with st := freeS s.st n }) := hid ⟨h.fit.dim, h.fit.room, fitted_free h.fit.fit, by have h1 := cnt_free hh; have h2 := h.fit.cnt; simp only; omega, by simp only; rw [free_len]; exact h.fit.wide, h.fit.tr⟩
  clear h hr hb hh hn hvb
  go_enter Tryd.func18, Tryd.ntmps18
  go_wp2_with fail
  refine RH.out.mono ?_
  rintro e w1 ⟨rfl, rfl⟩
  go_wp2
  go_ret
  obtain ⟨h1, h2⟩ := HE.out
  exact ⟨rfl, rat_mk h1 HF.out (h2.mono (fun i _ hi => HB.out i hi)) (fun b hx => .inl (HB.out b hx)) (fun b hx => .inl hx) (fun b hx => by simp; exact HH.out.le b hx) (fun b hx => HH.out.oe b (HB.out b hx))⟩
set_option maxHeartbeats 400000 in
theorem rget_no (h : RAt w g O E s) (n : Int) (hh : hasI s.st n = false) : Calls Tryd.prog 15 #[rptr g, .int .i64 n] w fun e w' => e = .returned (.tuple #[.slice none 0 0, .int .i64 6]) ∧ w' = w := by
  have RH := hid (h.has n)
  rw [hh] at RH
  clear h
  go_enter Tryd.func15, Tryd.ntmps15
  go_wp2_with fail
  refine RH.out.mono ?_
  rintro e w1 ⟨rfl, rfl⟩
  go_wp2
  go_ret2
  exact ⟨rfl, rfl⟩
def RGot (w : World) (g : Nat) (O E : List Nat) (s : SSt) (v : List Int) (e : Ending) (w' : World) : Prop :=
  ∃ A m c O', e = .returned (.tuple #[.slice A m c, .int .i64 0]) ∧ Hid (v.length = m) ∧ w'.ownsRow w.heap.size 39 1 (.slice A m c) m (IK .i16 v) ∧ RAt w' g O' E s ∧ Touch w w' O ∧ ∀ b ∈ O', b ∈ O ∨ w.heap.size ≤ b
set_option maxHeartbeats 2000000 in
theorem rget_ok (h : RAt w g O E s) (n : Nat) (v : List Int) (hv : s.st[n]? = some (some v)) (htr : s.tr.length < 1000000) : Calls Tryd.prog 15 #[rptr g, .int .i64 (n : Int)] w (RGot w g O E { s with tr := s.tr ++ [(n : Int)] } v) := by
  have RH := hid (h.has (n : Int))
  rw [hasI_nat, has_of hv] at RH
  obtain ⟨vv, tv, vs, hr, hb⟩ := h.raw
  have hn : n < s.st.length := (List.getElem?_eq_some_iff.1 hv).1
  have hn9 : n ≤ 16777216 := by have := h.fit.wide; have := h.fit.room; omega
  have hvl : v.length = s.dim := h.fit.fit v (List.mem_of_getElem? hv)
  have hdim := h.fit.dim
  have hv9 : v.length ≤ 1024 := by omega
  clear hvl hdim
  obtain ⟨i0, hi, hz0, hz1, hz2⟩ := info_parts info64
  obtain ⟨j0, ji, jz0, jz1, jz2⟩ := info_parts info16
  obtain ⟨AT, cT, rfl, _, _⟩ := own_shape' hr.to
  obtain ⟨vb, cV, u0, rfl, _, _, _⟩ := hr.place hn
  have HR := hid hr
  have HB := hid hb
  have HH := hid h
  have HV := hid (show s.st[n]?.getD none = some v by rw [hv]; rfl)
  have c3 := hr.blk.cell 3
  simp at c3
  have RN := hid (row_one w 3 (.int .i64 (n : Int)))
  have HGL := hr.blk.lt
  have hnl : (n : Int) < (s.st.length : Int) := by omega
  have HD := hid (show ∀ b ∈ E, b ∉ rblocks g (.slice (some ⟨vb, 0, none⟩) s.st.length cV) (.slice AT s.tr.length cT) from fun b hx hm => h.oe b (hb b hm) hx)
  have HVL := hid (show ∀ e, (Value.slice (some ⟨vb, 0, none⟩) s.st.length cV).ownBlock = some e → e < w.heap.size from fun e he => (hr.vo.lt e he).2)
  have HF : Hid (SFit { s with tr := s.tr ++ [(n : Int)] }) := hid ⟨h.fit.dim, h.fit.room, h.fit.fit, h.fit.cnt, h.fit.wide, by rw [List.length_append]; simp; omega⟩
  clear h hr hb hv
  go_enter Tryd.func15, Tryd.ntmps15
  go_wp2_with fail
  refine RH.out.mono ?_
  rintro e w1 ⟨rfl, rfl⟩
  go_wp2_with (first
    | (at_builtin; refine wpList_append_row _ rfl _ _ 45 rfl 0 3 i0 (.int .i64 0) 8 Tryd.underlying45 hi hz0 hz1 hz2 rfl (.slice AT s.tr.length cT) s.tr.length (IK .i64 s.tr) rfl (HR.out.to.alloc _) w1.heap.size (w1.heap.size + 1) (some ⟨w1.heap.size, 0, none⟩) 1 1 rfl (fun e => by cases e) [.int .i64 (n : Int)] RN.out (by intro u hu; simp at hu; subst hu; rfl) (by unfold maxLen; omega) (by omega) (by simp) ?_; intro v2 w2 own2 grow2 at2; obtain ⟨R3, T3, B3⟩ := rtraced HR.out HD.out HVL.out own2 grow2 at2; have k2 := (HR.out.blk.alloc (.cells #[.int .i64 (n : Int)] 3)).grown grow2 (Ne.symm HR.out.tg); have f3 := k2.frozen 3; have c3' := k2.cell 3; obtain ⟨A2, c2, rfl, _, _⟩ := own_shape' own2; have HR3 := hid R3; have HT3 := hid T3; have HB3 := hid B3; have q2 := (R3.blk.alloc (.cells #[] 39)).cell 2; obtain ⟨vb2, cV2, u2, hvv2, _, hcu, hve⟩ := R3.place hn; injection hvv2 with hv1 _ hv3; injection hv1 with hv1; injection hv1 with hv1; subst hv1; rw [HV.out] at hve; obtain ⟨b9, c9, rfl, row9, hE9⟩ := hve; have qu := (((Below.refl _ (w2.setCell ⟨g, 3, none⟩ (.slice A2 (s.tr.length + 1) c2))).alloc (Nat.le_refl _) (.cells #[] 39)).cell (p := ⟨vb, n, none⟩) (World.block_lt_of_cell? _ _ hcu)).trans hcu; have R9 := hid ((Row.of_own row9).alloc (Nat.le_refl _) (.cells #[] 39)); have S3 := hid T3.size; have MD := hid (made_at (base := w1.heap.size) 39 (set_size w2 ⟨g, 3, none⟩ (.slice A2 (s.tr.length + 1) c2)) (by have := T3.size; rwa [set_size] at this)); clear R3 T3 B3 own2 grow2 at2 k2 hcu row9)
    | (at_builtin; refine wpList_append_row _ rfl _ _ 32 rfl w1.heap.size 39 j0 (.int .i16 0) 2 Tryd.underlying32 ji jz0 jz1 jz2 rfl (.slice (some ⟨w2.heap.size, 0, none⟩) 0 0) 0 [] rfl MD.out 0 _ (some ⟨b9, 0, none⟩) v.length c9 rfl (fun e => by cases e) (IK .i16 v) R9.out (IK_one _ v) (by unfold maxLen; omega) (by omega) (Nat.le_trans S3.out (by simp)) ?_; intro v5 w5 own5 grow5 at5))
  rw [Nat.zero_add, List.nil_append] at own5
  obtain ⟨A5, c5, rfl, _, _⟩ := own_shape' own5
  go_ret2
  have RA := rat_at HR3.out HF.out (fun b hx => Nat.lt_of_lt_of_le (HH.out.le b hx) S3.out) (fun b hx hy => by
    rcases HB3.out b hx with h | h
    · exact HD.out b hy h
    · have := HH.out.le b hy; omega)
  have hb5 : Below (w2.setCell ⟨g, 3, none⟩ (.slice A2 (s.tr.length + 1) c2)).heap.size (w2.setCell ⟨g, 3, none⟩ (.slice A2 (s.tr.length + 1) c2)) w5 := ((Below.refl _ _).alloc (Nat.le_refl _) _).grown grow5 (by simp) (by intro k hk; simp [Value.ownBlock] at hk; rw [set_size]; omega)
  exact ⟨A5, v.length, c5, _, rfl, hid rfl, own5, RA.below hb5, (HT3.out.mono (fun i _ hi => HB.out i hi)).then (touch_below hb5 O) (fun _ _ h => h), fun b hx => (HB3.out b hx).imp (HB.out b) id⟩
end
end Go.Proofs.YtamglgampeoepaaDoor
