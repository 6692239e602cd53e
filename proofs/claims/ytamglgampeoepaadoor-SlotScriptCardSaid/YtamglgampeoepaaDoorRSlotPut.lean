/-
  The document's slots: contract of Put.
-/
import Derived.Test.YtamglgampeoepaaDoorRSlotOps
namespace Go.Proofs.YtamglgampeoepaaDoor
set_option maxRecDepth 40000
open Go.RowKit Go.Joins

theorem cell_of_row5 {w : World} {e : TypeId} {vb n c k : Nat} {xs : List Value} (h : w.ownsRow 0 e 1 (.slice (some ⟨vb, 0, none⟩) n c) n xs) (hk : k < n) : ∃ u, w.cell? ⟨vb, k, none⟩ = some u := by
  have hl : xs.length = n := by have := h.1; omega
  have := h.cells (g := vb) rfl k _ (List.getElem?_eq_getElem (by omega))
  rw [addr_add, Nat.zero_add] at this
  exact ⟨_, this⟩
theorem un_drew9 {B : Nat} {a b : World} (h : Below B a b) : Below B a b.drew := ⟨h.os, h.tape, h.output, h.size, h.block⟩
section
variable {w w' : World} {g : Nat} {O E G : List Nat} {s : SSt} {vv tv : Value} {vs : List Value}
set_option maxHeartbeats 400000 in
theorem rput_bad (h : RAt w g O E s) (A : Option Addr) (m c : Nat) (hb : chk m (s.dim : Int) = 2) : Calls Tryd.prog 13 #[rptr g, .slice A m c] w fun e w' => e = .returned (.tuple #[.int .i64 0, .int .i64 2]) ∧ w' = w := by
  obtain ⟨vv, tv, vs, hr, _⟩ := h.raw
  have CK := hid (rcheck_any A m c (s.dim : Int) w)
  rw [hb] at CK
  have c0 := hr.blk.cell 0
  simp at c0
  clear h hr hb
  go_enter Tryd.func13, Tryd.ntmps13
  go_wp2_with fail
  refine CK.out.mono ?_
  rintro e w1 ⟨rfl, rfl⟩
  go_wp2
  go_ret2
  exact ⟨rfl, rfl⟩
set_option maxHeartbeats 1000000 in
/-- No slot is free. -/
theorem rput_full (h : RAt w g O E s) (A : Option Addr) (m c : Nat) (hb : chk m (s.dim : Int) = 0) (hfull : cnt s.st = s.room) : Calls Tryd.prog 13 #[rptr g, .slice A m c] w fun e w' => e = .returned (.tuple #[.int .i64 0, .int .i64 7]) ∧ w' = w := by
  obtain ⟨vv, tv, vs, hr, _⟩ := h.raw
  have CK := hid (rcheck_any A m c (s.dim : Int) w)
  rw [hb] at CK
  have c0 := hr.blk.cell 0
  have c1 := hr.blk.cell 1
  have c2 := hr.blk.cell 2
  simp at c0 c1 c2
  have hcl : cnt s.st ≤ s.st.length := List.countP_le_length
  have hlr : s.st.length ≤ s.room := h.fit.wide
  have hlen : s.room = s.st.length := by omega
  have HALL := hid (show ∀ j, j < s.st.length → has s.st j = true from fun j hj => by
    have h1 : s.st.countP (·.isSome) = s.st.length := by have : cnt s.st = s.st.countP (·.isSome) := rfl; omega
    have h2 := List.countP_eq_length.1 h1 _ (List.getElem_mem hj)
    unfold has
    rw [List.getElem?_eq_getElem hj]
    exact h2)
  rw [hlen] at c1
  have hr9 : s.st.length ≤ 16777216 := by have := h.fit.room; omega
  obtain ⟨AV, cV, rfl, _, _⟩ := own_shape' hr.vo
  have HR := hid hr
  clear h hr hb hfull hcl hlr hlen
  go_enter Tryd.func13, Tryd.ntmps13
  go_wp2_with fail
  refine CK.out.mono ?_
  rintro e w1 ⟨rfl, rfl⟩
  go_wp2
  go_loopw [7] (fun k wr => ∃ j : Nat, j ≤ s.st.length ∧ k = .int .i64 (j : Int) ∧ w = wr) (fun k _ => s.st.length - (intOf k).toNat)
  case atStart => exact ⟨0, Nat.zero_le _, rfl, rfl⟩
  case round =>
    obtain ⟨j, hj, rfl, hw⟩ := hrel
    subst hw
    by_cases hlt : j < s.st.length
    · obtain ⟨vb, c', v, hA, _, hc, hv⟩ := HR.out.place hlt
      injection hA with hA _ hcc
      subst hA hcc
      obtain ⟨l, hl⟩ := has_some (HALL.out j hlt)
      rw [hl] at hv
      obtain ⟨b9, c9, rfl, _, _⟩ := hv
      have nn := nil_some w b9 l.length c9
      clear hl
      go_wp2
      exact ⟨⟨j + 1, hlt, by go_num, by trivial⟩, by simp [intOf]; omega⟩
    · obtain rfl : j = s.st.length := by omega
      go_wp2
      go_ret2
      exact ⟨rfl, rfl⟩
theorem rput_end {W w5 : World} {s1 : SSt} {vb cV c5 n L : Nat} {A5 : Option Addr} {v : List Int} {vs1 : List Value} (h0 : RAt w g O E s) (TW : Touch w W O) (hL : s1.st.length = L) (HW : RRaw W g s1 (.slice (some ⟨vb, 0, none⟩) L cV) tv vs1 E) (BW : ∀ b ∈ rblocks g (.slice (some ⟨vb, 0, none⟩) L cV) tv, b ∈ O ∨ w.heap.size ≤ b)
    (hnl : n < L) (hs : { s1 with st := s1.st.set n (some v) } = { s with st := putS s.st n v }) (hf : SFit { s with st := putS s.st n v }) (hv : v.length = s.dim) (hd : 1 ≤ s.dim) (hb5 : Below W.heap.size W w5) (own5 : w5.ownsRow W.heap.size 39 1 (.slice A5 s.dim c5) s.dim (IK .i16 v)) :
    RDid w g O E { s with st := putS s.st n v } (w5.setCell ⟨vb, n, none⟩ (.slice A5 s.dim c5))   := by
  subst hL
  obtain ⟨b5, rfl, hlo5, hlt5⟩ : ∃ b5, A5 = some ⟨b5, 0, none⟩ ∧ W.heap.size ≤ b5 ∧ b5 < w5.heap.size := by
    rcases own5.2 with ⟨hv, h0⟩ | ⟨b, cap, cur, hv, hb, hg, _⟩
    · omega
    · injection hv with hA
      exact ⟨b, hA, hb, (Array.getElem?_eq_some_iff.1 hg).1⟩
  have hltW : ∀ b ∈ rblocks g (.slice (some ⟨vb, 0, none⟩) s1.st.length cV) tv, b < W.heap.size := fun b hx => by
    simp only [rblocks, List.mem_cons, List.mem_append, Option.mem_toList] at hx
    rcases hx with hx | hx | hx
    · rw [hx]; exact HW.blk.lt
    · exact (HW.vo.lt b hx).2
    · exact (HW.to.lt b hx).2
  have hvb : vb < W.heap.size := hltW vb (by simp [rblocks, Value.ownBlock])
  have hEl : ∀ b ∈ E, b < W.heap.size := fun b hx => Nat.lt_of_lt_of_le (h0.le b hx) TW.size
  have hdis : ∀ b ∈ rblocks g (.slice (some ⟨vb, 0, none⟩) s1.st.length cV) tv, b ∉ E := fun b hx hy => by
    rcases BW b hx with h | h
    · exact h0.oe b h hy
    · have := h0.le b hy; omega
  have HW5 := HW.touch (touch_below hb5 []) (fun _ _ h => by cases h) (fun _ _ h => by cases h)
  have T5 : Touch w5 (w5.setCell ⟨vb, n, none⟩ (.slice (some ⟨b5, 0, none⟩) s.dim c5)) [vb] := touch_set (List.mem_singleton.2 rfl)
  obtain ⟨R, T⟩ := rset HW5 (p := n) (u := .slice (some ⟨b5, 0, none⟩) s.dim c5) (o := some v) (E' := b5 :: E) rfl hnl (fun b hb => List.mem_cons_of_mem _ hb) (fun b hb e => hdis vb (by simp [rblocks, Value.ownBlock]) (e ▸ hb)) ⟨b5, c5, by rw [hv], by
    have h := own_touched (own_lows9 own5 (Nat.zero_le _)) T5 (fun e he hm => by
      injection he with he
      have he2 : b5 = e := he
      have := List.mem_singleton.1 hm
      omega)
    rw [hv]
    exact h, List.mem_cons_self⟩
  rw [hs] at R
  refine rat_mk R hf ((TW.then (touch_below hb5 O) (fun _ _ h => h)).then T (fun i hi hm => ?_)) BW (fun b hb => ?_) (fun b hb => ?_) (fun b hb hy => ?_)
  · rcases BW i hm with h | h
    · exact h
    · omega
  · rcases List.mem_cons.1 hb with e | h
    · right; rw [e]; exact Nat.le_trans TW.size hlo5
    · exact .inl h
  · rw [set_size]
    rcases List.mem_cons.1 hb with e | h
    · rw [e]; exact hlt5
    · exact Nat.lt_of_lt_of_le (hEl b h) hb5.size
  · rcases List.mem_cons.1 hy with e | h
    · have := hltW b hb; omega
    · exact hdis b hb h
set_option maxHeartbeats 1000000 in
theorem rput_ok (h : RAt w g O E s) (A : Option Addr) (c lo hi : Nat) (v : List Int) (hR : Row w lo hi A s.dim (IK .i16 v)) (hhi : hi ≤ w.heap.size) (hA : A = none → c = 0) (hlo : ∀ b ∈ O, b < lo ∨ hi ≤ b) (hroom : cnt s.st < s.room) {n : Nat} (hn : Low s.st n) :
    Calls Tryd.prog 13 #[rptr g, .slice A s.dim c] w fun e w' => e = .returned (.tuple #[.int .i64 (n : Int), .int .i64 0]) ∧ RDid w g O E { s with st := putS s.st n v } w' := by
  obtain ⟨vv, tv, vs, hr, hb⟩ := h.raw
  have hd := h.fit.dim
  have CK := hid (rcheck_any A s.dim c (s.dim : Int) w)
  rw [show chk s.dim (s.dim : Int) = 0 by unfold chk; rw [if_pos (by omega)]] at CK
  obtain ⟨i0, hi0, hz0, hz1, hz2⟩ := info_parts infoS
  obtain ⟨j0, ji, jz0, jz1, jz2⟩ := info_parts info16
  have c0 := hr.blk.cell 0
  have c1 := hr.blk.cell 1
  have c2 := hr.blk.cell 2
  simp at c0 c1 c2
  obtain ⟨AV, cV, rfl, _, _⟩ := own_shape' hr.vo
  have hnc := hn.cnt_le
  have hnl := hn.le
  have hnr : (n : Int) < (s.room : Int) := by omega
  have hl9 : s.st.length ≤ 16777216 := by have := h.fit.wide; have := h.fit.room; omega
  have HN := hid hn
  have HR := hid hr
  have HB := hid hb
  have HH := hid h
  have HRV := hid hR
  have HVL := hid (show v.length = s.dim by have := hR.len; rwa [IK_len] at this)
  have HFP : Hid (SFit { s with st := putS s.st n v }) := hid ⟨h.fit.dim, h.fit.room, fitted_put h.fit.fit HVL.out, by show cnt (putS s.st n v) ≤ s.room; rw [cnt_put hn.1]; omega, by show (putS s.st n v).length ≤ s.room; rw [put_len hn.le]; have := h.fit.wide; omega, h.fit.tr⟩
  clear h hr hb hn hR
  go_enter Tryd.func13, Tryd.ntmps13
  go_wp2_with fail
  refine CK.out.mono ?_
  rintro e w1 ⟨rfl, rfl⟩
  go_wp2
  go_loopw [7] (fun k wr => ∃ j : Nat, j ≤ n ∧ k = .int .i64 (j : Int) ∧ w = wr) (fun k _ => n - (intOf k).toNat)
  case atStart => exact ⟨0, Nat.zero_le _, rfl, rfl⟩
  case round =>
    obtain ⟨j, hj, rfl, hw⟩ := hrel
    subst hw
    by_cases hlt : j < n
    · obtain ⟨vb, c', u, hA9, _, hc, hv⟩ := HR.out.place (i := j) (by omega)
      injection hA9 with hA9 _ hcc
      subst hA9 hcc
      obtain ⟨l, hl⟩ := has_some (HN.out.2 j hlt)
      rw [hl] at hv
      obtain ⟨b9, c9, rfl, _, _⟩ := hv
      have nn := nil_some w b9 l.length c9
      have hjl : (j : Int) < (s.st.length : Int) := by omega
      clear hl
      go_wp2
      exact ⟨⟨j + 1, hlt, by go_num, by trivial⟩, by simp [intOf]; omega⟩
    · obtain rfl : n = j := by omega
      by_cases hnn : n < s.st.length
      · obtain ⟨vb, c', u, hA9, _, hc, hv⟩ := HR.out.place hnn
        injection hA9 with hA9 _ hcc
        subst hA9 hcc
        have hz : s.st[n]?.getD none = none := by rw [has_none HN.out.1 hnn]; rfl
        rw [hz] at hv
        obtain rfl : u = .slice none 0 0 := hv
        have nn := nil_nil w
        have hnl2 : (n : Int) < (s.st.length : Int) := by omega
        have hne : ((n : Int) == (s.st.length : Int)) = false := by simp; omega
        clear hz
        go_wp2
        have HTW := hid (Touch.refl w O)
        have HW := hid HR.out
        have hnL2 : n < s.st.length := hnn
        have o1 : 0 + s.dim ≤ maxLen := by unfold maxLen; omega
        have o2 : (0 + s.dim) * 2 ≤ 140737488355328 := by omega
        have o3 : w.heap.size ≤ (w.alloc (.cells #[] 39)).drew.heap.size := by show w.heap.size ≤ (w.alloc (.cells #[] 39)).heap.size; simp
        have HBW := hid (show ∀ b ∈ rblocks g (.slice (some ⟨vb, 0, none⟩) s.st.length cV) tv, b ∈ O ∨ w.heap.size ≤ b from fun b hx => .inl (HB.out b hx))
        have HPS : Hid ({ s with st := s.st.set n (some v) } = { s with st := putS s.st n v }) := hid (by unfold putS; rw [if_pos hnn])
        have HVO := hid HW.out.vo
        have c2W := HW.out.blk.cell 2
        simp at c2W
        have hgW := HW.out.blk.lt
        have MD := hid (made_at (W := w) (base := w.heap.size) 39 rfl (Nat.le_refl _))
        have RVW := hid ((HRV.out.touch HTW.out hhi hlo).alloc (Nat.le_trans hhi HTW.out.size) (.cells #[] 39))
        have HSW := hid HTW.out.size
        go_region_held3 (fun W' => W'.cell? ⟨g, 2, none⟩ = some (.slice (some ⟨vb, 0, none⟩) s.st.length cV))
          (first | exact c2W | exact (World.cell?_alloc_lt _ _ _ hgW).trans c2W | exact q5 | exact q6)
          (first
            | (refine step_append_row _ rfl (.tmp 63) (.tmp 64) 32 rfl w.heap.size 39 j0 (.int .i16 0) 2 Tryd.underlying32 ji jz0 jz1 jz2 rfl (.slice (some ⟨w.heap.size, 0, none⟩) 0 0) 0 [] rfl (by exact MD.out) lo hi A s.dim c rfl hA (IK .i16 v) (by exact RVW.out) (IK_one _ v) o1 o2 o3 ?_; intro v5 w5 own5 grow5 at5; rw [Nat.zero_add, List.nil_append] at own5; obtain ⟨A5, c5, rfl, _, _⟩ := own_shape' own5; have k5 := (Blk.grown (w := (w.alloc (.cells #[] 39)).drew) ((HW.out.blk.alloc (.cells #[] 39)).drewN 1) grow5 (by intro e; injection e with e; exact Nat.ne_of_lt hgW e)); have q5 := k5.cell 2; simp at q5; have k6 := k5.far (p := ⟨vb, n, none⟩) (fun e => HW.out.vg (by rw [e]; rfl)) (.slice A5 s.dim c5); have q6 := k6.cell 2; simp at q6; have vo5 := World.ownsRow.kept (w := (w.alloc (.cells #[] 39)).drew) (HVO.out.alloc (.cells #[] 39)) grow5 (.inr (by intro e; injection e with e; exact Nat.ne_of_lt (HVO.out.lt vb rfl).2 e)); obtain ⟨u5, hc5⟩ := cell_of_row5 vo5 hnL2; have hf5 := vo5.frozenAt n))
        have hb5 : Below w.heap.size w w5 := (un_drew9 (((Below.refl _ _).alloc (Nat.le_refl _) (.cells #[] 39)))).grown grow5 (by show w.heap.size ≤ (w.alloc (.cells #[] 39)).heap.size; simp) (by intro k hk; injection hk with hk; exact Nat.le_of_eq hk)
        go_wp2
        go_ret2
        exact ⟨rfl, rput_end HH.out HTW.out rfl HW.out HBW.out hnL2 HPS.out HFP.out HVL.out hd.1 hb5 own5⟩
      · have hne : n = s.st.length := by omega
        subst hne
        have RN := hid (row_one w 32 (.slice none 0 0))
        have HD := hid (show ∀ b ∈ E, b ∉ rblocks g (.slice AV s.st.length cV) tv from fun b hx hm => HH.out.oe b (HB.out b hm) hx)
        have HTL := hid (show ∀ e, tv.ownBlock = some e → e < w.heap.size from fun e he => (HR.out.to.lt e he).2)
        go_wp2_with (at_builtin; refine wpList_append_row _ rfl _ _ 44 rfl 0 32 i0 (.slice none 0 0) 24 Tryd.underlying44 hi0 hz0 hz1 hz2 rfl (.slice AV s.st.length cV) s.st.length vs rfl (HR.out.vo.alloc _) w.heap.size (w.heap.size + 1) (some ⟨w.heap.size, 0, none⟩) 1 1 rfl (fun e => by cases e) [.slice none 0 0] RN.out (by intro u hu; simp at hu; subst hu; rfl) (by unfold maxLen; omega) (by omega) (by simp) ?_; intro v2 w2 own2 grow2 at2; obtain ⟨R3, T3, B3⟩ := rwidened HR.out HD.out HTL.out own2 grow2 at2; have k2 := (HR.out.blk.alloc (.cells #[.slice none 0 0] 32)).grown grow2 (Ne.symm HR.out.vg); have f2' := k2.frozen 2; have c2' := k2.cell 2; obtain ⟨A2, cV2, rfl, _, _⟩ := own_shape' own2; have HR3 := hid R3; have HT3 := hid T3; have HB3 := hid B3; clear R3 T3 B3 own2 grow2 at2 k2)
        obtain ⟨W, hW⟩ : ∃ W, W = w2.setCell ⟨g, 2, none⟩ (.slice A2 (s.st.length + 1) cV2) := ⟨_, rfl⟩
        rw [← hW] at HR3 HT3 ⊢
        have HO3 : Hid (W.ownsRow 0 32 1 (.slice A2 (s.st.length + 1) cV2) (s.st.length + 1) (vs ++ [.slice none 0 0])) := hid (by have h := HR3.out.vo; rw [List.length_append] at h; exact h)
        obtain ⟨vb, rfl⟩ : ∃ vb, A2 = some ⟨vb, 0, none⟩ := by
          rcases HO3.out.2 with ⟨hv, h0⟩ | ⟨b, cap, cur, hv, _⟩
          · omega
          · injection hv with hA
            exact ⟨b, hA⟩
        have HVO := hid HO3.out
        have HW := hid HR3.out
        have HTW : Hid (Touch w W O) := hid (HT3.out.mono (fun i _ hi => HB.out i hi))
        have HBW := hid (show ∀ b ∈ rblocks g (.slice (some ⟨vb, 0, none⟩) (s.st.length + 1) cV2) tv, b ∈ O ∨ w.heap.size ≤ b from fun b hx => (HB3.out b hx).imp (HB.out b) id)
        have HPS : Hid ({ ({ s with st := s.st ++ [none] } : SSt) with st := (s.st ++ [none]).set s.st.length (some v) } = { s with st := putS s.st s.st.length v }) := hid (by unfold putS; rw [if_neg (Nat.lt_irrefl _)]; simp)
        have hnL2 : s.st.length < s.st.length + 1 := Nat.lt_succ_self _
        have hnl3 : (s.st.length : Int) < ((s.st.length + 1 : Nat) : Int) := by omega
        have o1 : 0 + s.dim ≤ maxLen := by unfold maxLen; omega
        have o2 : (0 + s.dim) * 2 ≤ 140737488355328 := by omega
        have o3 : W.heap.size ≤ (W.alloc (.cells #[] 39)).drew.heap.size := by show W.heap.size ≤ (W.alloc (.cells #[] 39)).heap.size; simp
        have hnl4 : (s.st.length : Int) < (s.st.length : Int) + 1 := by omega
        clear hW f2' c2' HR3 HO3 HT3 HB3
        have c2W := HW.out.blk.cell 2
        simp at c2W
        have hgW := HW.out.blk.lt
        have MD := hid (made_at (W := W) (base := W.heap.size) 39 rfl (Nat.le_refl _))
        have RVW := hid ((HRV.out.touch HTW.out hhi hlo).alloc (Nat.le_trans hhi HTW.out.size) (.cells #[] 39))
        have HSW := hid HTW.out.size
        go_region_held3 (fun W' => W'.cell? ⟨g, 2, none⟩ = some (.slice (some ⟨vb, 0, none⟩) (s.st.length + 1) cV2))
          (first | exact c2W | exact (World.cell?_alloc_lt _ _ _ hgW).trans c2W | exact q5 | exact q6)
          (first
            | (refine step_append_row _ rfl (.tmp 63) (.tmp 64) 32 rfl W.heap.size 39 j0 (.int .i16 0) 2 Tryd.underlying32 ji jz0 jz1 jz2 rfl (.slice (some ⟨W.heap.size, 0, none⟩) 0 0) 0 [] rfl (by exact MD.out) lo hi A s.dim c rfl hA (IK .i16 v) (by exact RVW.out) (IK_one _ v) o1 o2 o3 ?_; intro v5 w5 own5 grow5 at5; rw [Nat.zero_add, List.nil_append] at own5; obtain ⟨A5, c5, rfl, _, _⟩ := own_shape' own5; have k5 := (Blk.grown (w := (W.alloc (.cells #[] 39)).drew) ((HW.out.blk.alloc (.cells #[] 39)).drewN 1) grow5 (by intro e; injection e with e; exact Nat.ne_of_lt hgW e)); have q5 := k5.cell 2; simp at q5; have k6 := k5.far (p := ⟨vb, s.st.length, none⟩) (fun e => HW.out.vg (by rw [e]; rfl)) (.slice A5 s.dim c5); have q6 := k6.cell 2; simp at q6; have vo5 := World.ownsRow.kept (w := (W.alloc (.cells #[] 39)).drew) (HVO.out.alloc (.cells #[] 39)) grow5 (.inr (by intro e; injection e with e; exact Nat.ne_of_lt (HVO.out.lt vb rfl).2 e)); obtain ⟨u5, hc5⟩ := cell_of_row5 vo5 hnL2; have hf5 := vo5.frozenAt s.st.length))
        have hb5 : Below W.heap.size W w5 := (un_drew9 (((Below.refl _ _).alloc (Nat.le_refl _) (.cells #[] 39)))).grown grow5 (by show W.heap.size ≤ (W.alloc (.cells #[] 39)).heap.size; simp) (by intro k hk; injection hk with hk; exact Nat.le_of_eq hk)
        go_wp2
        go_ret2
        exact ⟨rfl, rput_end HH.out HTW.out (by simp) HW.out HBW.out hnL2 HPS.out HFP.out HVL.out hd.1 hb5 own5⟩
end
end Go.Proofs.YtamglgampeoepaaDoor
