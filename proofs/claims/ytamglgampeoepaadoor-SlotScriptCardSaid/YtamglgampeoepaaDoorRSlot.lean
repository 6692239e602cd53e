/-
  The document's slots in memory; contracts of the calls that only read.
-/
import Derived.Test.YtamglgampeoepaaDoorSlotClone
namespace Go.Proofs.YtamglgampeoepaaDoor
set_option maxRecDepth 40000
open Go.RowKit Go.Joins

abbrev rptr (b : Nat) : Value := .pointer (some ⟨b, 0, none⟩)
theorem nil_nil (W : World) : (binOp .neq 32 (.slice none 0 0) (.slice none 0 0)).run Tryd.prog W = .ok (.bool false) W := by kernel_rfl
theorem nil_some (W : World) (b n c : Nat) : (binOp .neq 32 (.slice (some ⟨b, 0, none⟩) n c) (.slice none 0 0)).run Tryd.prog W = .ok (.bool true) W := by kernel_rfl
/-- What is kept for a slot: nothing, or its numbers, in a block of E. -/
def VE (w : World) (E : List Nat) (v : Value) : Option (List Int) → Prop
  | none => v = .slice none 0 0
  | some l => ∃ b c, v = .slice (some ⟨b, 0, none⟩) l.length c ∧ w.ownsRow 0 39 1 v l.length (IK .i16 l) ∧ b ∈ E
structure RRaw (w : World) (g : Nat) (s : SSt) (vv tv : Value) (vs : List Value) (E : List Nat) : Prop where
  blk : Blk w g 47 #[.int .i64 (s.dim : Int), .int .i64 (s.room : Int), vv, tv]
  vo : w.ownsRow 0 32 1 vv s.st.length vs
  to : w.ownsRow 0 3 1 tv s.tr.length (IK .i64 s.tr)
  el : ∀ (i : Nat) (v : Value), vs[i]? = some v → VE w E v (s.st[i]?.getD none)
  vg : vv.ownBlock ≠ some g
  tg : tv.ownBlock ≠ some g
  vt : vv.ownBlock = none ∨ vv.ownBlock ≠ tv.ownBlock
def rblocks (g : Nat) (vv tv : Value) : List Nat := g :: (vv.ownBlock.toList ++ tv.ownBlock.toList)
/-- The document's slots: what is theirs alone lies in O, the numbers in E. -/
structure RAt (w : World) (g : Nat) (O E : List Nat) (s : SSt) : Prop where
  fit : SFit s
  lo : ∀ b ∈ O, b < w.heap.size
  le : ∀ b ∈ E, b < w.heap.size
  oe : ∀ b ∈ O, b ∉ E
  raw : ∃ vv tv vs, RRaw w g s vv tv vs E ∧ ∀ b ∈ rblocks g vv tv, b ∈ O
section
variable {w w' : World} {g : Nat} {O E G : List Nat} {s : SSt} {vv tv : Value} {vs : List Value} {v : Value} {o : Option (List Int)}
theorem VE.touch (h : VE w E v o) (ht : Touch w w' G) (hE : ∀ b ∈ E, b ∉ G) : VE w' E v o := by
  cases o with
  | none => exact h
  | some l =>
    obtain ⟨b, c, rfl, h2, h3⟩ := h
    exact ⟨b, c, rfl, own_touched h2 ht (fun e he => by injection he with he; rw [← he]; exact hE b h3), h3⟩
theorem VE.more (h : VE w E v o) {E' : List Nat} (hE : ∀ b ∈ E, b ∈ E') : VE w E' v o := by
  cases o with
  | none => exact h
  | some l =>
    obtain ⟨b, c, h1, h2, h3⟩ := h
    exact ⟨b, c, h1, h2, hE b h3⟩
theorem RRaw.touch (h : RRaw w g s vv tv vs E) (ht : Touch w w' G) (hO : ∀ b ∈ rblocks g vv tv, b ∉ G) (hE : ∀ b ∈ E, b ∉ G) : RRaw w' g s vv tv vs E :=
  ⟨h.blk.touch ht (hO g (by simp [rblocks])), own_touched h.vo ht (fun b hb => hO b (by simp [rblocks, hb])), own_touched h.to ht (fun b hb => hO b (by simp [rblocks, hb])), fun i v hv => (h.el i v hv).touch ht hE, h.vg, h.tg, h.vt⟩
theorem RAt.touch (h : RAt w g O E s) (ht : Touch w w' G) (hO : ∀ b ∈ O, b ∉ G) (hE : ∀ b ∈ E, b ∉ G) : RAt w' g O E s := by
  obtain ⟨vv, tv, vs, hr, hb⟩ := h.raw
  exact ⟨h.fit, fun b hx => Nat.lt_of_lt_of_le (h.lo b hx) ht.size, fun b hx => Nat.lt_of_lt_of_le (h.le b hx) ht.size, h.oe, vv, tv, vs, hr.touch ht (fun b hx => hO b (hb b hx)) hE, hb⟩
theorem RAt.below (h : RAt w g O E s) (hb : Below w.heap.size w w') : RAt w' g O E s := h.touch (touch_below hb []) (fun _ _ h => by cases h) (fun _ _ h => by cases h)
/-- A slot's place in the row. -/
theorem RRaw.place (h : RRaw w g s vv tv vs E) {i : Nat} (hi : i < s.st.length) : ∃ vb c v, vv = .slice (some ⟨vb, 0, none⟩) s.st.length c ∧ vs[i]? = some v ∧ w.cell? ⟨vb, i, none⟩ = some v ∧ VE w E v (s.st[i]?.getD none) := by
  have hl : vs.length = s.st.length := by have := h.vo.1; omega
  obtain ⟨v, hv⟩ : ∃ v, vs[i]? = some v := ⟨vs[i]'(by omega), List.getElem?_eq_getElem _⟩
  rcases h.vo.2 with ⟨_, h0⟩ | ⟨b, cap, cur, hvv, _⟩
  · omega
  · refine ⟨b, cap, v, hvv, hv, ?_, h.el i v hv⟩
    have := h.vo.cells (g := b) (by rw [hvv]; rfl) i v hv
    rwa [addr_add, Nat.zero_add] at this
theorem req_nil (W : World) (g : Nat) : (binOp .eql 29 (rptr g) (.pointer none)).run Tryd.prog W = .ok (.bool false) W := by kernel_rfl
theorem rne_nil (W : World) (g : Nat) : (binOp .neq 29 (rptr g) (.pointer none)).run Tryd.prog W = .ok (.bool true) W := by kernel_rfl
set_option maxHeartbeats 1000000 in
theorem rhas_s (h : RRaw w g s vv tv vs E) (n : Int) : Calls Tryd.prog 27 #[rptr g, .int .i64 n] w fun e w' => e = .returned (.bool (hasI s.st n)) ∧ w' = w := by
  have c2 := h.blk.cell 2
  simp at c2
  have nn := nil_nil w
  by_cases h0 : n < 0
  · have HE := hid (hasI_neg (st := s.st) h0)
    clear h
    go_enter Tryd.func27, Tryd.ntmps27
    go_wp2
    go_ret
    exact ⟨by rw [HE.out]; rfl, rfl⟩
  · obtain ⟨m, rfl⟩ : ∃ m : Nat, n = (m : Int) := ⟨n.toNat, by omega⟩
    rw [hasI_nat]
    by_cases hm : m < s.st.length
    · obtain ⟨vb, c, v, rfl, _, hc, hv⟩ := h.place hm
      have HH : Hid (has s.st m = (s.st[m]?.getD none).isSome) := hid rfl
      revert hv HH
      generalize s.st[m]?.getD none = o
      intro hv HH
      clear h
      cases o with
      | none =>
        obtain rfl : v = .slice none 0 0 := hv
        go_enter Tryd.func27, Tryd.ntmps27
        go_wp2
        go_ret
        exact ⟨by rw [HH.out]; rfl, rfl⟩
      | some l =>
        obtain ⟨b, c', rfl, _, _⟩ := hv
        have nn2 := nil_some w b l.length c'
        go_enter Tryd.func27, Tryd.ntmps27
        go_wp2
        go_ret
        exact ⟨by rw [HH.out]; rfl, rfl⟩
    · obtain ⟨A, c, rfl, _, _⟩ := own_shape' h.vo
      have HE : Hid (has s.st m = false) := hid (by
        cases hh : has s.st m with
        | false => rfl
        | true => exact absurd (has_lt hh) hm)
      clear h
      go_enter Tryd.func27, Tryd.ntmps27
      go_wp2
      go_ret
      exact ⟨by rw [HE.out]; rfl, rfl⟩
theorem cnt_step {st : Sts} {k : Nat} (hk : k < st.length) : cnt (st.take (k + 1)) = cnt (st.take k) + (if has st k = true then 1 else 0) := by
  unfold cnt has
  rw [List.take_succ_eq_append_getElem hk, List.countP_append, List.getElem?_eq_getElem hk]
  simp [List.countP_cons]
set_option maxHeartbeats 1000000 in
theorem rcount_s (h : RRaw w g s vv tv vs E) (hf : SFit s) : Calls Tryd.prog 23 #[rptr g] w fun e w' => e = .returned (.int .i64 (cnt s.st : Int)) ∧ w' = w := by
  have c2 := h.blk.cell 2
  simp at c2
  have hl := hf.wide
  have hr := hf.room
  have HC := hid (fun k => List.countP_le_length (p := fun o : Option (List Int) => o.isSome) (l := s.st.take k))
  obtain ⟨A, c, rfl, _, _⟩ := own_shape' h.vo
  have HR := hid h
  clear h
  go_enter Tryd.func23, Tryd.ntmps23
  go_wp2
  go_loopw [3, 4] (fun x i wr => ∃ k q : Nat, k ≤ s.st.length ∧ q ≤ k ∧ i = .int .i64 (k : Int) ∧ x = .int .i64 (q : Int) ∧ Hid (q = cnt (s.st.take k)) ∧ w = wr) (fun _ i _ => s.st.length - (intOf i).toNat)
  case atStart => exact ⟨0, 0, Nat.zero_le _, Nat.le_refl _, rfl, rfl, hid (by simp [cnt]), rfl⟩
  case round =>
    obtain ⟨k, q, hk, hqk, rfl, rfl, HQ, hw⟩ := hrel
    subst hw
    by_cases hlt : k < s.st.length
    · obtain ⟨vb, c', v, hA, _, hc, hv⟩ := HR.out.place hlt
      injection hA with hA _ hcc
      subst hA hcc
      have HH : Hid (has s.st k = (s.st[k]?.getD none).isSome) := hid rfl
      revert hv HH
      generalize s.st[k]?.getD none = o
      intro hv HH
      cases o with
      | none =>
        obtain rfl : v = .slice none 0 0 := hv
        have nn := nil_nil w
        go_wp2
        exact ⟨⟨k + 1, q, hlt, by omega, by go_num, rfl, hid (by rw [cnt_step hlt, HH.out, HQ.out]; rfl), by trivial⟩, by simp [intOf]; omega⟩
      | some l =>
        obtain ⟨b, c9, rfl, _, _⟩ := hv
        have nn2 := nil_some w b l.length c9
        go_wp2
        exact ⟨⟨k + 1, q + 1, hlt, by omega, by go_num, by go_num, hid (by rw [cnt_step hlt, HH.out, HQ.out]; rfl), by trivial⟩, by simp [intOf]; omega⟩
    · obtain rfl : k = s.st.length := by omega
      go_wp2
      go_ret
      exact ⟨by rw [HQ.out, List.take_length]; rfl, rfl⟩
set_option maxHeartbeats 400000 in
theorem rnew_ok (dim room : Nat) (w : World) (h1 : 1 ≤ dim ∧ dim ≤ 1024) (h2 : 1 ≤ room ∧ room ≤ 16777216) : Calls Tryd.prog 9 #[.int .i64 (dim : Int), .int .i64 (room : Int)] w fun e w' => ∃ g, e = .returned (.tuple #[rptr g, .int .i64 0]) ∧ RAt w' g [g] [] ⟨dim, room, [], []⟩ ∧ w.heap.size ≤ g ∧ Below w.heap.size w w' := by
  have a1 : ¬ ((dim : Int) < 1) := by omega
  have a2 : ¬ ((1024 : Int) < (dim : Int)) := by omega
  have a3 : ¬ ((room : Int) < 1) := by omega
  have a4 : ¬ ((16777216 : Int) < (room : Int)) := by omega
  have FN := hid (fit_new h1 h2)
  have HB := hid (Blk.new w 47 #[.int .i64 (dim : Int), .int .i64 (room : Int), .slice none 0 0, .slice none 0 0])
  clear h1 h2
  go_enter Tryd.func9, Tryd.ntmps9
  go_wp2
  go_ret2
  refine ⟨w.heap.size, rfl, ⟨FN.out, fun b hb => by rw [List.mem_singleton] at hb; simp; omega, (fun b hb => by cases hb), (fun b _ hb => by cases hb), .slice none 0 0, .slice none 0 0, [], ⟨HB.out, World.ownsRow_nil _ _ _ _, by simpa [IK] using World.ownsRow_nil _ 0 3 1, fun i v hv => by simp at hv, by simp [Value.ownBlock], by simp [Value.ownBlock], .inl rfl⟩, fun b hb => by simpa [rblocks, Value.ownBlock] using hb⟩, Nat.le_refl _, (Below.refl _ w).alloc (Nat.le_refl _) _⟩
set_option maxHeartbeats 400000 in
theorem rnew_bad (dim room : Int) (w : World) (h : ¬ (1 ≤ dim ∧ dim ≤ 1024 ∧ 1 ≤ room ∧ room ≤ 16777216)) : Calls Tryd.prog 9 #[.int .i64 dim, .int .i64 room] w fun e w' => e = .returned (.tuple #[.pointer none, .int .i64 2]) ∧ w' = w := by
  by_cases a1 : dim < 1
  · clear h
    go_enter Tryd.func9, Tryd.ntmps9
    go_wp2
    go_ret2
    exact ⟨rfl, rfl⟩
  by_cases a2 : (1024 : Int) < dim
  · clear h
    go_enter Tryd.func9, Tryd.ntmps9
    go_wp2
    go_ret2
    exact ⟨rfl, rfl⟩
  by_cases a3 : room < 1
  · clear h
    go_enter Tryd.func9, Tryd.ntmps9
    go_wp2
    go_ret2
    exact ⟨rfl, rfl⟩
  have a4 : (16777216 : Int) < room := by omega
  clear h
  go_enter Tryd.func9, Tryd.ntmps9
  go_wp2
  go_ret2
  exact ⟨rfl, rfl⟩
end
end Go.Proofs.YtamglgampeoepaaDoor
