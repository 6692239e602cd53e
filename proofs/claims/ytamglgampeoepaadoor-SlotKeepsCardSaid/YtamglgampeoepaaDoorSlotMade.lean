/-
  A row of noughts that is filled; what SlotKeeps carries from round to round.
-/
import Derived.Test.YtamglgampeoepaaDoorKeepMap
import Derived.Test.YtamglgampeoepaaDoorActs9
import Derived.Test.YtamglgampeoepaaDoorLowMath
namespace Go.Proofs.YtamglgampeoepaaDoor
set_option maxRecDepth 40000
open Go.RowKit Go.Joins

theorem made_nought (K : IntKind) (n : Nat) : madeCells #[.int K 0] n = (IK K (List.replicate n 0)).toArray := by
  apply Array.ext
  · simp [madeCells, IK]
  · intro i h1 h2
    simp [madeCells, IK, Nat.mod_one]
theorem make_row (K : IntKind) (t e : TypeId) (b n : Nat) (W : World) (ht : Tryd.prog.underlying t = some (.slice e)) (hi : (Tryd.prog.info? e).map (fun i => (i.zero, i.size, i.bytes)) = some (some (.int K 0), 1, b)) (hb : b ≤ 8) (hn : n ≤ 1000000) :
    (Instr.makeSlice t (.int .i64 n) (.int .i64 n)).run Tryd.prog W = .ok (.slice (some ⟨W.heap.size, 0, none⟩) n n) (W.alloc (.cells (IK K (List.replicate n 0)).toArray e)) := by
  obtain ⟨i0, hi, hz0, hz1, hz2⟩ := info_parts hi
  have hb2 : (i0.bytes : Int) * (n : Int) ≤ 281474976710656 := by
    rw [hz2]
    have h1 : (b : Int) * (n : Int) ≤ 8 * n := Int.mul_le_mul_of_nonneg_right (by omega) (by omega)
    omega
  have h := run_make (P := Tryd.prog) W t e i0 (.int K 0) ht hi hz0 .i64 .i64 n n (by omega) (Int.le_refl _) hb2 (by omega)
  rw [h, hz1, Nat.mul_one, Int.toNat_natCast]
  congr 2
  congr 1
  exact made_nought K n
theorem owns_blk {K : IntKind} {et : TypeId} {w : World} {base g n : Nat} {l : List Int} (h : Blk w g et (IK K l).toArray) (hl : l.length = n) (hg : base ≤ g) (hm : n ≤ maxLen) : w.ownsRow base et 1 (.slice (some ⟨g, 0, none⟩) n n) n (IK K l) := by
  subst hl
  exact ⟨by simp [IK], .inr ⟨g, l.length, (IK K l).toArray, rfl, hg, h, Nat.le_refl _, hm, by simp [IK], by simp [IK, List.take_of_length_le]⟩⟩
theorem ik_put (K : IntKind) (l : List Int) (k : Nat) (x : Int) : (IK K l).toArray.setIfInBounds k (.int K x) = (IK K (l.set k x)).toArray := by
  simp [IK, List.map_set]
theorem free_same {st : Sts} {n : Nat} (hh : has st n = false) : freeS st n = st := by
  apply List.ext_getElem?
  intro i
  unfold freeS
  rw [List.getElem?_set]
  by_cases e : n = i
  · subst e
    rw [if_pos rfl]
    by_cases hl : n < st.length
    · rw [if_pos hl, has_none hh hl]
    · rw [if_neg hl, List.getElem?_eq_none (by omega)]
  · rw [if_neg e]
theorem getD_some {st : Sts} {n : Nat} {v : List Int} (h : st[n]? = some (some v)) : st[n]?.getD none = some v := by rw [h]; rfl
theorem getD_none {st : Sts} {n : Nat} (h : has st n = false) : st[n]?.getD none = none := by
  unfold has at h
  revert h
  generalize st[n]?.getD none = o
  intro h
  cases o with
  | none => rfl
  | some l => cases h
theorem own_lows {w : World} {base base' : Nat} {e : TypeId} {size : Nat} {v : Value} {n : Nat} {xs : List Value} (h : w.ownsRow base e size v n xs) (hb : base' ≤ base) : w.ownsRow base' e size v n xs :=
  ⟨h.1, h.2.imp id fun ⟨g, cap, cur, h1, h2, h3⟩ => ⟨g, cap, cur, h1, Nat.le_trans hb h2, h3⟩⟩
/-- The block of a row that is not empty. -/
theorem own_some {w : World} {base n c : Nat} {e : TypeId} {A : Option Addr} {xs : List Value} (h : w.ownsRow base e 1 (.slice A n c) n xs) (hn : 0 < n) : ∃ b, A = some ⟨b, 0, none⟩ ∧ base ≤ b ∧ b < w.heap.size := by
  rcases h.2 with ⟨hv, h0⟩ | ⟨b, cap, cur, hv, hb, hg, _⟩
  · omega
  · injection hv with hA
    exact ⟨b, hA, hb, (Array.getElem?_eq_some_iff.1 hg).1⟩
/-- What is carried from round to round. -/
structure KS (w W : World) (g M k dim room : Nat) (F B : List Nat) (st : Sts) (tr : List Int) : Prop where
  a : Sl w W g F ⟨dim, room, st, tr⟩
  m : KM W w.heap.size M k B st
  ab : ∀ x ∈ F, x ∉ B
  tr : tr.length ≤ k
section
variable {w W W' : World} {g M k dim room : Nat} {F B : List Nat} {st : Sts} {tr : List Int}
theorem KS.below (h : KS w W g M k dim room F B st tr) (hb : Below W.heap.size W W') : KS w W' g M k dim room F B st tr := ⟨h.a.then hb, h.m.below hb, h.ab, h.tr⟩
theorem KS.draws (h : KS w W g M k dim room F B st tr) (j : Nat) : KS w (W.drewN j) g M k dim room F B st tr := h.below (below_drewN (Below.refl _ _) j)
theorem KS.more (h : KS w W g M k dim room F B st tr) {k' : Nat} (hk : k ≤ k') : KS w W g M k' dim room F B st tr := ⟨h.a, h.m.more hk, h.ab, Nat.le_trans h.tr hk⟩
/-- Blocks that are none of theirs were written. -/
theorem KS.aside (h : KS w W g M k dim room F B st tr) {G : List Nat} (ht : Touch W W' G) (h1 : ∀ b ∈ F, b ∉ G) (h2 : ∀ b ∈ B, b ∉ G) (h3 : ∀ b ∈ G, w.heap.size ≤ b) : KS w W' g M k dim room F B st tr :=
  ⟨sl_beside h.a ht h1 h3, h.m.touch ht h2, h.ab, h.tr⟩
theorem KS.map (h : KS w W g M k dim room F B st tr) : ∀ b ∈ B, w.heap.size ≤ b ∧ b < W.heap.size := h.m.2.1
/-- The slots alone have changed. -/
theorem KS.slots (h : KS w W g M k dim room F B st tr) {F' : List Nat} (ht : Touch W W' F) (hF : ∀ b ∈ F', b ∈ F ∨ W.heap.size ≤ b) :
    KM W' w.heap.size M k B st ∧ ∀ x ∈ F', x ∉ B :=
  ⟨h.m.touch ht (fun b hb hx => h.ab b hx hb), fun x hx hy => by
    rcases hF x hx with h1 | h1
    · exact h.ab x h1 hy
    · have := (h.map x hy).2; omega⟩
end
end Go.Proofs.YtamglgampeoepaaDoor
