/-
  Slots and the document's slots side by side, as SlotScript carries them.
-/
import Derived.Test.YtamglgampeoepaaDoorRSlotClone
import Derived.Test.YtamglgampeoepaaDoorActs9
import Derived.Test.YtamglgampeoepaaDoorLowMath
namespace Go.Proofs.YtamglgampeoepaaDoor
set_option maxRecDepth 40000
open Go.RowKit Go.Joins

structure SX (w W : World) (g h : Nat) (F O E : List Nat) (S1 S2 : SSt) : Prop where
  a : Sl w W g F S1
  r : RAt W h O E S2
  fo : ∀ b ∈ F, b ∉ O
  fe : ∀ b ∈ F, b ∉ E
  ro : ∀ b ∈ O, w.heap.size ≤ b
  re : ∀ b ∈ E, w.heap.size ≤ b
section
variable {w W W' : World} {g h : Nat} {F O E : List Nat} {S1 S2 S1' S2' : SSt}
theorem SX.below (X : SX w W g h F O E S1 S2) (hb : Below W.heap.size W W') : SX w W' g h F O E S1 S2 := ⟨X.a.then hb, X.r.below hb, X.fo, X.fe, X.ro, X.re⟩
theorem SX.draws (X : SX w W g h F O E S1 S2) (k : Nat) : SX w (W.drewN k) g h F O E S1 S2 := X.below (below_drewN (Below.refl _ _) k)
/-- The slots alone have changed. -/
theorem SX.prog (X : SX w W g h F O E S1 S2) {F' : List Nat} (L : Sl w W' g F' S1') (ht : Touch W W' F) (hF : ∀ b ∈ F', b ∈ F ∨ W.heap.size ≤ b) : SX w W' g h F' O E S1' S2 :=
  ⟨L, X.r.touch ht (fun b hb hx => X.fo b hx hb) (fun b hb hx => X.fe b hx hb), fun b hb hx => by
    rcases hF b hb with h1 | h1
    · exact X.fo b h1 hx
    · have := X.r.lo b hx; omega, fun b hb hx => by
    rcases hF b hb with h1 | h1
    · exact X.fe b h1 hx
    · have := X.r.le b hx; omega, X.ro, X.re⟩
/-- The document's slots alone have changed. -/
theorem SX.refs (X : SX w W g h F O E S1 S2) (hd : RDid W h O E S2' W') : ∃ O' E', SX w W' g h F O' E' S1 S2' ∧ Touch W W' O := by
  obtain ⟨O', E', h1, h2, h3, h4⟩ := hd
  refine ⟨O', E', ⟨sl_beside X.a h2 (fun b hb hx => X.fo b hb hx) X.ro, h1, fun b hb hx => ?_, fun b hb hx => ?_, fun b hx => ?_, fun b hx => ?_⟩, h2⟩
  · rcases h3 b hx with h5 | h5
    · exact X.fo b hb h5
    · have := X.a.at_.lt b hb; omega
  · rcases h4 b hx with h5 | h5
    · exact X.fe b hb h5
    · have := X.a.at_.lt b hb; omega
  · rcases h3 b hx with h5 | h5
    · exact X.ro b h5
    · exact Nat.le_trans X.a.below.size h5
  · rcases h4 b hx with h5 | h5
    · exact X.re b h5
    · exact Nat.le_trans X.a.below.size h5
/-- Where the trace of the document's slots lies. -/
theorem SX.trace_at (X : SX w W g h F O E S1 S2) : ∃ A c, W.cell? ⟨h, 3, none⟩ = some (.slice A S2.tr.length c) ∧ Row W 0 W.heap.size A S2.tr.length (IK .i64 S2.tr) ∧ h < W.heap.size := by
  obtain ⟨vv, tv, vs, hr, _⟩ := X.r.raw
  obtain ⟨A, c, rfl, _, _⟩ := own_shape' hr.to
  exact ⟨A, c, hr.blk.cell 3, Row.of_own hr.to, hr.blk.lt⟩
theorem SX.frozen3 (X : SX w W g h F O E S1 S2) : W.frozen? ⟨h, 3, none⟩ = false := by
  obtain ⟨vv, tv, vs, hr, _⟩ := X.r.raw
  exact hr.blk.frozen 3
/-- Blocks that are none of theirs were written. -/
theorem SX.aside (X : SX w W g h F O E S1 S2) {G : List Nat} (ht : Touch W W' G) (h1 : ∀ b ∈ F, b ∉ G) (h2 : ∀ b ∈ O, b ∉ G) (h3 : ∀ b ∈ E, b ∉ G) (h4 : ∀ b ∈ G, w.heap.size ≤ b) : SX w W' g h F O E S1 S2 :=
  ⟨sl_beside X.a ht h1 h4, X.r.touch ht h2 h3, X.fo, X.fe, X.ro, X.re⟩
theorem rput_at (h0 : RAt W h O E S2) (A : Option Addr) (c lo hi m : Nat) (v : List Int) (hm : m = S2.dim) (hR : Row W lo hi A m (IK .i16 v)) (hhi : hi ≤ W.heap.size) (hA : A = none → c = 0) (hlo : ∀ b ∈ O, b < lo ∨ hi ≤ b) (hroom : cnt S2.st < S2.room) {n : Nat} (hn : Low S2.st n) :
    Calls Tryd.prog 13 #[rptr h, .slice A m c] W fun e w' => e = .returned (.tuple #[.int .i64 (n : Int), .int .i64 0]) ∧ RDid W h O E { S2 with st := putS S2.st n v } w' := by
  subst hm
  exact rput_ok h0 A c lo hi v hR hhi hA hlo hroom hn
end
/-- A trace that was cleared. -/
theorem rclear {w : World} {g : Nat} {O E : List Nat} {s : SSt} (h : RAt w g O E s) : RDid w g O E { s with tr := [] } (w.setCell ⟨g, 3, none⟩ (.slice none 0 0)) := by
  obtain ⟨vv, tv, vs, hr, hb⟩ := h.raw
  have ht : Touch w (w.setCell ⟨g, 3, none⟩ (.slice none 0 0)) [g] := touch_set (List.mem_singleton.2 rfl)
  have hgO : g ∈ O := hb g (by simp [rblocks])
  have k := hr.blk.set 3 (.slice none 0 0)
  have R : RRaw (w.setCell ⟨g, 3, none⟩ (.slice none 0 0)) g { s with tr := [] } vv (.slice none 0 0) vs E :=
    ⟨by simpa using k, own_touched hr.vo ht (fun e he hm => hr.vg (by rw [he, List.mem_singleton.1 hm])), by simpa [IK] using World.ownsRow_nil _ 0 3 1, fun i v hv => (hr.el i v hv).touch ht (fun b hx hm => h.oe g hgO (by rw [← List.mem_singleton.1 hm]; exact hx)), hr.vg, by simp [Value.ownBlock], by
      by_cases e : vv.ownBlock = none
      · exact .inl e
      · exact .inr e⟩
  have hb2 : ∀ b ∈ rblocks g vv (.slice none 0 0), b ∈ O := fun b hx => hb b (by
    simp only [rblocks, List.mem_cons, List.mem_append, Option.mem_toList] at hx ⊢
    rcases hx with h1 | h1 | h1
    · exact .inl h1
    · exact .inr (.inl h1)
    · cases h1)
  exact rat_mk R ⟨h.fit.dim, h.fit.room, h.fit.fit, h.fit.cnt, h.fit.wide, by simp⟩ (touch_set hgO) (fun b hx => .inl (hb2 b hx)) (fun b hx => .inl hx) (fun b hx => by rw [set_size]; exact h.le b hx) (fun b hx => h.oe b (hb2 b hx))
end Go.Proofs.YtamglgampeoepaaDoor
