/-
  Slots that a law made; chapter 9's example, asked ahead of each law.
-/
import Derived.Test.YtamglgampeoepaaDoorSlotFree
namespace Go.Proofs.YtamglgampeoepaaDoor
set_option maxRecDepth 40000
open Go.RowKit Go.Joins

theorem Tab.below {w W : World} (h : Tab w) (hb : Below w.heap.size w W) : Tab W := fun j hj => by
  have h1 := h j hj
  have h2 := World.block_lt_of_cell? w _ h1
  exact (hb.cell h2).trans h1
structure Sl (w W : World) (g : Nat) (F : List Nat) (s : SSt) : Prop where
  at_ : SAt W g F s
  new : ∀ b ∈ F, w.heap.size ≤ b
  below : Below w.heap.size w W
section
variable {w W W' : World} {g : Nat} {F : List Nat} {s s' : SSt}
theorem Sl.then (L : Sl w W g F s) (hb : Below W.heap.size W W') : Sl w W' g F s := ⟨L.at_.below hb, L.new, L.below.trans (hb.mono L.below.size)⟩
theorem Sl.draws (L : Sl w W g F s) (k : Nat) : Sl w (W.drewN k) g F s := L.then (below_drewN (Below.refl _ _) k)
theorem Sl.did (L : Sl w W g F s) (h : SDid W g F s' W') : ∃ F', Sl w W' g F' s' ∧ Touch W W' F ∧ ∀ b ∈ F', b ∈ F ∨ W.heap.size ≤ b := by
  obtain ⟨F', h1, h2, h3⟩ := h
  refine ⟨F', ⟨h1, fun b hb => ?_, L.below.trans (h2.below L.below.size L.new)⟩, h2, h3⟩
  rcases h3 b hb with h | h
  · exact L.new b h
  · exact Nat.le_trans L.below.size h
theorem Sl.tab (L : Sl w W g F s) (hT : Tab w) : ∀ V, Touch W V F → Tab V := fun _ ht => hT.below (L.below.trans (ht.below L.below.size L.new))
/-- A vector of one number, written out. -/
theorem row16 (W : World) (x : Int) : Row (W.alloc (.cells #[.int .i16 x] 39)) W.heap.size (W.heap.size + 1) (some ⟨W.heap.size, 0, none⟩) 1 (IK .i16 [x]) := row_one W _ _
/-- Put of one number, where there is room, at slots of dim 1. -/
theorem Sl.put1 (L : Sl w W g F s) (hT : Tab w) (hd : s.dim = 1) (x : Int) (hr : cnt s.st < s.room) {n : Nat} (hn : Low s.st n) :
    Calls Tryd.prog 11 #[ptr g, .slice (some ⟨W.heap.size, 0, none⟩) 1 1] (W.alloc (.cells #[.int .i16 x] 39)) fun e W' => e = .returned (.tuple #[.int .i64 (n : Int), .int .i64 0]) ∧ ∃ F', Sl w W' g F' { s with st := putS s.st n [x] } := by
  have L1 := L.then (W' := W.alloc (.cells #[.int .i16 x] 39)) ((Below.refl _ _).alloc (Nat.le_refl _) _)
  have P := put_ok L1.at_ (some ⟨W.heap.size, 0, none⟩) 1 W.heap.size (W.heap.size + 1) [x] (by rw [hd]; exact row16 W x) (by simp) (fun e => by cases e) (fun b hb => .inl (L.at_.lt b hb)) hr (L1.tab hT)
  rw [hd] at P
  refine P.mono ?_
  rintro e W' ⟨m, hm, rfl, hS⟩
  obtain rfl : m = n := hm.unique hn
  obtain ⟨F', h1, _⟩ := L1.did hS
  exact ⟨rfl, F', h1⟩
theorem low1 {x : List Int} : Low (putS [] 0 x) 1 := ⟨rfl, fun i hi => by
  obtain rfl : i = 0 := by omega
  rfl⟩
theorem low0 : Low [] 0 := ⟨rfl, fun i hi => by omega⟩
set_option maxHeartbeats 2000000 in
theorem lives9_any (w : World) (hT : Tab w) : Calls Tryd.prog 6 #[] w fun e w' => e = .returned (.bool true) ∧ Below w.heap.size w w' := by
  have NW := hid (new_ok 1 3 w (by omega) (by omega))
  have HT := hid hT
  clear hT
  go_enter Tryd.func6, Tryd.ntmps6
  go_wp2_with fail
  refine NW.out.mono ?_
  rintro e w1 ⟨g, rfl, hS, hg, hb⟩
  have L1 : Hid (Sl w w1 g [g] ⟨1, 3, [], []⟩) := hid ⟨hS, fun b hb => by rw [List.mem_singleton] at hb; rw [hb]; exact hg, hb⟩
  have e1 := eql_nil_ptr w1 g
  have P1 := hid (L1.out.put1 HT.out rfl 5 (by decide) low0)
  clear hS hg hb NW
  go_wp2_with fail
  refine P1.out.mono ?_
  rintro e w2 ⟨rfl, F2, L2⟩
  have P2 := hid (L2.put1 HT.out rfl 6 (by decide) (n := 1) low1)
  clear P1 L2 e1
  go_wp2_with fail
  refine P2.out.mono ?_
  rintro e w3 ⟨rfl, F3, L3⟩
  have FR := hid (free_ok L3.at_ 0 rfl)
  have HL3 := hid L3
  clear P2 L3
  go_wp2_with fail
  refine FR.out.mono ?_
  rintro e w4 ⟨rfl, hS4⟩
  obtain ⟨F4, L4, _⟩ := HL3.out.did hS4
  have P4 := hid (L4.put1 HT.out rfl 7 (by decide) (n := 0) ⟨rfl, fun i hi => absurd hi (Nat.not_lt_zero i)⟩)
  clear FR hS4 L4 HL3
  go_wp2_with fail
  refine P4.out.mono ?_
  rintro e w5 ⟨rfl, F5, L5⟩
  have HB5 := hid L5.below
  clear P4 L5
  go_wp2
  go_ret
  exact ⟨rfl, HB5.out⟩
end
end Go.Proofs.YtamglgampeoepaaDoor
