/-
  Which of the old blocks a call may have written: plain words.
-/
import Derived.Test.YtjnbdlbgfgdopaaWords
namespace Go.Proofs.Ytjnbdlbgfgdopaa
set_option maxRecDepth 40000
open Go.RowKit

/-- Of the old blocks only those in F may have been written. -/
structure Touch (w w' : World) (F : List Nat) : Prop where
  os : w'.os = w.os
  tape : w'.tape = w.tape
  output : w'.output = w.output
  size : w.heap.size ≤ w'.heap.size
  block : ∀ i, i < w.heap.size → i ∉ F → w'.heap[i]? = w.heap[i]?
section
variable {a b c w w' : World} {F F' : List Nat}
theorem Touch.refl (w : World) (F : List Nat) : Touch w w F := ⟨rfl, rfl, rfl, Nat.le_refl _, fun _ _ _ => rfl⟩
theorem Touch.then (h : Touch a b F) (h2 : Touch b c F') (hF : ∀ i, i < a.heap.size → i ∈ F' → i ∈ F) : Touch a c F :=
  ⟨h2.os.trans h.os, h2.tape.trans h.tape, h2.output.trans h.output, Nat.le_trans h.size h2.size, fun i hi hn => (h2.block i (Nat.lt_of_lt_of_le hi h.size) (fun hm => hn (hF i hi hm))).trans (h.block i hi hn)⟩
theorem Touch.mono (h : Touch a b F) (hF : ∀ i, i < a.heap.size → i ∈ F → i ∈ F') : Touch a b F' := ⟨h.os, h.tape, h.output, h.size, fun i hi hn => h.block i hi fun hm => hn (hF i hi hm)⟩
theorem touch_below (h : Below a.heap.size a b) (F : List Nat) : Touch a b F := ⟨h.os, h.tape, h.output, h.size, fun i hi _ => h.block i hi⟩
theorem touch_grown {row : Option Nat} (h : a.grownBy b row) (hr : ∀ g, row = some g → g ∈ F) : Touch a b F := ⟨h.os, h.tape, h.output, h.size, fun i hi hn => h.block i hi fun e => hn (hr i e.symm)⟩
theorem Touch.below (h : Touch a b F) {B : Nat} (hB : B ≤ a.heap.size) (hF : ∀ i, i ∈ F → B ≤ i) : Below B a b := ⟨h.os, h.tape, h.output, h.size, fun i hi => h.block i (by omega) fun hm => by have := hF i hm; omega⟩
theorem Touch.undrew (h : Touch a.drew b F) : Touch a b F := ⟨h.os, h.tape, h.output, h.size, h.block⟩
theorem Blk.touch {g : Nat} {t : TypeId} {cs : Array Value} (h : Blk w g t cs) (ht : Touch w w' F) (hg : g ∉ F) : Blk w' g t cs := (ht.block g h.lt hg).trans h
theorem Row.touch {lo hi n : Nat} {A : Option Addr} {xs : List Value} (h : Row w lo hi A n xs) (ht : Touch w w' F) (hhi : hi ≤ w.heap.size) (hF : ∀ i ∈ F, i < lo ∨ hi ≤ i) : Row w' lo hi A n xs :=
  h.keep fun p h1 h2 => World.cell?_of_block (w := w) (ht.block p.block (by omega) (fun hm => by rcases hF _ hm with h | h <;> omega))
end
theorem own_touched {w w' : World} {base : Nat} {e : TypeId} {size n : Nat} {v : Value} {xs : List Value} {F : List Nat} (h : w.ownsRow base e size v n xs) (ht : Touch w w' F) (hv : ∀ g, v.ownBlock = some g → g ∉ F) : w'.ownsRow base e size v n xs := by
  obtain ⟨h1, h2⟩ := h
  refine ⟨h1, ?_⟩
  rcases h2 with h2 | ⟨g, cap, cur, rfl, hb, hg, r⟩
  · exact .inl h2
  · exact .inr ⟨g, cap, cur, rfl, hb, (ht.block g (Array.getElem?_eq_some_iff.1 hg).1 (hv g (by simp [Value.ownBlock]))).trans hg, r⟩
end Go.Proofs.Ytjnbdlbgfgdopaa
