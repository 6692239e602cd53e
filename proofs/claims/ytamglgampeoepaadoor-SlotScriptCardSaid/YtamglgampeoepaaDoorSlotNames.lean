/-
  The walk of SlotNames.
-/
import Derived.Test.YtamglgampeoepaaDoorSlotLive
namespace Go.Proofs.YtamglgampeoepaaDoor
set_option maxRecDepth 40000
open Go.RowKit Go.Joins

section
variable {w W W' : World} {g : Nat} {F : List Nat} {s s' : SSt}
theorem Sl.has (L : Sl w W g F s) (n : Int) (hn : n ≤ 9223372036854775807) : Calls Tryd.prog 26 #[ptr g, .int .i64 n] W fun e w' => e = .returned (.bool (hasI s.st n)) ∧ ∃ k, w' = W.drewN k := by
  obtain ⟨vv, tv, rv, ws, f, hr, _⟩ := L.at_.raw
  exact has_s hr L.at_.fit n hn
theorem Sl.count (L : Sl w W g F s) : Calls Tryd.prog 22 #[ptr g] W fun e w' => e = .returned (.int .i64 (cnt s.st : Int)) ∧ w' = W := by
  obtain ⟨vv, tv, rv, ws, f, hr, _⟩ := L.at_.raw
  exact count_s hr L.at_.fit
theorem Sl.trace (L : Sl w W g F s) : Calls Tryd.prog 25 #[ptr g] W (FreshK .i64 3 W s.tr) := by
  obtain ⟨vv, tv, rv, ws, f, hr, _⟩ := L.at_.raw
  exact trace_s hr L.at_.fit
/-- Numbers written out. -/
theorem rowk_lit (W : World) (K : IntKind) (t : TypeId) (l : List Int) (n : Nat) {cs : Array Value} (hn : l.length = n) (hc : cs = (IK K l).toArray) : Row (W.alloc (.cells cs t)) W.heap.size (W.heap.size + 1) (some ⟨W.heap.size, 0, none⟩) n (IK K l) := by
  subst hc
  refine ⟨by rw [IK_len]; exact hn, fun _ => ⟨W.heap.size, 0, rfl, Nat.le_refl _, Nat.lt_succ_self _, fun j u hu => ?_⟩⟩
  have := World.news_of_block (heap_alloc_new W (.cells (IK K l).toArray t)) j u hu
  rwa [addr_add] at this
theorem Sl.put (L : Sl w W g F s) (hT : Tab w) (A : Option Addr) (c lo hi m : Nat) (v : List Int) (hm : m = s.dim) (hR : Row W lo hi A m (IK .i16 v)) (hhi : hi ≤ W.heap.size) (hA : A = none → c = 0) (hlo : ∀ b ∈ F, b < lo ∨ hi ≤ b) (hr : cnt s.st < s.room) {n : Nat} (hn : Low s.st n) :
    Calls Tryd.prog 11 #[ptr g, .slice A m c] W fun e W' => e = .returned (.tuple #[.int .i64 (n : Int), .int .i64 0]) ∧ ∃ F', Sl w W' g F' { s with st := putS s.st n v } ∧ Touch W W' F ∧ ∀ b ∈ F', b ∈ F ∨ W.heap.size ≤ b := by
  subst hm
  refine (put_ok L.at_ A c lo hi v hR hhi hA hlo hr (L.tab hT)).mono ?_
  rintro e W' ⟨k, hk, rfl, hS⟩
  obtain rfl : k = n := hk.unique hn
  exact ⟨rfl, L.did hS⟩
end
end Go.Proofs.YtamglgampeoepaaDoor
