/-
  A row of numbers that are told by a function of the place: what is read, what a store leaves. Ranks: how many stand ahead of a place, in the order of numbers and places.
-/
import Derived.Test.YtjnbdlbgfgdopaaDrawKit
namespace Go.Proofs.Ytjnbdlbgfgdopaa
set_option maxRecDepth 40000
set_option linter.unusedVariables false
open Go.RowKit

def RF (w : World) (g n : Nat) (f : Nat → Int) : Prop := Blk w g 3 (IK .i64 ((List.range n).map f)).toArray
section
variable {w w' : World} {g n : Nat} {f f' : Nat → Int}
theorem RF.lt (h : RF w g n f) : g < w.heap.size := Blk.lt h
theorem RF.cell (h : RF w g n f) {i : Nat} (hi : i < n) : w.cell? ⟨g, i, none⟩ = some (.int .i64 (f i)) := by
  rw [Blk.cell h, List.getElem?_toArray]
  unfold IK
  rw [List.getElem?_map, List.getElem?_map, List.getElem?_range hi]
  rfl
theorem RF.frozen (h : RF w g n f) (i : Nat) : w.frozen? ⟨g, i, none⟩ = false := Blk.frozen h i
theorem RF.congr (h : RF w g n f) (he : ∀ x, x < n → f x = f' x) : RF w g n f' := by
  unfold RF at h ⊢
  rwa [← List.map_congr_left (fun x hx => he x (List.mem_range.1 hx))]
theorem RF.set (h : RF w g n f) (i : Nat) (v : Int) : RF (w.setCell ⟨g, i, none⟩ (.int .i64 v)) g n (fun x => if x = i then v else f x) := by
  have h2 := Blk.set h i (.int .i64 v)
  unfold RF
  have e : ((IK .i64 ((List.range n).map f)).toArray.setIfInBounds i (.int .i64 v)) = (IK .i64 ((List.range n).map fun x => if x = i then v else f x)).toArray := by
    apply Array.ext'
    rw [Array.toList_setIfInBounds]
    apply List.ext_getElem?
    intro j
    rw [List.getElem?_set]
    simp only [IK, List.getElem?_map, List.length_map, List.length_range]
    by_cases e : i = j
    · subst e
      rw [if_pos rfl]
      by_cases h : i < n
      · rw [if_pos h, List.getElem?_range h]; simp
      · rw [if_neg h, List.getElem?_eq_none (by simp; omega)]; rfl
    · rw [if_neg e]
      by_cases h : j < n
      · rw [List.getElem?_range h]; simp [Ne.symm e]
      · rw [List.getElem?_eq_none (by simp; omega)]; rfl
  rwa [e] at h2
theorem RF.far (h : RF w g n f) {p : Addr} (hp : g ≠ p.block) (u : Value) : RF (w.setCell p u) g n f := Blk.far h hp u
theorem RF.alloc (h : RF w g n f) (o : Obj) : RF (w.alloc o) g n f := Blk.alloc h o
theorem RF.drewN (h : RF w g n f) (k : Nat) : RF (w.drewN k) g n f := h
theorem RF.below (h : RF w g n f) {B : Nat} (hb : Below B w w') (hg : g < B) : RF w' g n f := Blk.below h hb hg
theorem RF.grown (h : RF w g n f) {row : Option Nat} (hb : w.grownBy w' row) (hg : some g ≠ row) : RF w' g n f := Blk.grown h hb hg
theorem RF.new (w : World) (n : Nat) : RF (w.alloc (.cells (IK .i64 (List.replicate n 0)).toArray 3)) w.heap.size n (fun _ => 0) := by
  unfold RF
  have e : (List.range n).map (fun _ => (0 : Int)) = List.replicate n 0 := by
    apply List.ext_getElem?
    intro j
    rw [List.getElem?_map, List.getElem?_replicate]
    by_cases h : j < n
    · rw [List.getElem?_range h, if_pos h]; rfl
    · rw [List.getElem?_eq_none (by simp; omega), if_neg h]; rfl
  rw [e]
  exact Blk.new w _ _
theorem RF.row (h : RF w g n f) {lo : Nat} (hlo : lo ≤ g) : Row w lo w.heap.size (some ⟨g, 0, none⟩) n (IK .i64 ((List.range n).map f)) := by
  have := blk_row (l := (List.range n).map f) (L := n) (k := n) h (by simp) (Nat.le_refl _) hlo
  rwa [List.take_of_length_le (by simp)] at this
end
/-- Place k stands ahead of place i. -/
def bef (l : List Int) (k i : Nat) : Bool := decide (l.getD k 0 < l.getD i 0) || (decide (l.getD k 0 = l.getD i 0) && decide (k < i))
def rk (l : List Int) (i j : Nat) : Nat := (List.range j).countP (fun k => bef l k i)
def rank (l : List Int) (i : Nat) : Nat := rk l i l.length
theorem rk_zero (l : List Int) (i : Nat) : rk l i 0 = 0 := rfl
theorem rk_succ (l : List Int) (i j : Nat) : rk l i (j + 1) = rk l i j + if bef l j i then 1 else 0 := by
  unfold rk
  rw [List.range_succ, List.countP_append]
  simp [List.countP_cons]
theorem rk_le (l : List Int) (i j : Nat) : rk l i j ≤ j := by
  have := List.countP_le_length (p := fun k => bef l k i) (l := List.range j)
  rwa [List.length_range] at this
theorem count_lt {p q : Nat → Bool} : ∀ (L : List Nat), (∀ x ∈ L, p x = true → q x = true) → (∃ y ∈ L, q y = true ∧ p y = false) → L.countP p < L.countP q
  | [], _, ⟨_, h, _⟩ => by cases h
  | a :: r, hi, ⟨y, hy, h1, h2⟩ => by
    rw [List.countP_cons, List.countP_cons]
    have hle : r.countP p ≤ r.countP q := List.countP_mono_left fun x hx h => hi x (List.mem_cons_of_mem _ hx) h
    rcases List.mem_cons.1 hy with e | hy
    · subst e
      rw [h1, h2]; simp; omega
    · have := count_lt r (fun x hx h => hi x (List.mem_cons_of_mem _ hx) h) ⟨y, hy, h1, h2⟩
      cases ha : p a with
      | false => simp; omega
      | true => rw [hi a List.mem_cons_self ha]; simp; omega
theorem bef_irr (l : List Int) (i : Nat) : bef l i i = false := by simp [bef]
theorem bef_trans {l : List Int} {a b c : Nat} (h1 : bef l a b = true) (h2 : bef l b c = true) : bef l a c = true := by
  simp only [bef, Bool.or_eq_true, Bool.and_eq_true, decide_eq_true_eq] at *
  omega
theorem bef_total {l : List Int} {a b : Nat} (h : a ≠ b) : bef l a b = true ∨ bef l b a = true := by
  simp only [bef, Bool.or_eq_true, Bool.and_eq_true, decide_eq_true_eq]
  omega
theorem rank_lt {l : List Int} {i : Nat} (hi : i < l.length) : rank l i < l.length := by
  have h := count_lt (p := fun k => bef l k i) (q := fun _ => true) (List.range l.length) (fun _ _ _ => rfl) ⟨i, List.mem_range.2 hi, rfl, bef_irr l i⟩
  rw [List.countP_true, List.length_range] at h
  exact h
theorem rank_mono {l : List Int} {i j : Nat} (hi : i < l.length) (h : bef l i j = true) : rank l i < rank l j :=
  count_lt _ (fun _ _ hx => bef_trans hx h) ⟨i, List.mem_range.2 hi, h, bef_irr l i⟩
theorem rank_inj {l : List Int} {i j : Nat} (hi : i < l.length) (hj : j < l.length) (h : rank l i = rank l j) : i = j := by
  by_cases e : i = j
  · exact e
  · rcases bef_total (l := l) e with h1 | h1
    · have := rank_mono hi h1; omega
    · have := rank_mono hj h1; omega
/-- What the row of wanted numbers has. -/
def wl (l : List Int) (i k : Nat) (x : Nat) : Int := if x < i then (rank l x : Int) else if x = i then (rk l i k : Int) else 0
theorem wl_start (l : List Int) (x : Nat) : wl l 0 0 x = 0 := by
  unfold wl
  rw [if_neg (by omega)]
  split
  · rfl
  · rfl
theorem wl_next (l : List Int) (i x : Nat) : wl l i l.length x = wl l (i + 1) 0 x := by
  unfold wl
  by_cases h : x < i
  · rw [if_pos h, if_pos (by omega)]
  · rw [if_neg h]
    by_cases e : x = i
    · subst e; rw [if_pos rfl, if_pos (by omega)]; rfl
    · rw [if_neg e, if_neg (by omega)]
      split <;> rfl
theorem wl_here (l : List Int) (i k : Nat) : wl l i k i = (rk l i k : Int) := by
  unfold wl
  rw [if_neg (by omega), if_pos rfl]
theorem wl_up {l : List Int} {i k : Nat} (h : bef l k i = true) (x : Nat) : (if x = i then (rk l i k : Int) + 1 else wl l i k x) = wl l i (k + 1) x := by
  unfold wl
  by_cases e : x = i
  · subst e
    rw [if_pos rfl, if_neg (by omega), if_pos rfl, rk_succ, h]
    simp
  · simp only [if_neg e]
theorem wl_stay {l : List Int} {i k : Nat} (h : bef l k i = false) (x : Nat) : wl l i k x = wl l i (k + 1) x := by
  unfold wl
  rw [rk_succ, h]
  simp
theorem wl_end (l : List Int) (x : Nat) (h : x < l.length) : wl l l.length 0 x = (rank l x : Int) := by
  unfold wl
  rw [if_pos h]
/-- What is drawn so that the wanted number comes. -/
theorem dr_pre {ds : List Int} {x : Int} {i j : Nat} (hl : ds.length = i) (hj : j < i) : dr (ds ++ [x]) j = dr ds j := by
  unfold dr
  rw [Nat.mod_eq_of_lt (by simp; omega), Nat.mod_eq_of_lt (by omega), List.getElem?_append_left (by omega)]
theorem dr_last {ds : List Int} {x : Int} {i : Nat} (hl : ds.length = i) : dr (ds ++ [x]) i = x := by
  unfold dr
  rw [Nat.mod_eq_of_lt (by simp; omega), ← hl, List.getElem?_append_right (Nat.le_refl _)]
  simp
theorem turn_pre {ds : List Int} {x : Int} {i n : Nat} (hl : ds.length = i) : turn (ds ++ [x]) n i = turn ds n i :=
  turn_congr i fun j hj => by rw [dr_pre hl hj]
theorem pk_pre {ds : List Int} {x : Int} {i j n : Nat} (hl : ds.length = i) (hj : j < i) : pk (ds ++ [x]) n j = pk ds n j := by
  exact congrFun (turn_congr (j + 1) fun k hk => by rw [dr_pre hl (show k < i by omega)]) j
theorem step_last {ds : List Int} {i n a m : Nat} (hl : ds.length = i) (ha : i ≤ a) (han : a < n) : stepTo (ds ++ [((a - i + m * (n - i) : Nat) : Int)]) n i = a := by
  unfold stepTo
  rw [dr_last hl, Int.toNat_natCast, Nat.add_mul_mod_self_right, Nat.mod_eq_of_lt (by omega)]
  omega
theorem turn_last {ds : List Int} {i n a m : Nat} (hl : ds.length = i) (ha : i ≤ a) (han : a < n) : turn (ds ++ [((a - i + m * (n - i) : Nat) : Int)]) n (i + 1) = swp (turn ds n i) i a := by
  show swp _ _ _ = _
  rw [step_last hl ha han, turn_pre hl]
theorem pk_last {ds : List Int} {i n a m : Nat} (hl : ds.length = i) (ha : i ≤ a) (han : a < n) : pk (ds ++ [((a - i + m * (n - i) : Nat) : Int)]) n i = turn ds n i a := by
  unfold pk
  rw [turn_last hl ha han]
  unfold swp
  by_cases e : i = a
  · subst e; rw [if_pos rfl]
  · rw [if_neg e, if_pos rfl]
end Go.Proofs.Ytjnbdlbgfgdopaa
