/-
  Which of two is nearer: contracts of cmp.Compare, cmp.Or, rank's order and Less. No condition.
-/
import Derived.Test.YtdknjeikhdodeaaProg
import Derived.Test.YtdknjeikhdodeaaWords
import Derived.Test.YtdknjeikhdodeaaRankMath
import Derived.Sort.Grow
import Derived.Shelf.SlSortCmp.QuietGrown
import Derived.Deep.RegionHeld3
import Derived.Deep.QuietTactic
import Derived.BigQuiet
import Derived.Lib.SliceRun
namespace Go.Proofs.Ytdknjeikhdodeaa
open Go.RowKit Go.Sort

/-- Which of two numbers is less. -/
def ci (a b : Int) : Int := if a < b then -1 else if b < a then 1 else 0
/-- Which of two is nearer. -/
def orr (x y : Int) : Int := if x ≠ 0 then x else y
def co (a b : Int × Int) : Int := orr (ci a.1 b.1) (ci a.2 b.2)
theorem co_lt (a b : Int × Int) : decide (co a b < 0) = nlt a b := by
  rw [Bool.eq_iff_iff, nlt_iff, decide_eq_true_iff]
  unfold co orr ci
  by_cases h1 : a.1 < b.1
  · simp [h1]
  · by_cases h2 : b.1 < a.1
    · simp [h1, h2]; omega
    · by_cases h3 : a.2 < b.2
      · simp [h1, h2, h3]; omega
      · by_cases h4 : b.2 < a.2 <;> simp [h1, h2, h3, h4]
theorem co_not (a b : Int × Int) : co a b < 0 ↔ nlt a b = true := by rw [← co_lt]; simp

theorem isNaN_any (x : Int) (w : World) : Calls Try.prog 40 #[.int .i64 x] w fun e w' => e = .returned (.bool false) ∧ w = w' := by
  have h : (x != x) = false := by simp
  go_enter Try.func40, Try.ntmps40
  go_wp2
  go_ret
  exact ⟨rfl, rfl⟩
theorem compare_any (x y : Int) (w : World) : Calls Try.prog 36 #[.int .i64 x, .int .i64 y] w fun e w' => e = .returned (.int .i64 (ci x y)) ∧ w = w' := by
  by_cases h1 : x < y
  · have HC : Hid (ci x y = -1) := by show ci x y = -1; unfold ci; rw [if_pos h1]
    go_enter Try.func36, Try.ntmps36
    go_wp2_with (go_at_call 40; refine (isNaN_any _ _).mono ?_; rintro e w' ⟨rfl, rfl⟩)
    go_ret
    exact ⟨by rw [HC.out]; rfl, rfl⟩
  · have h1' : y ≤ x := by omega
    by_cases h2 : y < x
    · have HC : Hid (ci x y = 1) := by show ci x y = 1; unfold ci; rw [if_neg h1, if_pos h2]
      go_enter Try.func36, Try.ntmps36
      go_wp2_with (go_at_call 40; refine (isNaN_any _ _).mono ?_; rintro e w' ⟨rfl, rfl⟩)
      go_ret
      exact ⟨by rw [HC.out]; rfl, rfl⟩
    · have HC : Hid (ci x y = 0) := by show ci x y = 0; unfold ci; rw [if_neg h1, if_neg h2]
      have h2' : x ≤ y := by omega
      go_enter Try.func36, Try.ntmps36
      go_wp2_with (go_at_call 40; refine (isNaN_any _ _).mono ?_; rintro e w' ⟨rfl, rfl⟩)
      go_ret
      exact ⟨by rw [HC.out]; rfl, rfl⟩
theorem or_any (b : Nat) (x y : Int) (w : World) (h0 : w.cell? ⟨b, 0, none⟩ = some (.int .i64 x)) (h1 : w.cell? ⟨b, 1, none⟩ = some (.int .i64 y)) :
    Calls Try.prog 35 #[.slice (some ⟨b, 0, none⟩) 2 2] w fun e w' => e = .returned (.int .i64 (orr x y)) ∧ w = w' := by
  unfold orr
  by_cases hx : x = 0
  · subst hx
    by_cases hy : y = 0
    · subst hy
      go_enter Try.func35, Try.ntmps35
      go_wp2
      refine wp_loop_rounds 3 ?_
      rw [rounds_succ]
      go_wp2
      rw [rounds_succ]
      go_wp2
      rw [rounds_succ]
      go_wp2
      go_ret
      exact ⟨rfl, rfl⟩
    · have hb : (y != 0) = true := by simpa using hy
      go_enter Try.func35, Try.ntmps35
      go_wp2
      refine wp_loop_rounds 3 ?_
      rw [rounds_succ]
      go_wp2
      rw [rounds_succ]
      go_wp2
      go_ret
      exact ⟨by simp, rfl⟩
  · have hb : (x != 0) = true := by simpa using hx
    go_enter Try.func35, Try.ntmps35
    go_wp2
    refine wp_loop_rounds 3 ?_
    rw [rounds_succ]
    go_wp2
    go_ret
    exact ⟨by simp, rfl⟩

/-- A pair as a value, and as cells. -/
def nv (x : Int × Int) : Value := .agg #[.int .i64 x.1, .int .i64 x.2]
def enc (x : Int × Int) : List Value := [.int .i64 x.1, .int .i64 x.2]
/-- What only draws, and lays blocks of its own. -/
def Gr (w : World) (v : Value) (e : Ending) (w' : World) : Prop := e = .returned v ∧ ∃ q os', w' = grow (w.drewN q) os'
theorem Gr.mk {w : World} {v : Value} (q : Nat) (os : Array Obj) : Gr w v (.returned v) (grow (w.drewN q) os) := ⟨rfl, q, os, rfl⟩

theorem cell_new (w : World) (t : TypeId) (cs : Array Value) (i g : Nat) (hg : g = w.heap.size) : (w.alloc (.cells cs t)).cell? ⟨g, i, none⟩ = cs[i]? := by
  subst hg
  exact (Blk.new w t cs).cell i
theorem cell_old (w : World) (o : Obj) (p : Addr) (h : p.block < w.heap.size) : (w.alloc o).cell? p = w.cell? p := World.cell?_alloc_lt w o p h

set_option maxHeartbeats 1600000 in
theorem order_any (x y : Int × Int) (w : World) : Calls Try.prog 29 #[.agg #[.int .i64 x.1, .int .i64 x.2], .agg #[.int .i64 y.1, .int .i64 y.2]] w (Gr w (.int .i64 (co x y))) := by
  obtain ⟨x1, x2⟩ := x
  obtain ⟨y1, y2⟩ := y
  have cr : ∀ W b p q, W.cell? ⟨b, 0, none⟩ = some (.int .i64 p) → W.cell? ⟨b, 1, none⟩ = some (.int .i64 q) → Calls Try.prog 35 #[.slice (some ⟨b, 0, none⟩) 2 2] W fun e w' => e = .returned (.int .i64 (orr p q)) ∧ W = w' :=
    fun W b p q h0 h1 => or_any b p q W h0 h1
  have K : ∀ W : World, W.heap.size = w.heap.size + 2 → (W.cell? ⟨w.heap.size, 0, none⟩ = some (.int .i64 x1) ∧ W.cell? ⟨w.heap.size, 1, none⟩ = some (.int .i64 x2) ∧ W.cell? ⟨w.heap.size + 1, 0, none⟩ = some (.int .i64 y1) ∧ W.cell? ⟨w.heap.size + 1, 1, none⟩ = some (.int .i64 y2)) →
      ∀ o, ((W.alloc o).cell? ⟨w.heap.size, 0, none⟩ = some (.int .i64 x1) ∧ (W.alloc o).cell? ⟨w.heap.size, 1, none⟩ = some (.int .i64 x2) ∧ (W.alloc o).cell? ⟨w.heap.size + 1, 0, none⟩ = some (.int .i64 y1) ∧ (W.alloc o).cell? ⟨w.heap.size + 1, 1, none⟩ = some (.int .i64 y2)) := by
    intro W hW h o
    refine ⟨?_, ?_, ?_, ?_⟩
    · rw [cell_old _ _ _ (by show w.heap.size < W.heap.size; omega)]; exact h.1
    · rw [cell_old _ _ _ (by show w.heap.size < W.heap.size; omega)]; exact h.2.1
    · rw [cell_old _ _ _ (by show w.heap.size + 1 < W.heap.size; omega)]; exact h.2.2.1
    · rw [cell_old _ _ _ (by show w.heap.size + 1 < W.heap.size; omega)]; exact h.2.2.2
  have K2 : ∀ t, (((w.alloc (.cells #[.int .i64 x1, .int .i64 x2] t)).alloc (.cells #[.int .i64 y1, .int .i64 y2] t)).cell? ⟨w.heap.size, 0, none⟩ = some (.int .i64 x1) ∧ ((w.alloc (.cells #[.int .i64 x1, .int .i64 x2] t)).alloc (.cells #[.int .i64 y1, .int .i64 y2] t)).cell? ⟨w.heap.size, 1, none⟩ = some (.int .i64 x2) ∧
      ((w.alloc (.cells #[.int .i64 x1, .int .i64 x2] t)).alloc (.cells #[.int .i64 y1, .int .i64 y2] t)).cell? ⟨w.heap.size + 1, 0, none⟩ = some (.int .i64 y1) ∧ ((w.alloc (.cells #[.int .i64 x1, .int .i64 x2] t)).alloc (.cells #[.int .i64 y1, .int .i64 y2] t)).cell? ⟨w.heap.size + 1, 1, none⟩ = some (.int .i64 y2)) := by
    intro t
    refine ⟨?_, ?_, ?_, ?_⟩
    · rw [cell_old _ _ _ (by simp), cell_new _ _ _ _ _ rfl]; rfl
    · rw [cell_old _ _ _ (by simp), cell_new _ _ _ _ _ rfl]; rfl
    · rw [cell_new _ _ _ _ _ (by simp)]; rfl
    · rw [cell_new _ _ _ _ _ (by simp)]; rfl
  have s2 : ∀ o o', ((w.alloc o).alloc o').heap.size = w.heap.size + 2 := by intro o o'; simp
  have K3 : ∀ t t', (((w.alloc (.cells #[.int .i64 x1, .int .i64 x2] t)).alloc (.cells #[.int .i64 y1, .int .i64 y2] t)).alloc (.cells #[.int .i64 (ci x1 y1), .int .i64 (ci x2 y2)] t')).cell? ⟨w.heap.size + 2, 0, none⟩ = some (.int .i64 (ci x1 y1)) := by
    intro t t'
    rw [cell_new _ _ _ _ _ (by simp)]; rfl
  have K4 : ∀ t t', (((w.alloc (.cells #[.int .i64 x1, .int .i64 x2] t)).alloc (.cells #[.int .i64 y1, .int .i64 y2] t)).alloc (.cells #[.int .i64 (ci x1 y1), .int .i64 (ci x2 y2)] t')).cell? ⟨w.heap.size + 2, 1, none⟩ = some (.int .i64 (ci x2 y2)) := by
    intro t t'
    rw [cell_new _ _ _ _ _ (by simp)]; rfl
  rw [show co (x1, x2) (y1, y2) = orr (ci x1 y1) (ci x2 y2) from rfl]
  go_enter Try.func29, Try.ntmps29
  go_wp2
  go_region_held3 (fun w' => w'.cell? ⟨w.heap.size, 0, none⟩ = some (.int .i64 x1) ∧ w'.cell? ⟨w.heap.size, 1, none⟩ = some (.int .i64 x2) ∧ w'.cell? ⟨w.heap.size + 1, 0, none⟩ = some (.int .i64 y1) ∧ w'.cell? ⟨w.heap.size + 1, 1, none⟩ = some (.int .i64 y2))
    (first | exact K2 _ | exact K _ (s2 _ _) (K2 _) _)
    (first
      | (go_at_call 36; refine (compare_any _ _ _).mono ?_; rintro e w' ⟨rfl, rfl⟩)
      | (go_at_call 35; refine (cr _ _ (ci x1 y1) (ci x2 y2) (by exact K3 _ _) (by exact K4 _ _)).mono ?_; rintro e w' ⟨rfl, rfl⟩))
  go_wp2
  go_ret
  refine ⟨rfl, 1, (#[.cells #[.int .i64 x1, .int .i64 x2] 29] ++ #[.cells #[.int .i64 y1, .int .i64 y2] 29]) ++ #[.cells #[.int .i64 (ci x1 y1), .int .i64 (ci x2 y2)] 3], ?_⟩
  rw [← grow_grow, ← grow_grow, ← alloc_eq_grow, ← alloc_eq_grow, ← alloc_eq_grow]
  rfl

theorem gr_below {w : World} {B : Nat} (q : Nat) (os : Array Obj) (hB : B ≤ w.heap.size) : Below B w (grow (w.drewN q) os) :=
  ⟨rfl, rfl, rfl, by rw [size_grow]; exact Nat.le_add_right _ _, fun i hi => heap_grow_old _ _ (by exact Nat.lt_of_lt_of_le hi hB)⟩
theorem less_any (x y : Int × Int) (w : World) : Calls Try.prog 15 #[.agg #[.int .i64 x.1, .int .i64 x.2], .agg #[.int .i64 y.1, .int .i64 y.2]] w (Gr w (.bool (nlt x y))) := by
  rw [← co_lt]
  obtain ⟨x1, x2⟩ := x
  obtain ⟨y1, y2⟩ := y
  have ho : ∀ W, Calls Try.prog 29 #[.agg #[.int .i64 x1, .int .i64 x2], .agg #[.int .i64 y1, .int .i64 y2]] W (Gr W (.int .i64 (co (x1, x2) (y1, y2)))) := order_any (x1, x2) (y1, y2)
  generalize co (x1, x2) (y1, y2) = r at ho ⊢
  go_enter Try.func15, Try.ntmps15
  go_wp2_with (go_at_call 29; refine (ho _).mono ?_; rintro e w' ⟨rfl, q, os, hw⟩)
  go_ret
  refine ⟨rfl, q, #[.cells #[.int .i64 x1, .int .i64 x2] 29] ++ (#[.cells #[.int .i64 y1, .int .i64 y2] 29] ++ os), ?_⟩
  rw [← grow_grow, ← grow_grow, ← alloc_eq_grow, ← alloc_eq_grow]
  rfl
end Go.Proofs.Ytdknjeikhdodeaa
