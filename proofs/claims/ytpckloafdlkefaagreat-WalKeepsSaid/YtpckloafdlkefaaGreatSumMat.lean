/-
  Contracts of sum's step and of its matrix: what it makes of a word, its square, the matrix of a byte.
-/
import Derived.Test.YtpckloafdlkefaaGreatSumStep
import Derived.Deep.WholeRow
namespace Go.Proofs.YtpckloafdlkefaaGreat
set_option maxRecDepth 40000
open Go.RowKit Regs

theorem and_one (a : BitVec 32) : bits .and .u32 (a.toNat : Int) 1 = (a.toNat : Int) % 2 := by
  show IntKind.u32.wrap ((BitVec.ofInt 32 (a.toNat : Int) &&& BitVec.ofInt 32 1).toNat : Int) = _
  rw [ofInt_toNat, show BitVec.ofInt 32 1 = 1#32 by decide, wrap_word, BitVec.toNat_and]
  show ((a.toNat &&& 1 : Nat) : Int) = _
  rw [Nat.and_one_is_mod]
  rfl

theorem step_any (r : BitVec 32) (w : World) :
    Calls Tryz.prog 143 #[V r] w fun e w' => e = .returned (V (st r)) ∧ w' = w := by
  have h := and_one r
  have hw0 : (0 : Int) ≤ (r.toNat : Int) := Int.natCast_nonneg _
  rcases (by omega : (r.toNat : Int) % 2 = 1 ∨ (r.toNat : Int) % 2 = 0) with h1 | h1
  · have h2 : bits .and .u32 (r.toNat : Int) 1 = 1 := h.trans h1
    clear h
    go_enter Tryz.func143, Tryz.ntmps143
    go_wp2
    go_ret
    exact ⟨by rw [st_one r h1]; rfl, rfl⟩
  · have h2 : bits .and .u32 (r.toNat : Int) 1 = 0 := h.trans h1
    clear h
    go_enter Tryz.func143, Tryz.ntmps143
    go_wp2
    go_ret
    have h3 : bits .xor .u32 ((st r).toNat : Int) 0 = ((st r).toNat : Int) := by
      have := xor_word (st r) 0#32
      simpa using this
    exact ⟨by rw [st_nought r (by omega)]; simp [h3], rfl⟩

/-- Words as cells; the matrix of so many steps. -/
def WC (l : List (BitVec 32)) : Array Value := (l.map V).toArray
theorem wc_size (l : List (BitVec 32)) : (WC l).size = l.length := by simp [WC]
theorem wc_get (l : List (BitVec 32)) (k : Nat) (h : k < l.length) : (WC l)[k]? = some (V l[k]) := by simp [WC, h]
def mat (q : Nat) : List (BitVec 32) := (List.range 32).map fun i => stn q (1#32 <<< i)
theorem mat_len (q : Nat) : (mat q).length = 32 := by simp [mat]
theorem mat_get (q k : Nat) (h : k < (mat q).length) : (mat q)[k] = stn q (1#32 <<< k) := by simp [mat]

/-- The matrix that a list of words is. -/
abbrev mx (l : List (BitVec 32)) : Nat → BitVec 32 := fun i => l.getD i 0#32
theorem tms_on (l : List (BitVec 32)) (r : BitVec 32) (k : Nat) (hk : k < l.length) (h : ((r >>> k).toNat : Int) % 2 = 1) : tms (mx l) r k ^^^ l[k] = tms (mx l) r (k + 1) := by
  rw [bit_word] at h
  have hb : r.getLsbD k = true := by split at h <;> simp_all
  rw [tms, hb, if_pos rfl]
  simp [mx, hk]
theorem tms_off (l : List (BitVec 32)) (r : BitVec 32) (k : Nat) (h : ¬ ((r >>> k).toNat : Int) % 2 = 1) : tms (mx l) r k = tms (mx l) r (k + 1) := by
  rw [bit_word] at h
  have hb : r.getLsbD k = false := by split at h <;> simp_all
  rw [tms, hb]
  simp
theorem shr_more (r : BitVec 32) (k : Nat) : ((r >>> k).toNat : Int) / 2 = ((r >>> (k + 1)).toNat : Int) := by
  rw [half_word, BitVec.shiftRight_add]

/-- An array that is filled from the left. -/
def fillw (f : Nat → BitVec 32) (k : Nat) : List (BitVec 32) := (List.range 32).map fun i => if i < k then f i else 0#32
theorem fillw_len (f : Nat → BitVec 32) (k : Nat) : (fillw f k).length = 32 := by simp [fillw]
theorem fillw_set (f : Nat → BitVec 32) (k : Nat) : (WC (fillw f k)).setIfInBounds k (V (f k)) = WC (fillw f (k + 1)) := by
  apply Array.ext
  · simp [WC, fillw]
  · intro i h1 h2
    simp only [WC, fillw, List.getElem_toArray, List.getElem_map, List.getElem_range]
    by_cases h : k = i
    · subst h; simp
    · have e : (i < k + 1) = (i < k) := by apply propext; omega
      simp [h, e]
theorem fillw_all (f : Nat → BitVec 32) : fillw f 32 = (List.range 32).map f := by
  unfold fillw
  apply List.map_congr_left
  intro i hi
  have : i < 32 := by simpa using hi
  simp [this]
def noughts : Array Value := WC (fillw (fun _ => 0#32) 0)
theorem noughts_eq : noughts = #[.int .u32 0, .int .u32 0, .int .u32 0, .int .u32 0, .int .u32 0, .int .u32 0, .int .u32 0, .int .u32 0, .int .u32 0, .int .u32 0, .int .u32 0, .int .u32 0, .int .u32 0, .int .u32 0, .int .u32 0, .int .u32 0, .int .u32 0, .int .u32 0, .int .u32 0, .int .u32 0, .int .u32 0, .int .u32 0, .int .u32 0, .int .u32 0, .int .u32 0, .int .u32 0, .int .u32 0, .int .u32 0, .int .u32 0, .int .u32 0, .int .u32 0, .int .u32 0] := by rfl
theorem fillw_zero (f : Nat → BitVec 32) : WC (fillw f 0) = noughts := by simp [noughts, fillw]
theorem square_fill (q : Nat) (l : List (BitVec 32)) (h : l = mat q) : fillw (fun i => tms (mx l) (mx l i) 32) 32 = mat (2 * q) := by
  rw [fillw_all]
  unfold mat
  apply List.map_congr_left
  intro i hi
  have hi' : i < 32 := by simpa using hi
  refine square q (mx l) (fun j hj => ?_) i hi'
  subst h
  simp [mx, mat, hj]
/-- A whole array stored at a pointer: the frame stays. -/
theorem store_all {P : Program} {ops : Array Oper} {rest : List Oper} {o : Oper} {a : Act} {w : World} {Q : Exit → Act → World → Prop} (hgd : o.guard = none) (hd : o.dst = none) (ty : TypeId) (x y : Operand) (ho : o.op = .store ty x y)
    (g : Nat) (cells : Array Value) (hx : a.eval x = .pointer (some ⟨g, 0, none⟩)) (hy : a.eval y = .agg cells)
    (t : TypeId) (old : Array Value) (hg : Blk w g t old) (hi : (P.info? ty).map (·.size) = some cells.size)
    (hold : old.size = cells.size) (h1 : cells.all (·.oneCell') = true)
    (h : wpList P ops Q rest a (w.setRow g cells)) : wpList P ops Q (o :: rest) a w :=
  wpList_store_row hgd ty x y ho g cells hx hy t old hg hi hold h1 (by rw [hd]; exact h)
theorem setRow_below {B : Nat} {a w : World} (h : Below B a w) {g : Nat} (hg : B ≤ g) (cs : Array Value) : Below B a (w.setRow g cs) :=
  ⟨h.os, h.tape, h.output, by rw [setRow_size]; exact h.size, fun k hk => (setRow_other w g k cs (by omega)).trans (h.block k hk)⟩
theorem new_setRow (w : World) (g : Nat) (cs : Array Value) (t : TypeId) (cs' : Array Value) : Blk ((w.setRow g cs).alloc (.cells cs' t)) w.heap.size t cs' := by
  have := Blk.new (w.setRow g cs) t cs'
  rwa [setRow_size] at this
theorem wc_one (l : List (BitVec 32)) : (WC l).all (·.oneCell') = true := by
  rw [Array.all_eq_true_iff_forall_mem]
  intro x hx
  simp only [WC, List.mem_toArray, List.mem_map] at hx
  obtain ⟨c, _, rfl⟩ := hx
  rfl

end Go.Proofs.YtpckloafdlkefaaGreat
