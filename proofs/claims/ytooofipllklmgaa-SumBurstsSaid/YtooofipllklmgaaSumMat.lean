/-
  Contracts of sum's step and of its matrix: what it makes of a word, its square, the matrix of a byte.
-/
import Derived.Test.YtooofipllklmgaaSumStep
import Derived.Deep.WholeRow
namespace Go.Proofs.Ytooofipllklmgaa
open Go.RowKit Regs

theorem and_one (a : BitVec 32) : bits .and .u32 (a.toNat : Int) 1 = (a.toNat : Int) % 2 := by
  show IntKind.u32.wrap ((BitVec.ofInt 32 (a.toNat : Int) &&& BitVec.ofInt 32 1).toNat : Int) = _
  rw [ofInt_toNat, show BitVec.ofInt 32 1 = 1#32 by decide, wrap_word, BitVec.toNat_and]
  show ((a.toNat &&& 1 : Nat) : Int) = _
  rw [Nat.and_one_is_mod]
  rfl

theorem step_any (r : BitVec 32) (w : World) :
    Calls Try.prog 20 #[V r] w fun e w' => e = .returned (V (st r)) ∧ w' = w := by
  have h := and_one r
  have hw0 : (0 : Int) ≤ (r.toNat : Int) := Int.natCast_nonneg _
  rcases (by omega : (r.toNat : Int) % 2 = 1 ∨ (r.toNat : Int) % 2 = 0) with h1 | h1
  · have h2 : bits .and .u32 (r.toNat : Int) 1 = 1 := h.trans h1
    clear h
    go_enter Try.func20, Try.ntmps20
    go_wp2
    go_ret
    exact ⟨by rw [st_one r h1]; rfl, rfl⟩
  · have h2 : bits .and .u32 (r.toNat : Int) 1 = 0 := h.trans h1
    clear h
    go_enter Try.func20, Try.ntmps20
    go_wp2
    go_ret
    have h3 : bits .xor .u32 ((st r).toNat : Int) 0 = ((st r).toNat : Int) := by
      have := xor_word (st r) 0#32
      simpa using this
    exact ⟨by rw [st_nought r (by omega)]; simp [h3], rfl⟩

/-- Words as cells; the matrix of so many steps. -/
def WC (l : List (BitVec 32)) : Array Value := (l.map V).toArray
theorem wc_size (l : List (BitVec 32)) : (WC l).size = l.length := by simp [WC]
theorem wc_get (l : List (BitVec 32)) (k : Nat) (h : k < l.length) : (WC l)[k]? = some (V l[k]) := by simp [WC, h]
def mat (q : Nat) : List (BitVec 32) := (List.range 32).map fun i => stn q (1#32 <<< i)
theorem mat_len (q : Nat) : (mat q).length = 32 := by simp [mat]
theorem mat_get (q k : Nat) (h : k < (mat q).length) : (mat q)[k] = stn q (1#32 <<< k) := by simp [mat]

theorem info_m : (Try.prog.info? 38).map (·.size) = some 32 := by kernel_rfl

/-- A word of an array by value. -/
theorem run_index_words (l : List (BitVec 32)) (k : Nat) (hl : l.length = 32) (hk : k < l.length) (W : World) : (Instr.index 38 (.agg (WC l)) (.int .i64 k)).run Try.prog W = .ok (V l[k]) W := by
  have h2 := wc_get l k hk
  simp [Instr.index, run_underlying Try.underlying38, asIntOf, part, go_sem, h2]
  omega

/-- The matrix that a list of words is. -/
abbrev mx (l : List (BitVec 32)) : Nat → BitVec 32 := fun i => l.getD i 0#32
theorem tms_on (l : List (BitVec 32)) (r : BitVec 32) (k : Nat) (hk : k < l.length) (h : ((r >>> k).toNat : Int) % 2 = 1) : tms (mx l) r k ^^^ l[k] = tms (mx l) r (k + 1) := by
  rw [bit_word] at h
  have hb : r.getLsbD k = true := by split at h <;> simp_all
  rw [tms, hb, if_pos rfl]
  simp [mx, hk]
theorem tms_off (l : List (BitVec 32)) (r : BitVec 32) (k : Nat) (h : ¬ ((r >>> k).toNat : Int) % 2 = 1) : tms (mx l) r k = tms (mx l) r (k + 1) := by
  rw [bit_word] at h
  have hb : r.getLsbD k = false := by split at h <;> simp_all
  rw [tms, hb]
  simp
theorem shr_more (r : BitVec 32) (k : Nat) : ((r >>> k).toNat : Int) / 2 = ((r >>> (k + 1)).toNat : Int) := by
  rw [half_word, BitVec.shiftRight_add]

theorem of_any (l : List (BitVec 32)) (r : BitVec 32) (w : World) (hl : l.length = 32) :
    Calls Try.prog 18 #[.agg (WC l), V r] w fun e w' => e = .returned (V (tms (mx l) r 32)) ∧ Below w.heap.size w w' := by
  have HL := hid hl
  have hb := Blk.new w 38 (WC l)
  have HB := hid hb
  have hi : (Try.prog.info? 38).map (·.size) = some (WC l).size := by rw [wc_size, hl]; exact info_m
  have HI := hid hi
  clear hl hb hi
  go_enter Try.func18, Try.ntmps18
  go_wp2_with (refine wpList_load_row rfl 38 _ rfl w.heap.size rfl 38 (WC l) (0, 0) _ HB.out Try.underlying38 rfl HI.out ?_)
  go_loop [1, 5, 7, 9] (fun x s _ i => ∃ k : Nat, k ≤ 32 ∧ i = .int .i64 k ∧ x = V (r >>> k) ∧ s = V (tms (mx l) r k)) (fun _ _ _ i => 32 - (intOf i).toNat)
  case atStart => exact ⟨0, Nat.zero_le _, rfl, by simp, rfl⟩
  case round =>
    obtain ⟨k, hk, rfl, rfl, rfl⟩ := hrel
    obtain ⟨x, hx⟩ : ∃ x, x = r >>> k := ⟨_, rfl⟩
    obtain ⟨s, hs⟩ : ∃ x, x = tms (mx l) r k := ⟨_, rfl⟩
    have HX := hid hx
    have HS := hid hs
    rw [← hx, ← hs]
    clear hx hs
    have h1 := and_one x
    by_cases hlt : k < 32
    · have hk1 : k < l.length := by rw [HL.out]; exact hlt
      have hget := run_index_words l k HL.out hk1 (w.alloc (.cells (WC l) 38))
      have HT := hid (tms_on l r k hk1)
      generalize l[k] = y at hget HT
      go_wp2
      · have h2 : (x.toNat : Int) % 2 = 1 := by simpa using (by assumption : ((x.toNat : Int) % 2 == 1) = true)
        refine ⟨⟨k + 1, by omega, by go_num, ?_, ?_⟩, by simp [intOf]; omega⟩
        · rw [HX.out, shr_more]
        · rw [xor_word, HS.out, HT.out (by rw [← HX.out]; exact h2)]
      · have h2 : ¬ (x.toNat : Int) % 2 = 1 := by simpa using (by assumption : ((x.toNat : Int) % 2 == 1) = false)
        refine ⟨⟨k + 1, by omega, by go_num, ?_, ?_⟩, by simp [intOf]; omega⟩
        · rw [HX.out, shr_more]
        · rw [HS.out, ← tms_off l r k (by rw [← HX.out]; exact h2)]
    · obtain rfl : k = 32 := by omega
      go_wp2
      go_ret
      exact ⟨by rw [HS.out]; rfl, (Below.refl _ _).alloc (Nat.le_refl _) _⟩

/-- An array that is filled from the left. -/
def fillw (f : Nat → BitVec 32) (k : Nat) : List (BitVec 32) := (List.range 32).map fun i => if i < k then f i else 0#32
theorem fillw_len (f : Nat → BitVec 32) (k : Nat) : (fillw f k).length = 32 := by simp [fillw]
theorem fillw_set (f : Nat → BitVec 32) (k : Nat) : (WC (fillw f k)).setIfInBounds k (V (f k)) = WC (fillw f (k + 1)) := by
  apply Array.ext
  · simp [WC, fillw]
  · intro i h1 h2
    simp only [WC, fillw, List.getElem_toArray, List.getElem_map, List.getElem_range]
    by_cases h : k = i
    · subst h; simp
    · have e : (i < k + 1) = (i < k) := by apply propext; omega
      simp [h, e]
theorem fillw_all (f : Nat → BitVec 32) : fillw f 32 = (List.range 32).map f := by
  unfold fillw
  apply List.map_congr_left
  intro i hi
  have : i < 32 := by simpa using hi
  simp [this]
def noughts : Array Value := WC (fillw (fun _ => 0#32) 0)
theorem noughts_eq : noughts = #[.int .u32 0, .int .u32 0, .int .u32 0, .int .u32 0, .int .u32 0, .int .u32 0, .int .u32 0, .int .u32 0, .int .u32 0, .int .u32 0, .int .u32 0, .int .u32 0, .int .u32 0, .int .u32 0, .int .u32 0, .int .u32 0, .int .u32 0, .int .u32 0, .int .u32 0, .int .u32 0, .int .u32 0, .int .u32 0, .int .u32 0, .int .u32 0, .int .u32 0, .int .u32 0, .int .u32 0, .int .u32 0, .int .u32 0, .int .u32 0, .int .u32 0, .int .u32 0] := by rfl
theorem fillw_zero (f : Nat → BitVec 32) : WC (fillw f 0) = noughts := by simp [noughts, fillw]
theorem square_fill (q : Nat) (l : List (BitVec 32)) (h : l = mat q) : fillw (fun i => tms (mx l) (mx l i) 32) 32 = mat (2 * q) := by
  rw [fillw_all]
  unfold mat
  apply List.map_congr_left
  intro i hi
  have hi' : i < 32 := by simpa using hi
  refine square q (mx l) (fun j hj => ?_) i hi'
  subst h
  simp [mx, mat, hj]
/-- A whole array stored at a pointer: the frame stays. -/
theorem store_all {P : Program} {ops : Array Oper} {rest : List Oper} {o : Oper} {a : Act} {w : World} {Q : Exit → Act → World → Prop} (hgd : o.guard = none) (hd : o.dst = none) (ty : TypeId) (x y : Operand) (ho : o.op = .store ty x y)
    (g : Nat) (cells : Array Value) (hx : a.eval x = .pointer (some ⟨g, 0, none⟩)) (hy : a.eval y = .agg cells)
    (t : TypeId) (old : Array Value) (hg : Blk w g t old) (hi : (P.info? ty).map (·.size) = some cells.size)
    (hold : old.size = cells.size) (h1 : cells.all (·.oneCell') = true)
    (h : wpList P ops Q rest a (w.setRow g cells)) : wpList P ops Q (o :: rest) a w :=
  wpList_store_row hgd ty x y ho g cells hx hy t old hg hi hold h1 (by rw [hd]; exact h)
theorem setRow_below {B : Nat} {a w : World} (h : Below B a w) {g : Nat} (hg : B ≤ g) (cs : Array Value) : Below B a (w.setRow g cs) :=
  ⟨h.os, h.tape, h.output, by rw [setRow_size]; exact h.size, fun k hk => (setRow_other w g k cs (by omega)).trans (h.block k hk)⟩
theorem new_setRow (w : World) (g : Nat) (cs : Array Value) (t : TypeId) (cs' : Array Value) : Blk ((w.setRow g cs).alloc (.cells cs' t)) w.heap.size t cs' := by
  have := Blk.new (w.setRow g cs) t cs'
  rwa [setRow_size] at this
theorem wc_one (l : List (BitVec 32)) : (WC l).all (·.oneCell') = true := by
  rw [Array.all_eq_true_iff_forall_mem]
  intro x hx
  simp only [WC, List.mem_toArray, List.mem_map] at hx
  obtain ⟨c, _, rfl⟩ := hx
  rfl

set_option maxHeartbeats 1000000 in
theorem square_any (q : Nat) (w : World) :
    Calls Try.prog 19 #[.agg (WC (mat q))] w fun e w' => e = .returned (.agg (WC (mat (2 * q)))) ∧ Below w.heap.size w w' := by
  obtain ⟨l, hl⟩ : ∃ l, l = mat q := ⟨_, rfl⟩
  have HQ := hid (square_fill q l hl)
  have HL : Hid (l.length = 32) := hid (by rw [hl]; exact mat_len q)
  rw [← hl]
  clear hl
  have HI : Hid ((Try.prog.info? 38).map (·.size) = some (WC l).size) := hid (by rw [wc_size, HL.out]; exact info_m)
  go_enter Try.func19, Try.ntmps19
  go_wp2_with (refine wpList_load_row rfl 38 _ rfl w.heap.size rfl 38 (WC l) (0, 0) _ (((Blk.new w 38 (WC l)).alloc _).alloc _) Try.underlying38 rfl HI.out ?_)
  go_loopw [4, 5, 7] (fun _ _ i wr => ∃ k : Nat, k ≤ 32 ∧ i = .int .i64 k ∧ Blk wr w.heap.size 38 (WC l) ∧ Blk wr (w.heap.size + 1) 38 noughts ∧ Blk wr (w.heap.size + 1 + 1) 38 (WC (fillw (fun i => tms (mx l) (mx l i) 32) k)) ∧ Below w.heap.size w wr) (fun _ _ i _ => 32 - (intOf i).toNat)
  case atStart =>
    refine ⟨0, Nat.zero_le _, rfl, ((Blk.new w 38 (WC l)).alloc _).alloc _, ?_, ?_, (((Below.refl _ _).alloc (Nat.le_refl _) _).alloc (by simp) _).alloc (by simp; omega) _⟩
    · rw [noughts_eq]; exact Blk.alloc (by simpa using Blk.new (w.alloc (.cells (WC l) 38)) _ _) _
    · rw [fillw_zero, noughts_eq]; simpa using Blk.new ((w.alloc (.cells (WC l) 38)).alloc _) _ _
  case round =>
    obtain ⟨k, hk, rfl, b1, b2, b3, hbel⟩ := hrel
    have B1 := hid b1
    have B2 := hid b2
    have B3 := hid b3
    have BB := hid hbel
    clear b1 b2 b3 hbel
    by_cases hlt : k < 32
    · have hk1 : k < l.length := by rw [HL.out]; exact hlt
      have hget := run_index_words l k HL.out hk1 wr
      have HG : Hid (l[k] = mx l k) := hid (by simp [mx, hk1])
      generalize l[k] = y at hget HG
      have W1 := hid (of_any l y wr HL.out)
      go_wp2_with (refine wpList_load_row rfl 38 _ rfl w.heap.size rfl 38 (WC l) (0, 0) _ B1.out Try.underlying38 rfl HI.out ?_)
      refine W1.out.mono ?_
      rintro e w1 ⟨rfl, hb⟩
      have c3 := B3.out.below hb B3.out.lt
      have C3 := hid c3
      have hcell := c3.cell k
      rw [wc_get _ k (by rw [fillw_len]; exact hlt)] at hcell
      have hfr := c3.frozen k
      clear c3
      go_wp2
      go_roundw
      case rel =>
        refine ⟨k + 1, by omega, by go_num, (B1.out.below hb B1.out.lt).far (by simp; omega) _, (B2.out.below hb B2.out.lt).far (by simp) _, ?_, (BB.out.trans (hb.mono BB.out.size)).setCell (by simp; omega) _⟩
        rw [← fillw_set, HG.out]
        exact C3.out.set k _
      case measure => simp [intOf]; omega
    · obtain rfl : k = 32 := by omega
      have HJ : Hid ((Try.prog.info? 38).map (·.size) = some (WC (mat (2 * q))).size) := hid (by rw [wc_size, mat_len]; exact info_m)
      have b3 := B3.out
      rw [HQ.out] at b3
      have C3 := hid b3
      clear b3
      go_wp2_with (first | refine wpList_load_row rfl 38 _ rfl (w.heap.size + 1 + 1) rfl 38 (WC (mat (2 * q))) (0, 0) _ C3.out Try.underlying38 rfl HJ.out ?_ | refine store_all rfl rfl 38 _ _ rfl (w.heap.size + 1) (WC (mat (2 * q))) rfl rfl 38 noughts B2.out HJ.out (by rw [wc_size, mat_len]; rfl) (wc_one _) ?_)
      refine bodyPost_ret (v := .agg (WC (mat (2 * q)))) ?_ rfl ⟨rfl, ?_⟩
      · exact results_cell_row rfl _ _ (w.heap.size + 1) 38 _ (0, 0) _ rfl (setRow_heap _ _ _ _ _ _ B2.out) Try.underlying38 rfl HJ.out
      · exact setRow_below BB.out (by omega) _
end Go.Proofs.Ytooofipllklmgaa
