/-
  Noughts appended to bytes of the call's own (the translation hands the builtin a number in the place of a slice).
-/
import Derived.Test.YtpckloafdlkefaaGreatMadeBytes
import Derived.Lib.AppendZerosOnto
namespace Go.Proofs.YtpckloafdlkefaaGreat
set_option maxRecDepth 40000
open Go.RowKit

theorem zero_bytes (m : Nat) : Builtin.zeroCells (Value.int .u8 0).cells m = (U (List.replicate m 0)).toArray := by
  apply Array.ext
  · simp [Builtin.zeroCells, U, Value.cells]
  · intro i h1 h2
    simp [Builtin.zeroCells, U, Value.cells, Nat.mod_one]
/-- A row out of a block whose first cells are these bytes. -/
theorem row_first {w : World} {g : Nat} {t : TypeId} {cs : Array Value} {l : List UInt8} {n lo up : Nat} (h : Blk w g t cs) (hn : l.length = n) (hc : cs.toList.take n = U l) (h1 : lo ≤ g) (h2 : g < up) : Row w lo up (some ⟨g, 0, none⟩) n (U l) := by
  subst hn
  refine ⟨U_len l, fun _ => ⟨g, 0, rfl, h1, h2, fun j u hu => ?_⟩⟩
  have hj : j < l.length := by have := (List.getElem?_eq_some_iff.1 hu).1; rwa [U_len] at this
  rw [Nat.zero_add, h.cell j]
  rw [← hc, List.getElem?_take, if_pos hj] at hu
  simpa using hu

/-- An append whose run is known, at an operation that is asked for. -/
theorem wpList_append_asked {P : Program} (w : World) {ops : Array Oper} {rest : List Oper} {o : Oper} {a : Act} {Q : Exit → Act → World → Prop} (hwant : Region.wanted o (yielded ops a.tmps) = true) (s x : Operand) (t tn : TypeId)
    (ho : o.op = .call { callee := .builtin .append, args := #[s, x], argTypes := #[t, tn] }) (vs vx : Value) (hs : a.eval s = vs) (hx : a.eval x = vx)
    (v' : Value) (w' : World) (hr : (Builtin.append_ #[t, tn] o.type #[vs, vx]).run P w = .ok v' w') (h : wpList P ops Q rest (a.put o.dst v') w') : wpList P ops Q (o :: rest) a w :=
  wpList_step fun K hK => by
    rw [if_pos hwant]
    exact Lib.wp_append_run w s x t tn ho vs vx hs hx v' w' hr (hK _ _ h)
theorem run_append_noughts (w : World) (base n m : Nat) (v : Value) (l : List UInt8) (ty : TypeId) (hown : w.ownsRow base 5 1 v n (U l)) (hn : n ≤ 1000000) (hm : m ≤ 1000000) (hbase : base ≤ w.heap.size) :
    ∃ A c w', (Builtin.append_ #[33, 3] ty #[v, .int .i64 m]).run Tryz.prog w = .ok (.slice A (n + m) c) w' ∧ Row w' base w'.heap.size A (n + m) (U (l ++ List.replicate m 0)) ∧ Below base w w' := by
  obtain ⟨i, hi, hz0, hz1, hz2⟩ := info_parts info5
  have hl : l.length = n := by have := hown.1; rw [U_len] at this; omega
  have ht : Tryz.prog.underlying 33 = some (.slice 5) := Tryz.underlying33
  have htn : Tryz.prog.underlying 3 = some (.int .i64) := Tryz.underlying3
  have hw : IntKind.i64.wrap (m : Int) = m := by rw [IntKind.wrap_i64]; omega
  have hneg : ¬ ((m : Int) < 0) := by omega
  have hlm : (l ++ List.replicate m 0).length = n + m := by simp [hl]
  by_cases h0 : m = 0
  · subst h0
    rcases hown.2 with ⟨rfl, rfl⟩ | ⟨g, cap, cur, rfl, hg, hb, hc, _, hs, hx⟩
    · have hl0 : l = [] := List.eq_nil_of_length_eq_zero hl
      subst hl0
      refine ⟨none, 0, w, ?_, Row.empty, Below.refl _ _⟩
      simp [Builtin.append_, run_underlying ht, run_underlying htn, sizeOf, typeInfo, hi, hz2, asInt, asIntOf, IntKind.wrap_i64]
    · have hroom : n ≤ cap := hc
      refine ⟨some ⟨g, 0, none⟩, cap, w, ?_, ?_, Below.refl _ _⟩
      · simp [Builtin.append_, run_underlying ht, run_underlying htn, sizeOf, typeInfo, hi, hz2, asInt, asIntOf, IntKind.wrap_i64, hroom, storeCells]
      · simp only [List.replicate_zero, List.append_nil, Nat.add_zero]
        exact Row.of_own hown
  · have hpos : 0 < m := Nat.pos_of_ne_zero h0
    have hU : U (l ++ List.replicate m 0) = U l ++ U (List.replicate m 0) := U_append _ _
    have hUl : (U l).length = n := by rw [U_len, hl]
    rcases hown.2 with ⟨rfl, rfl⟩ | ⟨g, cap, cur, rfl, hg, hb, hc, _, hs, hx⟩
    · have hl0 : l = [] := List.eq_nil_of_length_eq_zero hl
      subst hl0
      have hr := Lib.run_append_nil_zeros (P := Tryz.prog) w 33 3 ty 5 i (.int .u8 0) .i64 .i64 ht htn hi hz0 m hpos (by omega) (by omega) (by rw [hz2]; omega)
      refine ⟨_, _, _, by rw [Nat.zero_add]; exact hr, ?_, ((Below.refl _ _).drew).alloc hbase _⟩
      refine row_first (Blk.new w.drew _ _) (by simp) ?_ hbase (by simp)
      rw [zero_bytes, Nat.zero_add, List.nil_append]
      simp [U]
    · simp only [Nat.mul_one] at hs hx
      by_cases hroom : n + m ≤ cap
      · have hst := run_storeCells_at Tryz.prog g n 5 (U (List.replicate m 0)) 0 cur w hb (by rw [U_len, List.length_replicate, hs]; omega) (U_one _)
        simp only [Nat.add_zero] at hst
        refine ⟨some ⟨g, 0, none⟩, cap, w.setRow g (cur.toList.take n ++ U (List.replicate m 0) ++ cur.toList.drop (n + (U (List.replicate m 0)).length)).toArray, ?_, ?_, ?_⟩
        · have h48i : ¬ (281474976710656 < (m : Int)) := by omega
          have hzb := zero_bytes m
          simp [Builtin.append_, run_underlying ht, run_underlying htn, sizeOf, typeInfo, zeroValue, hi, hz0, hz1, hz2, asInt, asIntOf, hw, hneg, h48i, h0, hroom, hzb, Addr.add_lit, hst]
        · refine row_first (setRow_heap w g cur _ _ _ hb) hlm ?_ hg (by rw [setRow_size]; exact Blk.lt hb)
          rw [hU, hx, List.append_assoc, ← List.append_assoc]
          simp only [List.append_assoc]
          rw [← List.append_assoc]
          exact List.take_left' (by rw [List.length_append, hUl, U_len, List.length_replicate])
        · exact ⟨rfl, rfl, rfl, by rw [setRow_size]; exact Nat.le_refl _, fun k hk => setRow_other w g k _ (by omega)⟩
      · have hcells : ∀ j u, (U l)[j]? = some u → w.drew.cell? ((⟨g, 0, none⟩ : Addr).add j) = some u := hown.cells (g := g) rfl
        have hr := Lib.run_append_grow_zeros (P := Tryz.prog) w 33 3 ty 5 i (.int .u8 0) .i64 .i64 ht htn hi hz0 (some ⟨g, 0, none⟩) n cap (U l)
          (by rw [hz1]; exact run_firstCells_some (P := Tryz.prog) w.drew 1 n ⟨g, 0, none⟩ n cap (U l) (by rw [hUl, Nat.mul_one]) hcells) m hpos (by omega) (by omega) (by omega) (by rw [hz2]; omega) (by rw [hz2]; exact growslice_fits (by omega) (by omega))
        refine ⟨_, _, _, hr, ?_, ((Below.refl _ _).drew).alloc hbase _⟩
        refine row_first (Blk.new w.drew _ _) hlm ?_ hbase (by simp)
        rw [zero_bytes, hU]
        simp only [Array.toList_append, List.append_assoc]
        rw [← List.append_assoc]
        exact List.take_left' (by rw [List.length_append, hUl, U_len, List.length_replicate])
end Go.Proofs.YtpckloafdlkefaaGreat
