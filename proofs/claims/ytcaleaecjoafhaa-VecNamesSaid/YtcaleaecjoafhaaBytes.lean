/-
  The contract of vec.Bytes, whatever raw vector comes in.
-/
import Derived.Test.YtcaleaecjoafhaaJoined
import Derived.Test.YtcaleaecjoafhaaPut
import Derived.Deep.RegionLaw
import Derived.Deep.RegionHeld3
namespace Go.Proofs.Ytcaleaecjoafhaa
open Go.RowKit

/-- The bytes of raw numbers. -/
def bts (l : List Int) : List UInt8 := l.flatMap fun x => putB (IntKind.u64.wrap x) 2
theorem bts_len (l : List Int) : (bts l).length = 2 * l.length := by
  induction l with
  | nil => rfl
  | cons x l ih => simp only [bts, List.flatMap_cons, List.length_append, putB_len, List.length_cons] at ih ⊢; omega
theorem bts_take (l : List Int) (k : Nat) (h : k < l.length) : bts (l.take (k + 1)) = bts (l.take k) ++ putB (IntKind.u64.wrap l[k]) 2 := by
  rw [List.take_succ_eq_append_getElem h]
  simp only [bts, List.flatMap_append, List.flatMap_cons, List.flatMap_nil, List.append_nil]
theorem only_store (w : World) (g i : Nat) (u : Value) : w.grownBy (w.setCell ⟨g, i, none⟩ u) (some g) := only_set (World.grownBy.refl w (some g)) i u

theorem below_undrew' {w w' : World} (h : Below w.drew.heap.size w.drew w') : Below w.heap.size w w' := ⟨h.os, h.tape, h.output, h.size, h.block⟩
theorem own_kept {w w' : World} {base n : Nat} {e : TypeId} {v : Value} {xs : List Value} (h : w.ownsRow base e 1 v n xs) (hb : Below w.drew.heap.size w.drew w') : w'.ownsRow base e 1 v n xs :=
  World.ownsRow.kept (w := w.drew) h (only_of_below hb none) (Classical.em _)
set_option maxHeartbeats 1600000 in
theorem bytesStep (g base m c k : Nat) (x : Int) (A : Option Addr) (bs : List UInt8) (w : World) (k1 : Blk w g 33 #[.slice A m c]) (hne : (Value.slice A m c).ownBlock ≠ some g) (own : w.ownsRow base 5 1 (.slice A m c) m (U bs)) (hbase : base ≤ w.heap.size) (hg : base ≤ g) (hm : m ≤ 1000000) :
    Calls Try.prog 57 #[.int .i64 k, .int .i16 x, .pointer (some ⟨g, 0, none⟩)] w fun e w' => e = .returned (.bool true) ∧
      ∃ A' c', Blk w' g 33 #[.slice A' (m + 2) c'] ∧ (Value.slice A' (m + 2) c').ownBlock ≠ some g ∧ w'.ownsRow base 5 1 (.slice A' (m + 2) c') (m + 2) (U (bs ++ putB (IntKind.u64.wrap x) 2)) ∧ Below base w w' := by
  obtain ⟨i0, hi, hz0, hz1, hz2⟩ := info_parts info8
  have hc : w.cell? ⟨g, 0, none⟩ = some (.slice A m c) := k1.cell 0
  have hf := k1.frozen 0
  have hne' : some g ≠ (Value.slice A m c).ownBlock := hne.symm
  have hgl := k1.lt
  obtain ⟨z, hz, hz0'⟩ : ∃ z, IntKind.u64.wrap x = z ∧ 0 ≤ z := ⟨_, rfl, by rw [IntKind.wrap_u64]; omega⟩
  have hap : ∀ u ∈ U (putB z 2), u.oneCell' = true := U_one _
  have o1 : m + 2 ≤ maxLen := by unfold maxLen; omega
  have o2 : (m + 2) * 1 ≤ 140737488355328 := by omega
  rw [hz]
  go_enter Try.func57, Try.ntmps57
  go_wp2
  go_region_law (first
      | (refine step_append_row _ rfl (.tmp 6) (.tmp 9) 33 rfl base 5 i0 (.int .u8 0) 1 Try.underlying33 hi hz0 hz1 hz2 rfl (.slice A m c) m (U bs) rfl own6 w.heap.size w5.heap.size A5 2 c5 rfl z5.out (U (putB z 2)) (by exact Row.of_own own5) hap o1 o2 (Nat.le_trans hbase hb5.size) ?_; intro v7 w7 own7 grow7 at7; obtain ⟨A7, c7, rfl, _, _⟩ := own_shape own7; have k7 := k5.grown grow7 hne'; have hf7 := k7.frozen 0; have hc7 : w7.cell? ⟨g, 0, none⟩ = some (.slice A m c) := k7.cell 0)
      | (go_simp; go_at_call 58; refine (put_any none 0 0 0 0 [] z 2 _ Row.empty (fun _ => rfl) (Nat.zero_le _) (by omega) hz0').mono ?_; rintro e w5 ⟨A5, n5, c5, rfl, l5, z5, own5, hb5⟩; obtain rfl : n5 = 2 := l5.out.symm; have own6 := own_kept own hb5; have k5 := Blk.below (w := w.drew) k1 hb5 hgl; have hc5 : w5.cell? ⟨g, 0, none⟩ = some (.slice A m c) := k5.cell 0))
  all_goals
    have hne7 : (Value.slice A7 (m + 2) c7).ownBlock ≠ some g := by
      rcases at7 with h | h
      · rw [h]; exact hne
      · rw [h]
        intro hc
        injection hc with hc
        have := hb5.size
        have hz : w.drew.heap.size = w.heap.size := rfl
        omega
    have own8 := own7.kept (only_store w7 g 0 (.slice A7 (m + 2) c7)) (.inr hne7)
    have k8 : Blk (w7.setCell ⟨g, 0, none⟩ (.slice A7 (m + 2) c7)) g 33 #[.slice A7 (m + 2) c7] := k7.set 0 (.slice A7 (m + 2) c7)
    have hb8 : Below base w (w7.setCell ⟨g, 0, none⟩ (.slice A7 (m + 2) c7)) :=
      (((below_undrew' hb5).mono hbase).grown grow7 (Nat.le_trans hbase hb5.size) (fun j hj => (own6.lt j hj).1)).setCell hg _
    rw [← U_append] at own8
    generalize w7.setCell ⟨g, 0, none⟩ (.slice A7 (m + 2) c7) = w8 at *
    go_wp2
    go_ret
    exact ⟨rfl, A7, c7, k8, hne7, own8, hb8⟩

set_option maxHeartbeats 800000 in
theorem bytes_any (A : Option Addr) (n c lo up : Nat) (l : List Int) (w : World) (hR : Row w lo up A n (IK .i16 l)) (hup : up ≤ w.heap.size) (hn : n ≤ 100000) :
    Calls Try.prog 30 #[.slice A n c] w (Fresh w (bts l)) := by
  have hl := hR.len
  rw [IK_len] at hl
  have HL := hid hl
  clear hl
  have hqm : ∀ W : World, (Instr.makeSlice 33 (.int .i64 0) (.int .i64 (2 * (n : Int)))).run Try.prog W = .ok (.slice (some ⟨W.heap.size, 0, none⟩) 0 (2 * n)) (W.alloc (.cells (IK .u8 (List.replicate (2 * n) 0)).toArray 5)) := by
    intro W
    obtain ⟨i0, hi, hz0, hz1, hz2⟩ := info_parts info8
    have h := run_make (P := Try.prog) W 33 5 i0 (.int .u8 0) Try.underlying33 hi hz0 .i64 .i64 0 (2 * (n : Int)) (by omega) (by omega) (by rw [hz2]; omega) (by omega)
    rw [h, hz1, Nat.mul_one, show (2 * (n : Int)).toNat = 2 * n by omega]
    congr 2
    congr 1
    exact made_nought .u8 (2 * n)
  have HT := hid (through16 57 #[.pointer (some ⟨w.heap.size + 1, 0, none⟩)] A n c l ((w.alloc (.cells (IK .u8 (List.replicate (2 * n) 0)).toArray 5)).alloc (.cells #[.slice (some ⟨w.heap.size, 0, none⟩) 0 (2 * n)] 33))
    (fun k wr => ∃ A' c', Blk wr (w.heap.size + 1) 33 #[.slice A' (2 * k) c'] ∧ (Value.slice A' (2 * k) c').ownBlock ≠ some (w.heap.size + 1) ∧ wr.ownsRow w.heap.size 5 1 (.slice A' (2 * k) c') (2 * k) (U (bts (l.take k))) ∧ Below w.heap.size w wr)
    (fun _ => False) (enters_of Try.func57 (by kernel_rfl) rfl) (by omega) HL.out
    (fun k wr _ ⟨_, _, _, _, _, h⟩ => ⟨lo, up, hR.below h hup⟩)
    (by
      rintro k hk wr ⟨A', c', k1, k2, k3, k4⟩
      have hkn : k < n := by rw [← HL.out]; exact hk
      refine (bytesStep (w.heap.size + 1) w.heap.size (2 * k) c' k l[k] A' (bts (l.take k)) wr k1 k2 k3 k4.size (by omega) (by omega)).mono ?_
      rintro e w' ⟨rfl, A2, c2, j1, j2, j3, j4⟩
      rw [← bts_take l k hk] at j3
      exact .inl ⟨rfl, A2, c2, j1, j2, j3, k4.trans j4⟩)
    (by
      refine ⟨some ⟨w.heap.size, 0, none⟩, 2 * n, ?_, by simp [Value.ownBlock], ?_, ((Below.refl _ _).alloc (Nat.le_refl _) _).alloc (by simp) _⟩
      · have := Blk.new (w.alloc (.cells (IK .u8 (List.replicate (2 * n) 0)).toArray 5)) 33 #[.slice (some ⟨w.heap.size, 0, none⟩) 0 (2 * n)]
        simpa using this
      · have h := World.ownsRow_made w (e := 5) (size := 1) (IK .u8 (List.replicate (2 * n) 0)).toArray (2 * n) (Nat.le_refl w.heap.size) (by unfold maxLen; omega) (by simp [IK])
        exact h.alloc _))
  go_enter Try.func30, Try.ntmps30
  go_wp2_with fail
  refine HT.out.mono ?_
  rintro e w1 (⟨rfl, A1, c1, k1, k2, k3, k4⟩ | ⟨_, hF⟩)
  · rw [List.take_of_length_le (by rw [HL.out]; exact Nat.le_refl _)] at k3
    have hc : w1.cell? ⟨w.heap.size + 1, 0, none⟩ = some (.slice A1 (2 * n) c1) := k1.cell 0
    have HB : Hid ((bts l).length = 2 * n) := hid (by rw [bts_len, HL.out])
    clear k1 k2
    go_wp2
    go_ret
    exact fresh_mk HB.out k3 k4
  · exact hF.elim
end Go.Proofs.Ytcaleaecjoafhaa
