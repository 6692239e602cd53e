/-
  Contracts of the reference's Bytes and Read of layer 3, whatever comes in.
-/
import Derived.Test.YtcaleaecjoafhaaWide3
namespace Go.Proofs.Ytcaleaecjoafhaa
open Go.RowKit

theorem byte_low (x : Int) : IntKind.u8.wrap (IntKind.u16.wrap x) = ((byteAt (IntKind.u64.wrap x) 0).toNat : Int) := by
  rw [byteAt_nat, IntKind.wrap_u8', IntKind.wrap_u16, IntKind.wrap_u64]
  simp only [Nat.pow_zero, Nat.div_one]
  omega
theorem byte_high (x : Int) : IntKind.u8.wrap (IntKind.u16.wrap x / 256) = ((byteAt (IntKind.u64.wrap x) 1).toNat : Int) := by
  rw [byteAt_nat, IntKind.wrap_u8', IntKind.wrap_u16, IntKind.wrap_u64]
  simp only [Nat.pow_one]
  omega
theorem putB_two (z : Int) : putB z 2 = [byteAt z 0, byteAt z 1] := by simp [putB, List.range_succ]

set_option maxHeartbeats 3200000 in
theorem rbytes_any (A : Option Addr) (n c lo up : Nat) (l : List Int) (w : World) (hR : Row w lo up A n (IK .i16 l)) (hup : up ≤ w.heap.size) (hn : n ≤ 100000) :
    Calls Try.prog 31 #[.slice A n c] w (Fresh w (bts l)) := by
  obtain ⟨i0, hi, hz0, hz1, hz2⟩ := info_parts info8
  have hl := hR.len
  rw [IK_len] at hl
  have HL := hid hl
  clear hl
  go_enter Try.func31, Try.ntmps31
  go_wp2
  go_loopw [3, 4] (fun v i wr => ∃ k : Nat, k ≤ n ∧ i = .int .i64 k ∧ wr.ownsRow w.heap.size 5 1 v (2 * k) (U (bts (l.take k))) ∧ Below w.heap.size w wr) (fun _ i _ => n - (intOf i).toNat)
  case atStart => exact ⟨0, Nat.zero_le _, rfl, World.ownsRow_nil _ _ _ _, Below.refl _ _⟩
  case round =>
    obtain ⟨k, hk, rfl, hown, hb⟩ := hrel
    have hsz := hb.size
    by_cases hlt : k < n
    · have hka : k < l.length := by rw [HL.out]; exact hlt
      obtain ⟨p, off, rfl, _, hpu, hx⟩ := cells_at (hR.below hb hup) hka
      have HI : Hid (U (bts (l.take (k + 1))) = U (bts (l.take k)) ++ U [byteAt (IntKind.u64.wrap l[k]) 0, byteAt (IntKind.u64.wrap l[k]) 1]) := hid (by rw [bts_take l k hka, U_append, putB_two])
      have q1 := byte_low l[k]
      have q2 := byte_high l[k]
      generalize byteAt (IntKind.u64.wrap l[k]) 0 = b0 at *
      generalize byteAt (IntKind.u64.wrap l[k]) 1 = b1 at *
      generalize l[k] = x at *
      have np : some p ≠ u3.ownBlock := by intro h; have := (hown.lt p h.symm).1; omega
      have lp : p < wr.heap.size := by omega
      have i1 : (0 : Int) ≤ (k : Int) := by omega
      have i2 : (k : Int) < (n : Int) := by omega
      have cx := World.cell?_alloc_lt wr (.cells #[.int .u8 (b0.toNat : Int), .int .u8 (b1.toNat : Int)] 5) ⟨p, off + k, none⟩ lp
      have o1 : 2 * k + 2 ≤ maxLen := by unfold maxLen; omega
      have o2 : (2 * k + 2) * 1 ≤ 140737488355328 := by omega
      have o3 := U_one [b0, b1]
      go_wp2
      go_region_held3? (fun w' => w'.cell? ⟨p, off + k, none⟩ = some (.int .i16 x))
        (first | exact hx | exact cx.trans hx | exact (hgrow3.cell_far _ (by simp; omega) np).trans (cx.trans hx))
        (first
          | (refine step_append_row _ rfl (.tmp 11) (.tmp 25) 33 rfl w.heap.size 5 i0 (.int .u8 0) 1 Try.underlying33 hi hz0 hz1 hz2 rfl u3 (2 * k) (U (bts (l.take k))) rfl (by exact hown.alloc _) wr.heap.size (wr.heap.size + 1) (some ⟨wr.heap.size, 0, none⟩) 2 2 rfl (by intro h; cases h) (U [b0, b1]) (by exact row_lit_at wr _ [b0, b1] _ 2 _ rfl rfl rfl) o3 o1 o2 (by exact Nat.le_trans hsz (by simp)) ?_; intro v3 w3 hown3 hgrow3 at3))
      have hgrow3 := only_undrew hgrow3
      have hb3 : Below w.heap.size w w3 := (hb.alloc hsz _).grown hgrow3 (by simp; omega) (fun g hg => (hown.lt g hg).1)
      rw [← HI.out, show 2 * k + 2 = 2 * (k + 1) by omega] at hown3
      clear hgrow3 hown hb at3 cx np q1 q2
      go_wp2
      go_roundw
      case rel => exact ⟨k + 1, by omega, by go_num, hown3, hb3⟩
      case measure => simp [intOf]; omega
    · obtain rfl : k = n := by omega
      rw [List.take_of_length_le (by rw [HL.out]; exact Nat.le_refl _)] at hown
      have HB : Hid ((bts l).length = 2 * k) := hid (by rw [bts_len, HL.out])
      go_wp2
      go_ret
      exact fresh_mk HB.out hown hb
end Go.Proofs.Ytcaleaecjoafhaa
