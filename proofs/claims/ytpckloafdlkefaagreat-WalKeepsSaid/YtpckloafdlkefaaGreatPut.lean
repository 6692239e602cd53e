/-
  Contracts of octet.Put and of the reference's: whatever bytes, number and count come in, the bytes with the number's low bytes behind, in memory of their own.
-/
import Derived.Test.YtpckloafdlkefaaGreatKit
import Derived.Test.YtpckloafdlkefaaGreatMath
namespace Go.Proofs.YtpckloafdlkefaaGreat
set_option maxRecDepth 40000
open Go.RowKit

set_option maxHeartbeats 800000 in
theorem put_any (A : Option Addr) (m c lo up : Nat) (l : List UInt8) (x n : Int) (w : World) (hR : Row w lo up A m (U l)) (hA : A = none → c = 0) (hup : up ≤ w.heap.size) (hm : m ≤ 140737488350000)
    (h0 : 0 ≤ x) :
    Calls Tryz.prog 82 #[.slice A m c, .int .u64 x, .int .i64 n] w (Fresh w (l ++ putB x (clampN n))) := by
  obtain ⟨i0, hi, hz0, hz1, hz2⟩ := info_parts info5
  have hl : l.length = m := by have := hR.len; rwa [U_len] at this
  have HL : Hid (l.length = m) := hl
  clear hl
  obtain ⟨N, HN, hN8, hcase⟩ : ∃ N : Nat, Hid (clampN n = N) ∧ N ≤ 8 ∧ ((n < 0 ∧ N ≤ 0) ∨ (8 < n ∧ 8 ≤ N) ∨ (0 ≤ n ∧ n ≤ 8 ∧ n = (N : Int))) := by
    refine ⟨clampN n, rfl, by unfold clampN; omega, by unfold clampN; omega⟩
  have HS : Hid (∀ k, l ++ putB x (k + 1) = (l ++ putB x k) ++ [byteAt x k]) := fun k => by rw [putB_succ, List.append_assoc]
  have HB : Hid (∀ k : Nat, IntKind.u8.wrap (x / 2 ^ (8 * k)) = ((byteAt x k).toNat : Int)) := fun k => shr_byte x k h0
  have H0 : Hid (l ++ putB x 0 = l) := show _ = _ by simp [putB]
  have HFin : Hid (l ++ putB x (clampN n) = l ++ putB x N) := show _ = _ by rw [HN.out]
  clear HN
  rcases hcase with ⟨hc, hN⟩ | ⟨hc, hN⟩ | ⟨hc, hc', rfl⟩
  all_goals
    go_enter Tryz.func82, Tryz.ntmps82
    go_wp2_with (first
      | (at_make; refine wpList_make_own _ rfl _ _ 33 rfl w.heap.size 5 i0 (.int .u8 0) 1 Tryz.underlying33 hi hz0 hz1 _ _ _ (m + N) rfl rfl (by omega) (by rw [hz2]; omega) (by unfold maxLen; omega) (Nat.le_refl _) ?_; intro w1 hown1 hgrow1)
      | (at_builtin; refine wpList_append_row _ rfl (.tmp 16) (.tmp 17) 33 rfl w.heap.size 5 i0 (.int .u8 0) 1 Tryz.underlying33 hi hz0 hz1 hz2 rfl (.slice (some ⟨w.heap.size, 0, none⟩) 0 (m + N)) 0 [] rfl hown1 lo up A m c rfl hA (U l) (hR.grown hgrow1 hup (by intro g hg; cases hg)) (U_one l) (by unfold maxLen; omega) (by omega) (Nat.le_trans (Nat.le_refl _) hgrow1.size) ?_; intro v2 w2 hown2 hgrow2 _))
    have hb2 : Below w.heap.size w w2 := ((Below.refl _ _).grown hgrow1 (Nat.le_refl _) (by intro g hg; cases hg)).grown hgrow2 hgrow1.size (by intro k hk; simp [Value.ownBlock] at hk; omega)
    rw [Nat.zero_add, List.nil_append] at hown2
    clear hown1 hgrow1 hgrow2
    go_loopw [7, 20] (fun v i wr => ∃ k : Nat, k ≤ N ∧ i = .int .i64 k ∧ wr.ownsRow w.heap.size 5 1 v (m + k) (U (l ++ putB x k)) ∧ Below w.heap.size w wr) (fun _ i _ => N - (intOf i).toNat)
    case atStart => exact ⟨0, Nat.zero_le _, rfl, by rw [H0.out]; exact hown2, hb2⟩
    case round =>
      obtain ⟨k, hk, rfl, hown, hb⟩ := hrel
      have hsz := hb.size
      by_cases hlt : k < N
      · go_wp2_with (at_builtin; refine wpList_append_row _ rfl (.tmp 23) (.tmp 29) 33 rfl w.heap.size 5 i0 (.int .u8 0) 1 Tryz.underlying33 hi hz0 hz1 hz2 rfl u7 (m + k) (U (l ++ putB x k)) rfl (hown.alloc _) wr.heap.size (wr.heap.size + 1) (some ⟨wr.heap.size, 0, none⟩) 1 1 rfl (by intro h; cases h) (U [byteAt x k]) (by exact row_byte _ _ _ _ (HB.out k)) (U_one _) (by unfold maxLen; omega) (by omega) (by simp; omega) ?_; intro v3 w3 hown3 hgrow3 _)
        all_goals
          have hb3 : Below w.heap.size w w3 := (hb.alloc hsz _).grown hgrow3 (by simp; omega) (fun g hg => (hown.lt g hg).1)
          have HO : w3.ownsRow w.heap.size 5 1 v3 (m + (k + 1)) (U (l ++ putB x (k + 1))) := by
            rw [HS.out k, U_append]; exact hown3
          clear hown3 hgrow3
          go_wp2
          go_roundw
          case rel => exact ⟨k + 1, by omega, by go_num, HO, hb3⟩
          case measure => simp [intOf]; omega
      · go_wp2
        go_ret
        rw [HFin.out]
        obtain rfl : k = N := by omega
        exact fresh_mk (by rw [List.length_append, HL.out, putB_len]) hown hb

end Go.Proofs.YtpckloafdlkefaaGreat
