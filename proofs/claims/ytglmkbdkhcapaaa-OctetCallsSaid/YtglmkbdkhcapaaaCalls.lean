/-
  The walk of the law OctetCalls: for all bytes, number and count it answers true, and changes nothing that was there.
-/
import Derived.Test.YtglmkbdkhcapaaaLives
namespace Go.Proofs.Ytglmkbdkhcapaaa
open Go.RowKit

set_option maxHeartbeats 800000 in
theorem octetCalls_walk (a : Option Addr) (len cap : Nat) (l : List UInt8) (x n : Int) (w : World) (hR : Row w 0 w.heap.size a len (U l)) (hA : a = none → cap = 0) (hm : len ≤ 9223372036854775807) (h0 : 0 ≤ x) (h1 : x ≤ 18446744073709551615) :
    Calls Try.prog 4 #[.slice a len cap, .int .u64 x, .int .i64 n] w fun e w' => e = .returned (.bool true) ∧ Below w.heap.size w w' := by
  have HA : Hid (a = none → cap = 0) := hA
  clear hA
  go_enter Try.func4, Try.ntmps4
  go_wp2_with fail
  refine (lives_any w).mono ?_
  rintro e w1 ⟨rfl, hb1⟩
  have hz1 := hb1.size
  by_cases hlen : 200 < len
  · go_wp2
    go_ret
    exact ⟨rfl, hb1⟩
  · have hlen' : len ≤ 200 := by omega
    clear hlen
    go_wp2_with fail
    refine (own_any a len cap 0 w.heap.size l _ (hR.below hb1 (Nat.le_refl _)) HA.out hz1 (by omega)).mono ?_
    rintro e w2 ⟨A2, n2, c2, rfl, hl2, hA2, hown2, hb2⟩
    have hn2 : n2 ≤ 200 := by have := hR.len; rw [U_len, hl2.out] at this; omega
    have hz2 := hb2.size
    go_wp2_with fail
    refine (put_any A2 n2 c2 w1.heap.size w2.heap.size l _ _ _ (Row.of_own hown2) hA2.out (Nat.le_refl _) (by omega) h0).mono ?_
    rintro e w3 ⟨A3, n3, c3, rfl, hl3, hA3, hown3, hb3⟩
    have hn3 : n3 ≤ 9223372036854775807 := by rw [← hl3.out, List.length_append, putB_len, hl2.out]; unfold clampN; omega
    have hz3 := hb3.size
    clear hown2
    have hb13 : Below w.heap.size w w3 := (hb1.trans (hb2.mono hz1)).trans (hb3.mono (by omega))
    go_wp2_with fail
    refine (rput_any a len cap 0 w.heap.size l _ _ _ (hR.below hb13 (Nat.le_refl _)) HA.out (by omega) (by omega) h0).mono ?_
    rintro e w4 ⟨A4, n4, c4, rfl, hl4, hA4, hown4, hb4⟩
    have hz4 := hb4.size
    go_wp2_with fail
    refine (same_yes A3 A4 n3 n4 c3 c4 w2.heap.size w3.heap.size w3.heap.size w4.heap.size _ _ _ ((Row.of_own hown3).below hb4 (Nat.le_refl _)) (Row.of_own hown4) hn3 rfl).mono ?_
    rintro e w5 ⟨rfl, k, hw5⟩
    have hb5 : Below w.heap.size w w5 := by rw [hw5]; exact below_drewN (hb13.trans (hb4.mono (by omega))) k
    clear hown3 hown4 hw5
    go_wp2_with fail
    refine (of_any a len cap 0 w.heap.size l _ (hR.below hb5 (Nat.le_refl _)) (by omega)).mono ?_
    rintro e w6 ⟨rfl, rfl⟩
    go_wp2_with fail
    refine (rof_any a len cap 0 w.heap.size l _ (hR.below hb5 (Nat.le_refl _)) (by omega)).mono ?_
    rintro e w6 ⟨rfl, rfl⟩
    go_wp2_with fail
    refine (signed_any _ _ _ h0 h1).mono ?_
    rintro e w6 ⟨rfl, rfl⟩
    go_wp2_with fail
    refine (rsigned_any _ _ _ h0 h1).mono ?_
    rintro e w6 ⟨rfl, rfl⟩
    go_wp2
    go_ret
    exact ⟨rfl, hb5⟩
end Go.Proofs.Ytglmkbdkhcapaaa
