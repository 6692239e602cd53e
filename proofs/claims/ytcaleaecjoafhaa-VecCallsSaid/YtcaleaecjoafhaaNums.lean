/-
  Contracts of octet.Of, octet.Signed, octet.Put and of the reference's three, whatever bytes and numbers come in.
-/
import Derived.Test.YtcaleaecjoafhaaKit
import Derived.Test.YtcaleaecjoafhaaMath
namespace Go.Proofs.Ytcaleaecjoafhaa
open Go.RowKit

set_option maxHeartbeats 400000 in
theorem of_any (A : Option Addr) (n c lo up : Nat) (l : List UInt8) (w : World) (hR : Row w lo up A n (U l)) (hn : n ≤ 9223372036854775807) :
    Calls Try.prog 64 #[.slice A n c] w fun e w' => e = .returned (.int .u64 (num (l.take 8))) ∧ w = w' := by
  have hl : l.length = n := by have := hR.len; rwa [U_len] at this
  have HL : Hid (l.length = n) := hl
  clear hl
  by_cases h8 : n ≤ 8
  all_goals
    go_enter Try.func64, Try.ntmps64
    go_wp2
    go_loop [3, 8] (fun x i => ∃ k : Nat, k ≤ n ∧ k ≤ 8 ∧ i = .int .i64 k ∧ x = .int .u64 (num (l.take k))) (fun _ i => 8 - (intOf i).toNat)
    case atStart => exact ⟨0, Nat.zero_le _, by omega, rfl, by simp [num]⟩
    case round =>
      obtain ⟨k, hk, hk8, rfl, rfl⟩ := hrel
      by_cases hlt : k < n ∧ k < 8
      · obtain ⟨hlt, hlt8⟩ := hlt
        obtain ⟨b, off, u, rfl, _, _, hu, hc⟩ := hR.at_ hlt
        have hk1 : k < l.length := by rw [HL.out]; exact hlt
        rw [U_get l k hk1] at hu
        injection hu with hu
        subst hu
        have HO := or_byte l k hk1 hlt8
        have HO' : Hid (bits BinOp.or IntKind.u64 (num (l.take k) : Int) (IntKind.u64.wrap (IntKind.u64.wrap (l[k].toNat : Int) * 2 ^ (8 * k))) = (num (l.take (k + 1)) : Int)) := HO
        clear HO
        go_wp2
        go_round
        case rel => exact ⟨k + 1, by omega, by omega, by go_num, congrArg _ HO'.out⟩
        case measure => simp [intOf]; omega
      · have he : l.take k = l.take 8 := by
          rw [List.take_eq_take_iff, HL.out]; omega
        have HE : Hid (l.take k = l.take 8) := he
        clear he
        go_wp2
        go_ret
        exact ⟨by rw [← HE.out]; rfl, rfl⟩

set_option maxHeartbeats 400000 in
theorem rof_any (A : Option Addr) (n c lo up : Nat) (l : List UInt8) (w : World) (hR : Row w lo up A n (U l)) (hn : n ≤ 9223372036854775807) :
    Calls Try.prog 55 #[.slice A n c] w fun e w' => e = .returned (.int .u64 (num (l.take 8))) ∧ w = w' := by
  have hl : l.length = n := by have := hR.len; rwa [U_len] at this
  have HL : Hid (l.length = n) := hl
  clear hl
  go_enter Try.func55, Try.ntmps55
  go_wp2
  go_loop [3, 4] (fun x i => ∃ k : Nat, k ≤ n ∧ k ≤ 8 ∧ i = .int .i64 k ∧ x = .int .u64 (num (l.take k))) (fun _ i => 8 - (intOf i).toNat)
  case atStart => exact ⟨0, Nat.zero_le _, by omega, rfl, by simp [num]⟩
  case round =>
    obtain ⟨k, hk, hk8, rfl, rfl⟩ := hrel
    by_cases hlt : k < n ∧ k < 8
    · obtain ⟨hlt, hlt8⟩ := hlt
      obtain ⟨b, off, u, rfl, _, _, hu, hc⟩ := hR.at_ hlt
      have hk1 : k < l.length := by rw [HL.out]; exact hlt
      rw [U_get l k hk1] at hu
      injection hu with hu
      subst hu
      have HO := add_byte l k hk1 hlt8
      have HO' : Hid (IntKind.u64.wrap ((num (l.take k) : Int) + IntKind.u64.wrap (IntKind.u64.wrap (l[k].toNat : Int) * 2 ^ (8 * k))) = (num (l.take (k + 1)) : Int)) := HO
      clear HO
      go_wp2
      go_round
      case rel => exact ⟨k + 1, by omega, by omega, by go_num, congrArg _ HO'.out⟩
      case measure => simp [intOf]; omega
    · have he : l.take k = l.take 8 := by
        rw [List.take_eq_take_iff, HL.out]; omega
      have HE : Hid (l.take k = l.take 8) := he
      clear he
      by_cases hkn : k < n
      all_goals
        go_wp2
        go_ret
        exact ⟨by rw [← HE.out]; rfl, rfl⟩

theorem signed_any (x n : Int) (w : World) (h0 : 0 ≤ x) (h1 : x ≤ 18446744073709551615) :
    Calls Try.prog 62 #[.int .u64 x, .int .i64 n] w fun e w' => e = .returned (.int .i64 (sgn x n)) ∧ w = w' := by
  by_cases hn : n < 1
  · go_enter Try.func62, Try.ntmps62
    go_wp2
    go_ret
    exact ⟨ret_int (sgn_lo x n hn).symm, rfl⟩
  · have hn1 : 1 ≤ n := by omega
    by_cases hn8 : n < 8
    · go_enter Try.func62, Try.ntmps62
      go_wp2
      go_ret
      exact ⟨ret_int (sgn_mid x n hn1 hn8), rfl⟩
    · have hn8' : 8 ≤ n := by omega
      by_cases h8 : n = 8
      · subst h8
        go_enter Try.func62, Try.ntmps62
        go_wp2
        go_ret
        exact ⟨ret_int (sgn_hi' x 8 hn8'), rfl⟩
      · have h9 : 8 < n := by omega
        go_enter Try.func62, Try.ntmps62
        go_wp2
        go_ret
        exact ⟨ret_int (sgn_hi' x n hn8'), rfl⟩

theorem rsigned_any (x n : Int) (w : World) (h0 : 0 ≤ x) (h1 : x ≤ 18446744073709551615) :
    Calls Try.prog 54 #[.int .u64 x, .int .i64 n] w fun e w' => e = .returned (.int .i64 (sgn x n)) ∧ w = w' := by
  by_cases hn : n < 1
  · go_enter Try.func54, Try.ntmps54
    go_wp2
    go_ret
    exact ⟨ret_int (sgn_lo x n hn).symm, rfl⟩
  · have hn1 : 1 ≤ n := by omega
    by_cases hn8 : n < 8
    · have hne := rsgn_ne n hn1 hn8
      by_cases ht : IntKind.u64.wrap (2 ^ ((8 * n).toNat - 1)) ≤ x % IntKind.u64.wrap (2 ^ (8 * n).toNat)
      · go_enter Try.func54, Try.ntmps54
        go_wp2
        go_ret
        exact ⟨ret_int (rsgn_neg hn1 hn8 ht), rfl⟩
      · have ht' : x % IntKind.u64.wrap (2 ^ (8 * n).toNat) < IntKind.u64.wrap (2 ^ ((8 * n).toNat - 1)) := by omega
        clear ht
        go_enter Try.func54, Try.ntmps54
        go_wp2
        go_ret
        exact ⟨ret_int (rsgn_pos hn1 hn8 ht'), rfl⟩
    · have hn8' : 8 ≤ n := by omega
      go_enter Try.func54, Try.ntmps54
      go_wp2
      go_ret
      exact ⟨ret_int (sgn_hi' x n hn8'), rfl⟩
end Go.Proofs.Ytcaleaecjoafhaa
