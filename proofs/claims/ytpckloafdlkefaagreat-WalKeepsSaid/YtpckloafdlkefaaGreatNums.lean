/-
  Contracts of octet.Of, octet.Signed, octet.Put and of the reference's three, whatever bytes and numbers come in.
-/
import Derived.Test.YtpckloafdlkefaaGreatKit
import Derived.Test.YtpckloafdlkefaaGreatMath
namespace Go.Proofs.YtpckloafdlkefaaGreat
set_option maxRecDepth 40000
open Go.RowKit

set_option maxHeartbeats 400000 in
theorem of_any (A : Option Addr) (n c lo up : Nat) (l : List UInt8) (w : World) (hR : Row w lo up A n (U l)) (hn : n ≤ 9223372036854775807) :
    Calls Tryz.prog 103 #[.slice A n c] w fun e w' => e = .returned (.int .u64 (num (l.take 8))) ∧ w = w' := by
  have hl : l.length = n := by have := hR.len; rwa [U_len] at this
  have HL : Hid (l.length = n) := hl
  clear hl
  by_cases h8 : n ≤ 8
  all_goals
    go_enter Tryz.func103, Tryz.ntmps103
    go_wp2
    go_loop [3, 8] (fun x i => ∃ k : Nat, k ≤ n ∧ k ≤ 8 ∧ i = .int .i64 k ∧ x = .int .u64 (num (l.take k))) (fun _ i => 8 - (intOf i).toNat)
    case atStart => exact ⟨0, Nat.zero_le _, by omega, rfl, by simp [num]⟩
    case round =>
      obtain ⟨k, hk, hk8, rfl, rfl⟩ := hrel
      by_cases hlt : k < n ∧ k < 8
      · obtain ⟨hlt, hlt8⟩ := hlt
        obtain ⟨b, off, u, rfl, _, _, hu, hc⟩ := hR.at_ hlt
        have hk1 : k < l.length := by rw [HL.out]; exact hlt
        rw [U_get l k hk1] at hu
        injection hu with hu
        subst hu
        have HO := or_byte l k hk1 hlt8
        have HO' : Hid (bits BinOp.or IntKind.u64 (num (l.take k) : Int) (IntKind.u64.wrap (IntKind.u64.wrap (l[k].toNat : Int) * 2 ^ (8 * k))) = (num (l.take (k + 1)) : Int)) := HO
        clear HO
        go_wp2
        go_round
        case rel => exact ⟨k + 1, by omega, by omega, by go_num, congrArg _ HO'.out⟩
        case measure => simp [intOf]; omega
      · have he : l.take k = l.take 8 := by
          rw [List.take_eq_take_iff, HL.out]; omega
        have HE : Hid (l.take k = l.take 8) := he
        clear he
        go_wp2
        go_ret
        exact ⟨by rw [← HE.out]; rfl, rfl⟩

end Go.Proofs.YtpckloafdlkefaaGreat
