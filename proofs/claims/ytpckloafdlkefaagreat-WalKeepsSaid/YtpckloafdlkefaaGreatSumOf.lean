/-
  Contracts of sum's behind and Of, whatever words and bytes come in.
-/
import Derived.Test.YtpckloafdlkefaaGreatSumMat
namespace Go.Proofs.YtpckloafdlkefaaGreat
set_option maxRecDepth 40000
open Go.RowKit Regs

theorem eight_any (r : BitVec 32) (w : World) :
    Calls Tryz.prog 136 #[V r] w fun e w' => e = .returned (V (stn 8 r)) ∧ w' = w := by
  go_enter Tryz.func136, Tryz.ntmps136
  go_wp2_with fail
  go_loop [0, 3] (fun x i => ∃ k : Nat, k ≤ 8 ∧ i = .int .i64 k ∧ x = V (stn k r)) (fun _ i => 8 - (intOf i).toNat)
  case atStart => exact ⟨0, Nat.zero_le _, rfl, rfl⟩
  case round =>
    obtain ⟨k, hk, rfl, rfl⟩ := hrel
    obtain ⟨x, hx⟩ : ∃ x, x = stn k r := ⟨_, rfl⟩
    have HX := hid hx
    rw [← hx]
    clear hx
    have W1 := hid (step_any x w)
    by_cases hlt : k < 8
    · go_wp2_with fail
      refine W1.out.mono ?_
      rintro e w1 ⟨rfl, rfl⟩
      go_wp2_with fail
      refine ⟨⟨k + 1, by omega, by go_num, ?_⟩, by simp [intOf]; omega⟩
      rw [HX.out, stn_more]
    · obtain rfl : k = 8 := by omega
      go_wp2_with fail
      go_ret
      exact ⟨by rw [HX.out]; rfl, rfl⟩

theorem behind_any (s : BitVec 32) (A : Option Addr) (n c lo up : Nat) (l : List UInt8) (w : World) (hR : Row w lo up A n (U l)) (hup : up ≤ w.heap.size) (hn : n ≤ 9223372036854775807) :
    Calls Tryz.prog 122 #[V s, .slice A n c] w fun e w' => e = .returned (V (crc s (Ws l))) ∧ Below w.heap.size w w' := by
  have hl : l.length = n := by have := hR.len; rwa [U_len] at this
  have HL := hid hl
  clear hl
  go_enter Tryz.func122, Tryz.ntmps122
  go_wp2_with fail
  go_loop [5, 7, 12] (fun x _ i => ∃ k : Nat, k ≤ n ∧ i = .int .i64 k ∧ x = V (reg (~~~ s) (Ws (l.take k)))) (fun _ _ i => n - (intOf i).toNat)
  case atStart => exact ⟨0, Nat.zero_le _, rfl, by rw [not_word]; rfl⟩
  case round =>
    obtain ⟨k, hk, rfl, rfl⟩ := hrel
    obtain ⟨x, hx⟩ : ∃ x, x = reg (~~~ s) (Ws (l.take k)) := ⟨_, rfl⟩
    have HX := hid hx
    rw [← hx]
    clear hx
    by_cases hlt : k < n
    · obtain ⟨b, off, u, rfl, _, _, hu, hc⟩ := hR.at_ hlt
      have hk1 : k < l.length := by rw [HL.out]; exact hlt
      rw [U_get l k hk1] at hu
      injection hu with hu
      subst hu
      have HS := hid (reg_take (~~~ s) l k hk1)
      generalize l[k] = y at hc HS
      have hxy := xor_byte x y
      have hw : IntKind.u32.wrap (y.toNat : Int) = (y.toNat : Int) := by
        have := y.toNat_lt
        simp [IntKind.wrap, IntKind.bits, IntKind.signed]; omega
      obtain ⟨z, hz⟩ : ∃ z, z = x ^^^ B8 y := ⟨_, rfl⟩
      rw [← hz] at hxy
      have HZ := hid hz
      clear hz
      have W1 := hid (eight_any z w)
      go_wp2_with fail
      refine W1.out.mono ?_
      rintro e w1 ⟨rfl, rfl⟩
      go_wp2_with fail
      refine ⟨⟨k + 1, by omega, by go_num, ?_⟩, by simp [intOf]; omega⟩
      rw [HS.out, HZ.out, HX.out]
      rfl
    · obtain rfl : k = n := by omega
      go_wp2_with fail
      go_ret
      refine ⟨?_, Below.refl _ _⟩
      rw [not_word, HX.out, ← HL.out, List.take_length]
      rfl

theorem sumof_any (A : Option Addr) (n c lo up : Nat) (l : List UInt8) (w : World) (hR : Row w lo up A n (U l)) (hup : up ≤ w.heap.size) (hn : n ≤ 9223372036854775807) :
    Calls Tryz.prog 113 #[.slice A n c] w fun e w' => e = .returned (V (crc 0#32 (Ws l))) ∧ Below w.heap.size w w' := by
  have W1 := hid (behind_any 0#32 A n c lo up l w hR hup hn)
  go_enter Tryz.func113, Tryz.ntmps113
  go_wp2_with fail
  refine W1.out.mono ?_
  rintro e w1 ⟨rfl, hb⟩
  go_wp2_with fail
  go_ret
  exact ⟨rfl, hb⟩
end Go.Proofs.YtpckloafdlkefaaGreat
