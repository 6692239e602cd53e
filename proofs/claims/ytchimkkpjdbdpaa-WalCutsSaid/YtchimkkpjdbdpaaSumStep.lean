/-
  Contracts of the reference's step, More and Of, whatever words and bytes come in.
-/
import Derived.Test.YtchimkkpjdbdpaaProg
import Derived.Test.YtchimkkpjdbdpaaWords
import Derived.Test.YtchimkkpjdbdpaaSumWords
import Derived.Deep.QuietTactic
import Derived.BigQuiet
namespace Go.Proofs.Ytchimkkpjdbdpaa
set_option maxRecDepth 40000
open Go.RowKit Regs

/-- A word as a value; bytes as words. -/
abbrev V (r : BitVec 32) : Value := .int .u32 (r.toNat : Int)
def B8 (c : UInt8) : BitVec 32 := BitVec.ofNat 32 c.toNat
def Ws (l : List UInt8) : List (BitVec 32) := l.map B8
theorem b8_nat (c : UInt8) : ((B8 c).toNat : Int) = (c.toNat : Int) := by
  have := c.toNat_lt
  simp [B8]
theorem ws_len (l : List UInt8) : (Ws l).length = l.length := by simp [Ws]
theorem ws_take (l : List UInt8) (k : Nat) : Ws (l.take k) = (Ws l).take k := by simp [Ws, List.map_take]
theorem ws_append (l m : List UInt8) : Ws (l ++ m) = Ws l ++ Ws m := by simp [Ws]
theorem reg_take (r : BitVec 32) (l : List UInt8) (k : Nat) (h : k < l.length) : reg r (Ws (l.take (k + 1))) = byt (reg r (Ws (l.take k))) (B8 l[k]) := by
  rw [List.take_succ_eq_append_getElem h, ws_append, reg_append]
  rfl
theorem xor_byte (r : BitVec 32) (c : UInt8) : bits .xor .u32 (r.toNat : Int) (c.toNat : Int) = ((r ^^^ B8 c).toNat : Int) := by
  rw [← b8_nat, xor_word]

theorem word_in {a : Int} (h : (Lit.int .u32 a).wf = true) : ∃ r : BitVec 32, a = (r.toNat : Int) := by
  have hb : 0 ≤ a ∧ a ≤ 4294967295 := by simpa [Lit.wf, IntKind.min, IntKind.max, IntKind.signed, IntKind.bits] using h
  exact ⟨BitVec.ofInt 32 a, (word_of a hb.1 (by omega)).symm⟩
theorem stn_more (k : Nat) (r : BitVec 32) : st (stn k r) = stn (k + 1) r := by rw [stn_add]; rfl

theorem rstep_any (r : BitVec 32) (c : UInt8) (w : World) :
    Calls Try.prog 88 #[V r, .int .u8 (c.toNat : Int)] w fun e w' => e = .returned (V (byt r (B8 c))) ∧ w' = w := by
  have hc := c.toNat_lt
  have hw : IntKind.u32.wrap (c.toNat : Int) = (c.toNat : Int) := by
    simp [IntKind.wrap, IntKind.bits, IntKind.signed]; omega
  go_enter Try.func88, Try.ntmps88
  go_wp2
  go_loop [0, 5, 6] (fun x i _ => ∃ k : Nat, k ≤ 8 ∧ i = .int .i64 k ∧ x = V (stn k (r ^^^ B8 c))) (fun _ i _ => 8 - (intOf i).toNat)
  case atStart => exact ⟨0, Nat.zero_le _, rfl, by rw [xor_byte]; rfl⟩
  case round =>
    obtain ⟨k, hk, rfl, rfl⟩ := hrel
    obtain ⟨x, hx⟩ : ∃ x, x = stn k (r ^^^ B8 c) := ⟨_, rfl⟩
    have HX := hid hx
    rw [← hx]
    clear hx
    go_wp2
    · have h1 : (x.toNat : Int) % 2 = 1 := by simpa using (by assumption : ((x.toNat : Int) % 2 == 1) = true)
      refine ⟨⟨k + 1, by omega, by go_num, ?_⟩, by simp [intOf]; omega⟩
      rw [st_one x h1, HX.out, stn_more]
    · have h1 : ¬ (x.toNat : Int) % 2 = 1 := by simpa using (by assumption : ((x.toNat : Int) % 2 == 1) = false)
      refine ⟨⟨k + 1, by omega, by go_num, ?_⟩, by simp [intOf]; omega⟩
      rw [st_nought x h1, HX.out, stn_more]
    · obtain rfl : k = 8 := by omega
      go_ret
      exact ⟨by rw [HX.out]; rfl, rfl⟩

theorem rmore_any (s : BitVec 32) (A : Option Addr) (n c lo up : Nat) (l : List UInt8) (w : World) (hR : Row w lo up A n (U l)) (hn : n ≤ 9223372036854775807) :
    Calls Try.prog 83 #[V s, .slice A n c] w fun e w' => e = .returned (V (crc s (Ws l))) ∧ w' = w := by
  have hl : l.length = n := by have := hR.len; rwa [U_len] at this
  have HL := hid hl
  clear hl
  have HN : Hid (bits .xor .u32 IntKind.u32.max (s.toNat : Int) = ((~~~ s).toNat : Int)) := hid (not_word s)
  go_enter Try.func83, Try.ntmps83
  go_wp2
  go_loop [5, 6] (fun x i => ∃ k : Nat, k ≤ n ∧ i = .int .i64 k ∧ x = V (reg (~~~ s) (Ws (l.take k)))) (fun _ i => n - (intOf i).toNat)
  case atStart => exact ⟨0, Nat.zero_le _, rfl, by rw [not_word]; rfl⟩
  case round =>
    obtain ⟨k, hk, rfl, rfl⟩ := hrel
    obtain ⟨x, hx⟩ : ∃ x, x = reg (~~~ s) (Ws (l.take k)) := ⟨_, rfl⟩
    have HX := hid hx
    rw [← hx]
    clear hx
    by_cases hlt : k < n
    · obtain ⟨b, off, u, rfl, _, _, hu, hc⟩ := hR.at_ hlt
      have hk1 : k < l.length := by rw [HL.out]; exact hlt
      rw [U_get l k hk1] at hu
      injection hu with hu
      subst hu
      have HS := hid (reg_take (~~~ s) l k hk1)
      generalize l[k] = y at hc HS
      have W1 := hid (rstep_any x y w)
      go_wp2_with fail
      refine W1.out.mono ?_
      rintro e w1 ⟨rfl, rfl⟩
      go_wp2
      refine ⟨⟨k + 1, by omega, by go_num, ?_⟩, by simp [intOf]; omega⟩
      rw [HS.out, HX.out]
    · obtain rfl : k = n := by omega
      go_wp2
      go_ret
      refine ⟨?_, rfl⟩
      rw [not_word, HX.out, ← HL.out, List.take_length]
      rfl

theorem rsumof_any (A : Option Addr) (n c lo up : Nat) (l : List UInt8) (w : World) (hR : Row w lo up A n (U l)) (hn : n ≤ 9223372036854775807) :
    Calls Try.prog 84 #[.slice A n c] w fun e w' => e = .returned (V (crc 0#32 (Ws l))) ∧ w' = w := by
  have W1 := hid (rmore_any 0#32 A n c lo up l w hR hn)
  go_enter Try.func84, Try.ntmps84
  go_wp2_with fail
  refine W1.out.mono ?_
  rintro e w1 ⟨rfl, rfl⟩
  go_wp2
  go_ret
  exact ⟨rfl, rfl⟩
end Go.Proofs.Ytchimkkpjdbdpaa
