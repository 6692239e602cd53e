/-
  Contracts of the document's frame: Size, Bytes.
-/
import Derived.Test.YtdbbgcbdkafghaaFrameBytes
import Derived.Test.YtdbbgcbdkafghaaNums
namespace Go.Proofs.Ytdbbgcbdkafghaa
open Go.RowKit Go.Joins Regs

theorem rsize_any (n : Int) (w : World) : Calls Try.prog 22 #[.int .i64 n] w fun e w' => e = .returned (.int .i64 (fsize n)) ∧ w' = w := by
  unfold fsize
  by_cases h0 : n < 0
  · rw [if_pos (.inl h0)]
    go_enter Try.func22, Try.ntmps22
    go_wp2
    go_ret
    exact ⟨rfl, rfl⟩
  · by_cases h1 : 33554432 < n
    · rw [if_pos (.inr h1)]
      go_enter Try.func22, Try.ntmps22
      go_wp2
      go_ret
      exact ⟨rfl, rfl⟩
    · rw [if_neg (by omega), Int.add_comm]
      go_enter Try.func22, Try.ntmps22
      go_wp2
      go_ret
      exact ⟨by go_num, rfl⟩
set_option maxHeartbeats 1000000 in
theorem rbytes7_any (A : Option Addr) (n c lo up : Nat) (p : List UInt8) (w : World) (hR : Row w lo up A n (U p)) (hA : A = none → c = 0) (hup : up ≤ w.heap.size) (hn : n ≤ 300000) :
    Calls Try.prog 16 #[.slice A n c] w (FreshE w (frm p)) := by
  obtain ⟨i0, hi, hz0, hz1, hz2⟩ := info_parts info5
  have hl : p.length = n := by have := hR.len; rwa [U_len] at this
  have hc4 : clampN 4 = 4 := rfl
  have P0 := rput_any none 0 0 0 0 [] (n : Int) 4 w Row.empty (fun _ => rfl) (Nat.zero_le _) (by omega) (by omega)
  rw [hc4, List.nil_append] at P0
  have P1 := hid P0
  clear P0
  have RP : Hid (∀ W, Below w.heap.size w W → Row W lo up A n (U p)) := hid fun W hW => hR.below hW hup
  have HL := hid hl
  have HA := hid hA
  have HUP := hid hup
  clear hR hA hl hup hc4
  go_enter Try.func16, Try.ntmps16
  go_wp2_with fail
  refine P1.out.mono ?_
  rintro e w1 ⟨A1, n1, c1, rfl, hl1, hA1, hown1, hb1⟩
  have hn1 : n1 = 4 := by have := hl1.out; rw [putB_len] at this; exact this.symm
  subst hn1
  have HB1 := hid hb1
  have R1 := hid (Row.of_own hown1)
  clear hown1 hb1 hl1
  have S1 := hid (rsumof_any A1 4 c1 w.heap.size w1.heap.size (putB (n : Int) 4) w1 R1.out (by omega))
  have M1 := rmore_any (crc 0#32 (Ws (putB (n : Int) 4))) A n c lo up p w1 (RP.out w1 HB1.out) (by omega)
  rw [crc_append] at M1
  obtain ⟨q, hq⟩ : ∃ q : Nat, q = (csum (putB (n : Int) 4 ++ p)).toNat := ⟨_, rfl⟩
  have hq2 : V (crc 0#32 (Ws (putB (n : Int) 4) ++ Ws p)) = .int .u32 (q : Int) := by
    rw [hq]
    unfold csum
    rw [show Ws (putB (n : Int) 4 ++ p) = Ws (putB (n : Int) 4) ++ Ws p by simp [Ws]]
  have hql : q < 4294967296 := by rw [hq]; exact csum_lt _
  rw [hq2] at M1
  have M2 := hid M1
  have HQ := hid hq
  clear M1 hq hq2
  generalize crc 0#32 (Ws (putB (n : Int) 4)) = s0 at S1 M2
  go_wp2_with fail
  refine S1.out.mono ?_
  rintro e w2 ⟨rfl, rfl⟩
  go_wp2_with fail
  refine M2.out.mono ?_
  rintro e w3 ⟨rfl, rfl⟩
  have P2 := rput_any A1 4 c1 w.heap.size w3.heap.size (putB (n : Int) 4) (q : Int) 4 w3 R1.out hA1.out (Nat.le_refl _) (by omega) (by omega)
  rw [show clampN 4 = 4 from rfl] at P2
  have P3 := hid P2
  clear P2
  go_wp2_with fail
  refine P3.out.mono ?_
  rintro e w4 ⟨A4, n4, c4, rfl, hl4, hA4, hown4, hb4⟩
  have hn4 : n4 = 8 := by have := hl4.out; rw [List.length_append, putB_len, putB_len] at this; exact this.symm
  subst hn4
  have HB4 := hid (HB1.out.trans (hb4.mono HB1.out.size))
  have HO4 := hid hown4
  have ef : (putB (n : Int) 4 ++ putB (q : Int) 4) ++ p = frm p := by
    unfold frm chk hdr
    rw [HL.out, HQ.out]
  have HEF := hid ef
  have hz4 : w3.heap.size ≤ w4.heap.size := hb4.size
  clear hown4 hb4 hl4 ef hql
  go_wp2_with (at_builtin; go_loud (refine wpList_append_row _ rfl _ _ 22 rfl w3.heap.size 5 i0 (.int .u8 0) 1 Try.underlying22 hi hz0 hz1 hz2 rfl (.slice A4 8 c4) 8 (U (putB (n : Int) 4 ++ putB (q : Int) 4)) rfl HO4.out lo up A n c rfl HA.out (U p) (RP.out w4 HB4.out) (U_one _) (by unfold maxLen; omega) (by omega) hz4 ?_); intro v5 w5 own5 grow5 at5)
  rw [← U_append, HEF.out] at own5
  obtain ⟨A5, c5, rfl, hA5, _⟩ := own_shape own5
  have HB5 := hid (HB4.out.grown grow5 HB4.out.size (fun g hg => Nat.le_trans HB1.out.size (HO4.out.lt g hg).1))
  have HO5 := hid (ownsRow_le own5 HB1.out.size)
  have HA5 := hid hA5
  have HLF : Hid ((frm p).length = 8 + n) := hid (by rw [frm_len, HL.out]; omega)
  clear own5 grow5 at5 hA5
  go_wp2
  go_ret2
  exact ⟨A5, 8 + n, c5, rfl, HLF, HA5, HO5.out, HB5.out⟩
end Go.Proofs.Ytdbbgcbdkafghaa
