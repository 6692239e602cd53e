/-
  Contracts of frame's Size and Bytes.
-/
import Derived.Test.YtpckloafdlkefaaGreatFrameSum
import Derived.Test.YtpckloafdlkefaaGreatPut
import Derived.Lib.SmallJoins
namespace Go.Proofs.YtpckloafdlkefaaGreat
set_option maxRecDepth 40000
open Go.RowKit Go.Joins Regs

def fsize (n : Int) : Int := if n < 0 ∨ 33554432 < n then 0 else 8 + n
theorem size_any (n : Int) (w : World) : Calls Tryz.prog 102 #[.int .i64 n] w fun e w' => e = .returned (.int .i64 (fsize n)) ∧ w' = w := by
  unfold fsize
  by_cases h0 : n < 0
  · rw [if_pos (.inl h0)]
    go_enter Tryz.func102, Tryz.ntmps102
    go_wp2
    go_ret
    exact ⟨rfl, rfl⟩
  · by_cases h1 : 33554432 < n
    · rw [if_pos (.inr h1)]
      go_enter Tryz.func102, Tryz.ntmps102
      go_wp2
      go_ret
      exact ⟨rfl, rfl⟩
    · rw [if_neg (by omega)]
      go_enter Tryz.func102, Tryz.ntmps102
      go_wp2
      go_ret
      exact ⟨by go_num, rfl⟩
/-- Bytes in memory of their own, and no error. -/
def FreshE (w : World) (l : List UInt8) (e : Ending) (w' : World) : Prop :=
  ∃ A n c, e = .returned (.tuple #[.slice A n c, .int .i64 0]) ∧ Hid (l.length = n) ∧ Hid (A = none → c = 0) ∧ w'.ownsRow w.heap.size 5 1 (.slice A n c) n (U l) ∧ Below w.heap.size w w'
set_option maxHeartbeats 1000000 in
theorem bytes7_any (A : Option Addr) (n c lo up : Nat) (p : List UInt8) (w : World) (hR : Row w lo up A n (U p)) (hA : A = none → c = 0) (hup : up ≤ w.heap.size) (hn : n ≤ 300000) :
    Calls Tryz.prog 80 #[.slice A n c] w (FreshE w (frm p)) := by
  have hl : p.length = n := by have := hR.len; rwa [U_len] at this
  have hc4 : clampN 4 = 4 := rfl
  have P0 := put_any none 0 0 0 0 [] (n : Int) 4 w Row.empty (fun _ => rfl) (Nat.zero_le _) (by omega) (by omega)
  rw [hc4, List.nil_append] at P0
  have P1 := hid P0
  clear P0
  have RP : Hid (∀ W, Below w.heap.size w W → Row W lo up A n (U p)) := hid fun W hW => hR.below hW hup
  have HL := hid hl
  have HA := hid hA
  have HUP := hid hup
  clear hR hA hl hup hc4
  go_enter Tryz.func80, Tryz.ntmps80
  go_wp2_with fail
  refine P1.out.mono ?_
  rintro e w1 ⟨A1, n1, c1, rfl, hl1, hA1, hown1, hb1⟩
  have hn1 : n1 = 4 := by have := hl1.out; rw [putB_len] at this; exact this.symm
  subst hn1
  have HB1 := hid hb1
  have R1 := hid (Row.of_own hown1)
  clear hown1 hb1 hl1
  have hup1 : up ≤ w1.heap.size := Nat.le_trans HUP.out HB1.out.size
  have S1 := hid (sum7_any A1 A 4 c1 n c w.heap.size w1.heap.size lo up (putB (n : Int) 4) p w1 R1.out (RP.out w1 HB1.out) hA1.out HA.out (Nat.le_refl _) hup1 (by omega) (by omega))
  obtain ⟨q, hq⟩ : ∃ q : Nat, q = (csum (putB (n : Int) 4 ++ p)).toNat := ⟨_, rfl⟩
  rw [← hq] at S1
  have HQ := hid hq
  clear hq
  go_wp2_with fail
  refine S1.out.mono ?_
  rintro e w2 ⟨rfl, hb2⟩
  have P2 := put_any A1 4 c1 w.heap.size w1.heap.size (putB (n : Int) 4) (q : Int) 4 w2 (R1.out.below hb2 (Nat.le_refl _)) hA1.out hb2.size (by omega) (by omega)
  rw [show clampN 4 = 4 from rfl] at P2
  have P3 := hid P2
  have HB2 := hid (HB1.out.trans (hb2.mono HB1.out.size))
  clear P2 hb2
  go_wp2_with fail
  refine P3.out.mono ?_
  rintro e w3 ⟨A3, n3, c3, rfl, hl3, hA3, hown3, hb3⟩
  have hn3 : n3 = 8 := by have := hl3.out; rw [List.length_append, putB_len, putB_len] at this; exact this.symm
  subst hn3
  have HB3 := hid (HB2.out.trans (hb3.mono HB2.out.size))
  obtain ⟨w4, hw4⟩ : ∃ w4, w4 = w3.alloc (.cells #[.slice A3 8 c3, .slice A n c] 33) := ⟨_, rfl⟩
  have hb4 : Below w3.heap.size w3 w4 := by rw [hw4]; exact (Below.refl _ w3).alloc (Nat.le_refl _) _
  have HB4 := hid (HB3.out.trans (hb4.mono HB3.out.size))
  have CA := hid (concat_any w3.heap.size 33 A3 A 8 c3 n c w2.heap.size w3.heap.size lo up (putB (n : Int) 4 ++ putB (q : Int) 4) p w4 (by rw [hw4]; exact Blk.new w3 _ _) ((Row.of_own hown3).below hb4 (Nat.le_refl _)) (RP.out w4 HB4.out) hA3.out HA.out hb4.size (Nat.le_trans HUP.out HB4.out.size) (by omega) (by omega))
  have HW4 := hid hw4
  clear hown3 hb3 hb4 hw4 hl3
  go_wp2_with fail
  rw [← HW4.out]
  refine CA.out.mono ?_
  rintro e w5 ⟨A5, n5, c5, rfl, hl5, hA5, hown5, hb5⟩
  have ef : (putB (n : Int) 4 ++ putB (q : Int) 4) ++ p = frm p := by
    unfold frm chk hdr
    rw [HL.out, HQ.out]
  rw [ef] at hown5 hl5
  have HO := hid hown5
  have HB5 := hid (HB4.out.trans (hb5.mono HB4.out.size))
  clear hown5 hb5
  go_wp2
  go_ret2
  exact ⟨A5, n5, c5, rfl, hl5, hA5, ownsRow_le HO.out HB4.out.size, HB5.out⟩
end Go.Proofs.YtpckloafdlkefaaGreat
