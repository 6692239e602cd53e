/-
  Contract of frame's sumOf.
-/
import Derived.Test.YtpckloafdlkefaaGreatConcat
import Derived.Test.YtpckloafdlkefaaGreatFrameMath
import Derived.Test.YtpckloafdlkefaaGreatSumOf
namespace Go.Proofs.YtpckloafdlkefaaGreat
set_option maxRecDepth 40000
open Go.RowKit Regs

theorem sum7_any (A B : Option Addr) (n c m d lo up lo' up' : Nat) (a b : List UInt8) (w : World)
    (hA : Row w lo up A n (U a)) (hB : Row w lo' up' B m (U b)) (hAc : A = none → c = 0) (hBc : B = none → d = 0) (hup : up ≤ w.heap.size) (hup' : up' ≤ w.heap.size) (hn : n ≤ 400000) (hm : m ≤ 400000) :
    Calls Tryz.prog 104 #[.slice A n c, .slice B m d] w fun e w' => e = .returned (.int .u64 ((csum (a ++ b)).toNat : Int)) ∧ Below w.heap.size w w' := by
  obtain ⟨w1, hw1⟩ : ∃ w1, w1 = w.alloc (.cells #[.slice A n c, .slice B m d] 33) := ⟨_, rfl⟩
  have hb1 : Below w.heap.size w w1 := by rw [hw1]; exact (Below.refl _ w).alloc (Nat.le_refl _) _
  have CA := hid (concat_any w.heap.size 33 A B n c m d lo up lo' up' a b w1 (by rw [hw1]; exact Blk.new w _ _) (hA.below hb1 hup) (hB.below hb1 hup') hAc hBc (Nat.le_trans hup hb1.size) (Nat.le_trans hup' hb1.size) hn hm)
  obtain ⟨q, hq⟩ : ∃ q : Nat, q = (csum (a ++ b)).toNat := ⟨_, rfl⟩
  have hlt : (q : Int) < 4294967296 := by rw [hq]; exact toNat_lt _
  rw [← hq]
  have HQ : Hid (V (crc 0#32 (Ws (a ++ b))) = .int .u32 (q : Int)) := hid (by rw [hq]; rfl)
  clear hq
  have HW1 := hid hw1
  have HB1 := hid hb1
  clear hw1 hb1 hA hB hAc hBc
  go_enter Tryz.func104, Tryz.ntmps104
  go_wp2_with fail
  rw [← HW1.out]
  refine CA.out.mono ?_
  rintro e w2 ⟨A', n', c', rfl, hl, hA', hown, hb2⟩
  have hn' : n' ≤ 9223372036854775807 := by have := hown.1; rw [U_len] at this; obtain ⟨_, _, e, _, h⟩ := own_shape hown; rcases hown.2 with ⟨_, h0⟩ | ⟨_, _, _, e2, _, _, h1, h2, _⟩
                                            · omega
                                            · unfold maxLen at h2; omega
  have S0 := sumof_any A' n' c' w1.heap.size w2.heap.size (a ++ b) w2 (Row.of_own hown) (Nat.le_refl _) hn'
  rw [HQ.out] at S0
  have S1 := hid S0
  clear S0
  have HB2 := hid (HB1.out.trans (hb2.mono HB1.out.size))
  clear hown hb2 hl hA' hn'
  go_wp2_with fail
  refine S1.out.mono ?_
  rintro e w3 ⟨rfl, hb3⟩
  have HB3 := hid (HB2.out.trans (hb3.mono HB2.out.size))
  clear hb3
  go_wp2
  go_ret
  exact ⟨rfl, HB3.out⟩
end Go.Proofs.YtpckloafdlkefaaGreat
