/-
  The contract of the reference's Read of layer 3, whatever bytes come in.
-/
import Derived.Test.YtcaleaecjoafhaaWide3
namespace Go.Proofs.Ytcaleaecjoafhaa
open Go.RowKit

set_option maxHeartbeats 3200000 in
theorem rread_any (A : Option Addr) (n c lo up : Nat) (l : List UInt8) (w : World) (hR : Row w lo up A n (U l)) (hnc : n ≤ c) (hup : up ≤ w.heap.size) :
    Calls Try.prog 22 #[.slice A n c] w (Owns .i16 22 w (rdV l) (rdE l)) := by
  obtain ⟨i0, hi, hz0, hz1, hz2⟩ := info_parts info16
  have hl := hR.len
  rw [U_len] at hl
  have HL := hid hl
  by_cases h1 : 2048 < n
  · have HE : Hid (rdE l = 3) := hid (by unfold rdE; rw [if_pos (by omega)])
    have HV : Hid (rdV l = []) := hid (by unfold rdV; rw [if_neg (by rw [HE.out]; decide)])
    clear hl
    go_enter Try.func22, Try.ntmps22
    go_wp2
    go_ret2
    rw [HE.out, HV.out]
    exact ⟨none, 0, 0, rfl, hid rfl, hid (fun _ => rfl), World.ownsRow_nil _ _ _ _, Below.refl _ _⟩
  have h1' : n ≤ 2048 := by omega
  clear h1
  by_cases h2 : n % 2 = 1
  · have HE : Hid (rdE l = 4) := hid (by unfold rdE; rw [if_neg (by omega), if_pos (by omega)])
    have HV : Hid (rdV l = []) := hid (by unfold rdV; rw [if_neg (by rw [HE.out]; decide)])
    have q1 : ((n : Int) % 2 != 0) = true := by simp; omega
    clear hl h2
    go_enter Try.func22, Try.ntmps22
    go_wp2
    go_ret2
    rw [HE.out, HV.out]
    exact ⟨none, 0, 0, rfl, hid rfl, hid (fun _ => rfl), World.ownsRow_nil _ _ _ _, Below.refl _ _⟩
  obtain ⟨m, hm⟩ : ∃ m : Nat, n = 2 * m := ⟨n / 2, by omega⟩
  have HE : Hid (rdE l = 0) := hid (by unfold rdE; rw [if_neg (by omega), if_neg (by omega)])
  have HV : Hid (rdV l = rds l) := hid (by unfold rdV; rw [if_pos HE.out])
  have HRL : Hid ((rds l).length = m) := hid (by rw [rds_len]; omega)
  have q1 : ((n : Int) % 2 != 0) = false := by simp; omega
  have HM := hid hm
  clear hl h2 hm
  go_enter Try.func22, Try.ntmps22
  go_wp2
  go_loopw [4, 5] (fun v i wr => ∃ k j : Nat, Hid (j = 2 * k) ∧ j ≤ n ∧ i = .int .i64 j ∧ wr.ownsRow w.heap.size 22 1 v k (IK .i16 ((rds l).take k)) ∧ Below w.heap.size w wr) (fun _ i _ => n - (intOf i).toNat)
  case atStart => exact ⟨0, 0, hid rfl, Nat.zero_le _, rfl, World.ownsRow_nil _ _ _ _, Below.refl _ _⟩
  case round =>
    obtain ⟨k, j, HJ, hj, rfl, hown, hb⟩ := hrel
    have hsz := hb.size
    by_cases hlt : j < n
    · have hj2 : j + 2 ≤ n := by have := HJ.out; have := HM.out; omega
      have hkr : k < (rds l).length := by rw [HRL.out]; have := HJ.out; have := HM.out; omega
      have hk1 : k < 1025 := by have := HJ.out; omega
      have HI : Hid (IK .i16 ((rds l).take (k + 1)) = IK .i16 ((rds l).take k) ++ [.int .i16 (sgn (num ((l.drop j).take 2)) 2)]) := hid (by rw [rds_take l k hkr, IK_append, HJ.out]; rfl)
      have hr2 : Row wr lo up (Option.map (fun x => x.add j) A) 2 (U ((l.drop j).take 2)) := by
        have h := ((hR.below hb hup).drop (k := j) (cap := c) (by omega) hnc).take (k := 2) (by omega)
        rwa [U_drop, U_take, if_neg (by omega)] at h
      obtain ⟨x1, x2⟩ := sgn_two (num ((l.drop j).take 2))
      have HN : Hid (num (((l.drop j).take 2).take 8) = num ((l.drop j).take 2)) := hid (by rw [List.take_of_length_le]; rw [List.length_take]; omega)
      have hnl : (num ((l.drop j).take 2) : Int) ≤ 18446744073709551615 := by
        have := num_take8 ((l.drop j).take 2)
        rwa [HN.out] at this
      have qw := i16_fits x1 x2
      have g6 : IntKind.i64.wrap ((j : Int) + 2) = (j : Int) + 2 := IntWalk.i64_in _ (by omega)
      have hjc : (j : Int) + 2 ≤ (c : Int) := by omega
      have HR2 := hid hr2
      clear hr2
      go_wp2_with fail
      refine (rof_any (Option.map (fun x => x.add j) A) 2 (c - j) lo up ((l.drop j).take 2) wr HR2.out (by omega)).mono ?_
      rintro e w2 ⟨rfl, rfl⟩
      rw [HN.out]
      have hn0 : 0 ≤ (num ((l.drop j).take 2) : Int) := by omega
      generalize (num ((l.drop j).take 2) : Int) = y at *
      go_wp2_with fail
      refine (rsigned_any y 2 wr hn0 hnl).mono ?_
      rintro e w2 ⟨rfl, rfl⟩
      generalize sgn y 2 = x at *
      clear HR2 HN
      go_wp2_with (at_builtin; refine wpList_append_row _ rfl (.tmp 19) (.tmp 28) 30 rfl w.heap.size 22 i0 (.int .i16 0) 2 Try.underlying30 hi hz0 hz1 hz2 rfl u4 k (IK .i16 ((rds l).take k)) rfl (hown.alloc _) wr.heap.size (wr.heap.size + 1) (some ⟨wr.heap.size, 0, none⟩) 1 1 rfl (by intro h; cases h) [.int .i16 x] (by exact row_one _ _ _) (by intro u hu; simp at hu; subst hu; rfl) (by unfold maxLen; omega) (by omega) (by simp; omega) ?_; intro v3 w3 hown3 hgrow3 _)
      have hb3 : Below w.heap.size w w3 := (hb.alloc hsz _).grown hgrow3 (by simp; omega) (fun g hg => (hown.lt g hg).1)
      rw [← HI.out] at hown3
      clear hgrow3 hown hb
      go_wp2
      go_roundw
      case rel => exact ⟨k + 1, j + 2, hid (by have := HJ.out; omega), by omega, by go_num, hown3, hb3⟩
      case measure => simp [intOf]; omega
    · obtain rfl : j = n := by omega
      have hk : k = m := by have := HJ.out; have := HM.out; omega
      subst hk
      rw [List.take_of_length_le (by rw [HRL.out]; exact Nat.le_refl _)] at hown
      obtain ⟨A4, c4, rfl, hA4, _⟩ := own_shape hown
      go_wp2
      go_ret2
      rw [HE.out, HV.out]
      exact ⟨A4, k, c4, rfl, HRL, hid hA4, hown, hb⟩
end Go.Proofs.Ytcaleaecjoafhaa
