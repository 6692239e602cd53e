/-
  Contract of frame's One.
-/
import Derived.Test.YtpckloafdlkefaaGreatFrameBytes
import Derived.Test.YtpckloafdlkefaaGreatNums
import Derived.OwnWalk
import Derived.Deep.RegionHeld3
namespace Go.Proofs.YtpckloafdlkefaaGreat
set_option maxRecDepth 40000
open Go.RowKit Go.Joins Regs

/-- A payload in memory of its own, how long its frame is, an error. -/
def OnePost (w : World) (r : Int × List UInt8 × Nat) (e : Ending) (w' : World) : Prop :=
  ∃ A n c, e = .returned (.tuple #[.slice A n c, .int .i64 (r.2.2 : Int), .int .i64 r.1]) ∧ Hid (r.2.1.length = n) ∧ Hid (A = none → c = 0) ∧ w'.ownsRow w.heap.size 5 1 (.slice A n c) n (U r.2.1) ∧ Below w.heap.size w w'
theorem one_none {w w' : World} {z : Int} (hb : Below w.heap.size w w') : OnePost w (z, [], 0) (.returned (.tuple #[.slice none 0 0, .int .i64 0, .int .i64 z])) w' :=
  ⟨none, 0, 0, rfl, hid rfl, hid (fun _ => rfl), World.ownsRow_nil _ _ _ _, hb⟩
set_option maxHeartbeats 2000000 in
set_option maxRecDepth 20000 in
theorem one_any (A : Option Addr) (n c lo up : Nat) (b : List UInt8) (w : World) (hR : Row w lo up A n (U b)) (hA : A = none → c = 0) (hup : up ≤ w.heap.size) (hn : n ≤ 300000) (hc : n ≤ c ∧ c ≤ maxLen) :
    Calls Tryz.prog 112 #[.slice A n c] w (OnePost w (one b)) := by
  have hl : b.length = n := by have := hR.len; rwa [U_len] at this
  have hcm : c ≤ 9223372036854775807 := by have := hc.2; unfold maxLen at this; exact this
  have hnc := hc.1
  by_cases h8 : n < 8
  · have e1 : one b = (5, [], 0) := by unfold one; rw [if_pos (by omega)]
    rw [e1]
    clear e1
    go_enter Tryz.func112, Tryz.ntmps112
    go_wp2
    go_ret3
    exact one_none (Below.refl _ _)
  · have R4 := hR.take (k := 4) (by omega)
    rw [U_take] at R4
    have O4 := of_any A 4 c lo up (b.take 4) w R4 (by omega)
    rw [List.take_take, Nat.min_eq_right (by omega)] at O4
    obtain ⟨z, hz⟩ : ∃ z : Nat, z = num (b.take 4) := ⟨_, rfl⟩
    rw [← hz] at O4
    have hzl : z < 4294967296 := by rw [hz]; have := num_take_lt b 4; have e : (256 : Nat) ^ 4 = 4294967296 := by decide
                                    omega
    have O1 := hid O4
    have HZ := hid hz
    have HL := hid hl
    have HR := hid hR
    have HR4 := hid R4
    have HA := hid hA
    clear O4 hz hl hR R4 hA
    by_cases hlong : 33554432 < z
    · have e1 : one b = (3, [], 0) := by unfold one; rw [if_neg (by have := HL.out; omega), ← HZ.out, if_pos hlong]
      rw [e1]
      clear e1
      go_enter Tryz.func112, Tryz.ntmps112
      go_wp2_with fail
      refine O1.out.mono ?_
      rintro e w' ⟨rfl, rfl⟩
      go_wp2
      go_ret3
      exact one_none (Below.refl _ _)
    · by_cases hmore : n < 8 + z
      · have e1 : one b = (5, [], 0) := by unfold one; rw [if_neg (by have := HL.out; omega), ← HZ.out, if_neg hlong, if_pos (by have := HL.out; omega)]
        rw [e1]
        clear e1
        go_enter Tryz.func112, Tryz.ntmps112
        go_wp2_with fail
        refine O1.out.mono ?_
        rintro e w' ⟨rfl, rfl⟩
        go_wp2
        go_ret3
        exact one_none (Below.refl _ _)
      · have hc4 : ¬ c = 4 := by omega
        have g1 : (4 : Int) ≤ (c : Int) := by omega
        have g2 : (8 : Int) ≤ (c : Int) := by omega
        have g3 : IntKind.i64.wrap (c : Int) = (c : Int) := IntWalk.i64_in _ (by omega)
        have g6 : 4 ≤ c := by omega
        have g7 : 8 ≤ c := by omega
        have hz1 : z ≤ 300000 := by omega
        have hzc : 8 + z ≤ c := by omega
        obtain ⟨pl, hpl⟩ : ∃ pl, pl = (b.drop 8).take z := ⟨_, rfl⟩
        obtain ⟨x, hx⟩ : ∃ x, x = num ((b.drop 4).take 4) := ⟨_, rfl⟩
        obtain ⟨y, hy⟩ : ∃ y, y = (csum (b.take 4 ++ pl)).toNat := ⟨_, rfl⟩
        have hx4 : (x : Int) < 4294967296 := by
          rw [hx]
          have := num_take_lt (b.drop 4) 4
          have e : (256 : Nat) ^ 4 = 4294967296 := by decide
          omega
        have hy4 : (y : Int) < 4294967296 := by rw [hy]; exact toNat_lt _
        have hone : one b = if x ≠ y then (4, [], 0) else (0, pl, 8 + z) := by
          unfold one
          rw [if_neg (by have := HL.out; omega), ← HZ.out, if_neg hlong, if_neg (by have := HL.out; omega), ← hpl, ← hx, ← hy]
        have O2 : Hid (∀ W, Row W lo up A n (U b) → Calls Tryz.prog 103 #[.slice (A.map (·.add 4)) 4 (c - 4)] W fun e w' => e = .returned (.int .u64 (x : Int)) ∧ W = w') := hid fun W hW => by
          have r := (hW.drop (k := 4) (cap := c) (by omega) (by omega))
          rw [if_neg hc4] at r
          have r2 := r.take (k := 4) (by omega)
          rw [U_drop, U_take] at r2
          have o := of_any (A.map (·.add 4)) 4 (c - 4) lo up _ W r2 (by omega)
          rw [List.take_take, Nat.min_eq_right (by omega), ← hx] at o
          exact o
        have PR : ∀ W (PA : Option Addr), Row W lo up A n (U b) → (0 < z → PA = A.map (·.add 8)) → Row W lo up PA z (U pl) := fun W PA hW hPA => by
          rcases Nat.eq_zero_or_pos z with h0 | h0
          · have : pl = [] := by rw [hpl, h0]; simp
            rw [this, h0]
            exact Row.empty
          · have r := (hW.drop (k := 8) (cap := c) (by omega) (by omega))
            rw [if_neg (by omega)] at r
            have r2 := r.take (k := z) (by omega)
            rw [U_drop, U_take, ← hpl, ← hPA h0] at r2
            exact r2
        have PN : ∀ (PA : Option Addr), (0 < z → PA = A.map (·.add 8)) → (PA = none → z = 0) := fun PA hPA hn => by
          rcases Nat.eq_zero_or_pos z with h0 | h0
          · exact h0
          · rw [hPA h0] at hn
            cases A with
            | none => have := HA.out rfl; omega
            | some a => cases hn
        have S2 : Hid (∀ W (PA : Option Addr) (k : Nat), k = z → (0 < z → PA = A.map (·.add 8)) → Row W lo up A n (U b) → up ≤ W.heap.size → Calls Tryz.prog 104 #[.slice A 4 c, .slice PA k k] W fun e w' => e = .returned (.int .u64 (y : Int)) ∧ Below W.heap.size W w') := hid fun W PA k hk hPA hW hu => by
          subst hk
          have r4 := hW.take (k := 4) (by omega)
          rw [U_take] at r4
          rw [hy]
          exact sum7_any A PA 4 c k k lo up lo up (b.take 4) pl W r4 (PR W PA hW hPA) HA.out (PN PA hPA) hu hu (by omega) (by omega)
        have CL : Hid (∀ W (PA : Option Addr) (k : Nat), k = z → (0 < z → PA = A.map (·.add 8)) → Row W lo up A n (U b) → up ≤ W.heap.size → Calls Tryz.prog 48 #[.slice PA k k] W (Fresh W pl)) := hid fun W PA k hk hPA hW hu => by
          subst hk
          exact clone_any PA k k lo up pl W (PR W PA hW hPA) (PN PA hPA) hu (by omega)
        clear hpl hx hy PR PN hx4 hy4
        by_cases hxy : x = y
        case neg =>
          rw [if_pos hxy] at hone
          rw [hone]
          clear hone
          rcases Nat.eq_zero_or_pos z with hz0 | hz0
          case' inl =>
            subst hz0
          all_goals
            go_enter Tryz.func112, Tryz.ntmps112
            go_wp2_with fail
            refine O1.out.mono ?_
            rintro e w' ⟨rfl, rfl⟩
            go_wp2_with fail
            go_region_held3 (fun _ => True) (exact trivial)
              (first
                | (go_at_call 103; refine (O2.out _ (by exact HR.out)).mono ?_; rintro e w2 ⟨rfl, hw2⟩; subst hw2)
                | (go_at_call 104; refine (S2.out _ _ _ (by omega) (by first | (intro h; exact absurd h (Nat.lt_irrefl 0)) | (intro _; rfl)) (by exact HR.out) (by exact hup)).mono ?_; rintro e w3 ⟨rfl, hb3⟩))
            go_wp2
            go_ret3
            exact one_none ⟨hb3.os, hb3.tape, hb3.output, hb3.size, hb3.block⟩
        case pos =>
          subst hxy
          rw [if_neg (by simp)] at hone
          rw [hone]
          clear hone
          rcases Nat.eq_zero_or_pos z with hz0 | hz0
          case' inl =>
            subst hz0
          all_goals
            go_enter Tryz.func112, Tryz.ntmps112
            go_wp2_with fail
            refine O1.out.mono ?_
            rintro e w' ⟨rfl, rfl⟩
            go_wp2_with fail
            go_region_held3 (fun _ => True) (exact trivial)
              (first
                | (go_at_call 103; refine (O2.out _ (by exact HR.out)).mono ?_; rintro e w2 ⟨rfl, hw2⟩; subst hw2)
                | (go_at_call 104; refine (S2.out _ _ _ (by omega) (by first | (intro h; exact absurd h (Nat.lt_irrefl 0)) | (intro _; rfl)) (by exact HR.out) (by exact hup)).mono ?_; rintro e w3 ⟨rfl, hb3⟩))
            have hb3' : Below w.heap.size w w3 := ⟨hb3.os, hb3.tape, hb3.output, hb3.size, hb3.block⟩
            have HB3 := hid hb3'
            clear hb3 hb3'
            go_wp2_with fail
            refine (CL.out w3 _ _ (by omega) (by first | (intro h; exact absurd h (Nat.lt_irrefl 0)) | (intro _; rfl)) (HR.out.below HB3.out hup) (Nat.le_trans hup HB3.out.size)).mono ?_
            rintro e w4 ⟨A4, n4, c4, rfl, hl4, hA4, hown4, hb4⟩
            have HO := hid (ownsRow_le hown4 HB3.out.size)
            have HB4 := hid (HB3.out.trans (hb4.mono HB3.out.size))
            clear hown4 hb4
            go_wp2
            go_ret3
            exact ⟨A4, n4, c4, by first | rfl | (simp; try omega), hl4, hA4, HO.out, HB4.out⟩
end Go.Proofs.YtpckloafdlkefaaGreat
