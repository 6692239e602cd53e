/-
  Contract of the closure of frame's payloads, by the law of XTold.
-/
import Derived.Shelf.Abstract
import Derived.Shelf.RegionOpen
import Derived.WalkKit
import Derived.OwnWalkIn
import Derived.TacticsInMore
import Derived.LoopNIn
import Derived.LoopIn
import Derived.Test.YtdbbgcbdkafghaaFrameOne
import Derived.Test.YtdbbgcbdkafghaaTold
import Derived.Test.YtdbbgcbdkafghaaListsOf
namespace Go.Proofs.Ytdbbgcbdkafghaa
open Go.RowKit Go.Shelf Go.Joins Regs
attribute [local go_sem] Oper.semAt_some

/-- A payload that was handed over: its bytes, and the slice that holds them. -/
structure Pay where
  p : List UInt8
  A : Option Addr
  n : Nat
  c : Nat
def Pay.v (x : Pay) : Value := .slice x.A x.n x.c
/-- It lies in memory of its own, from n₀ on. -/
def Paid (n₀ : Nat) (x : Pay) (W : World) : Prop := x.p.length = x.n ∧ (x.A = none → x.c = 0) ∧ W.ownsRow n₀ 5 1 (.slice x.A x.n x.c) x.n (U x.p)
theorem flat_snoc (l : List (List UInt8)) (p : List UInt8) : flat (l ++ [p]) = flat l ++ frm p := by rw [flat_append, flat_cons]; simp [flat]

set_option maxRecDepth 100000 in
set_option maxHeartbeats 2000000 in
theorem payloads1_in (n₀ Bx lo up : Nat) (A0 : Option Addr) (m0 c0 : Nat) (b : List UInt8) (w : World) (hBx : Bx < w.heap.size) (hn₀ : n₀ ≤ w.heap.size) (hup : up ≤ n₀) (hR : Row w lo up A0 m0 (U b)) (hA : A0 = none → c0 = 0) (hc : m0 ≤ c0 ∧ c0 ≤ maxLen) (hm : m0 ≤ 300000)
    (hbox : w.cell? ⟨Bx, 0, none⟩ = some (.slice A0 m0 c0)) :
    Tells Fence.wide 3 Try.prog 38 #[.pointer (some ⟨Bx, 0, none⟩)] (fun x : Pay => #[.slice x.A x.n x.c]) n₀ (Paid n₀) (fun xs => (flat (xs.map (·.p))).length ≤ b.length) (fun xs => ∃ r, Scans b (xs.map (·.p)) r) w := by
  intro l J W hW hJ hY h0
  have hbox1 : W.cell? ⟨Bx, 0, none⟩ = some (.slice A0 m0 c0) := (hW.cell (p := ⟨Bx, 0, none⟩) hBx).trans hbox
  have hR1 : Row W lo up A0 m0 (U b) := hR.below hW (by omega)
  have hWs : n₀ ≤ W.heap.size := Nat.le_trans hn₀ hW.size
  have HJ := hid hJ
  have HY := hid hY
  have HR1 := hid hR1
  have HA := hid hA
  clear hJ hY hR1 hA hR
  refine callsIn_of_wp Try.func38 rfl trivial ?_ rfl
  simp only [Try.ntmps38, List.size_toArray, List.length_cons, List.length_nil, Nat.reduceAdd, Nat.reduceSub, Array.replicate_succ, Array.replicate_zero, List.push_toArray, List.append_toArray, List.nil_append, List.cons_append]
  gi_wp2
  gi_loopw [3] (fun v wr => ∃ (pre : List Pay) (rest : List UInt8) (A : Option Addr) (m c : Nat), v = .slice A m c ∧ Hid (Row wr lo up A m (U rest)) ∧ Hid (A = none → c = 0) ∧ m ≤ c ∧ c ≤ maxLen ∧ m ≤ 300000 ∧ Hid (b = flat (pre.map (·.p)) ++ rest) ∧ Hid (∀ x ∈ pre, x.p.length ≤ 33554432) ∧ Hid (J pre wr) ∧ n₀ ≤ wr.heap.size)
    (fun v _ => match v with | .slice _ m _ => m | _ => 0)
  case atStart => exact ⟨[], b, A0, m0, c0, rfl, HR1, HA, hc.1, hc.2, hm, hid (by simp [flat]), hid (fun x hx => by cases hx), hid h0, hWs⟩
  case round =>
    obtain ⟨pre, rest, A, m, c, rfl, HRr, HAr, hmc, hcm, hm3, HB, HP, HJr, hsz⟩ := hrel
    have O1 := hid (one_any A m c lo up rest wr HRr.out HAr.out (by omega) hm3 ⟨hmc, hcm⟩)
    by_cases hz : (one rest).1 = 0
    · obtain ⟨p, k, hone⟩ := one_zero hz
      clear hz
      obtain ⟨hp1, hk, hbs, hkl⟩ := one_ok hone
      have hrl : rest.length = m := by have := HRr.out.len; rwa [U_len] at this
      have hkm : k ≤ m := by omega
      have hk8 : 8 ≤ k := by omega
      rw [hone] at O1
      have HBS := hid hbs
      have HP1 := hid hp1
      have HKE := hid hk
      have HRL := hid hrl
      clear hone hbs hp1 hk hkl hrl
      have hd := HRr.out.drop (k := k) (cap := c) hkm hmc
      rw [U_drop] at hd
      have hbs := HBS.out
      clear HBS
      generalize rest.drop k = rs at hd hbs
      have HD := hid hd
      have HBS := hid hbs
      clear hd hbs
      have GE : Hid (∀ A2 n2 c2, b = flat ((pre ++ [(⟨p, A2, n2, c2⟩ : Pay)]).map (·.p)) ++ rs) := hid fun A2 n2 c2 => by
        rw [List.map_append, List.map_cons, List.map_nil, flat_snoc, List.append_assoc, ← HBS.out]
        exact HB.out
      have GB : Hid (∀ A2 n2 c2, (flat ((pre ++ [(⟨p, A2, n2, c2⟩ : Pay)]).map (·.p))).length ≤ b.length) := hid fun A2 n2 c2 => by
        have := congrArg List.length (GE.out A2 n2 c2)
        rw [List.length_append] at this
        omega
      rcases Nat.lt_or_ge k c with hkc | hkc
      case' inl =>
        have hkc2 : ¬ c = k := by omega
        have hki : ((k : Int) == (c : Int)) = false := by simp; omega
      case' inr =>
        obtain rfl : c = k := by omega
      all_goals
        gi_wp2_with (refine ⟨trivial, ?_⟩; gi_at_call 9; refine (callsIn_wide.2 O1.out).mono ?_; rintro e w2 ⟨A2, n2, c2, rfl, hl2, hA2, hown2, hb2⟩; obtain ⟨fn, tmps, assign, body, hy, hR⟩ := HY.out pre ⟨p, A2, n2, c2⟩ w2 (HJ.out _ _ _ HJr.out hb2) ⟨hl2.out, hA2.out, ownsRow_le hown2 hsz⟩ (GB.out A2 n2 c2); dsimp only at hy)
        refine hR.mono ?_
        rintro e w3 ⟨rfl, hJ3, hb3⟩
        have HJ3 := hid hJ3
        have HB3 := hid ((hb2.mono hsz).trans hb3)
        have HS3 : n₀ ≤ w3.heap.size := Nat.le_trans hsz HB3.out.size
        clear hJ3 hb3 hy hR hb2 hown2
        have HB' := hid (GE.out A2 n2 c2)
        have HP' : Hid (∀ x ∈ pre ++ [(⟨p, A2, n2, c2⟩ : Pay)], x.p.length ≤ 33554432) := hid (fun x hx => by
          rcases List.mem_append.1 hx with hx | hx
          · exact HP.out x hx
          · rw [List.mem_singleton] at hx
            subst hx
            exact HP1.out)
        gi_wp2
        go_roundw
        case rel =>
          first
            | (refine ⟨_, _, _, _, _, rfl, hid ?_, hid ?_, ?_, ?_, ?_, HB', HP', HJ3, HS3⟩
               · have := HD.out
                 rw [if_neg hkc2] at this
                 exact this.below HB3.out hup
               · intro e
                 cases A with
                 | none => have := HAr.out rfl; omega
                 | some a => cases e
               · omega
               · omega
               · omega)
            | (refine ⟨_, _, _, _, _, rfl, hid ?_, hid ?_, ?_, ?_, ?_, HB', HP', HJ3, HS3⟩
               · have := HD.out
                 have e0 : m - c = 0 := by omega
                 rw [if_pos trivial, e0] at this
                 exact this.below HB3.out hup
               · intro _; rfl
               · omega
               · omega
               · omega)
        case measure => simp; omega
    · obtain ⟨z, hzz⟩ : ∃ z, z = (one rest).1 := ⟨_, rfl⟩
      have hr2 := one_code rest hz
      have hone : one rest = (z, [], 0) := by rw [hzz, ← hr2]
      rw [hone] at O1
      have HSTOP := hid hz
      rw [← hzz] at hz
      clear hone hr2 hzz
      have hzb : (z != 0) = true := by simpa using hz
      gi_wp2_with (refine ⟨trivial, ?_⟩; gi_at_call 9; refine (callsIn_wide.2 O1.out).mono ?_; rintro e w2 ⟨A2, n2, c2, rfl, _, _, _, hb2⟩)
      refine ⟨fun _ h => (by cases h), ?_⟩
      gi_wp2
      refine bodyPost_ret (results_none rfl _ _ _) rfl ?_
      exact ⟨⟨_, rfl⟩, pre, ⟨rest, ⟨HB.out, fun q hq => by obtain ⟨x, hx, rfl⟩ := List.mem_map.1 hq; exact HP.out x hx, HSTOP.out⟩⟩, HJ.out _ _ _ HJr.out hb2⟩
end Go.Proofs.Ytdbbgcbdkafghaa
