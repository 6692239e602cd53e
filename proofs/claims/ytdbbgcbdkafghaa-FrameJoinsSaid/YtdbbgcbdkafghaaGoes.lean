/-
  The walk of FrameGoes.
-/
import Derived.Test.YtdbbgcbdkafghaaJoins7
import Derived.Test.YtdbbgcbdkafghaaLives7
namespace Go.Proofs.Ytdbbgcbdkafghaa
open Go.RowKit Go.Joins Regs

theorem mem_short {ps : List (List UInt8)} {q : List UInt8} (h : q ∈ ps) : q.length ≤ (flat ps).length := by
  induction ps with
  | nil => cases h
  | cons p ps ih =>
    rw [flat_cons, List.length_append, frm_len]
    rcases List.mem_cons.1 h with rfl | h
    · omega
    · have := ih h; omega
theorem OnePost.good {w w' : World} {e : Ending} {p : List UInt8} {k n : Nat} {z : Int} (h : OnePost w (0, p, k) e w') (hn : p.length = n) (hz : (k : Int) = z) :
    ∃ A c, e = .returned (.tuple #[.slice A n c, .int .i64 z, .int .i64 0]) ∧ Hid (A = none → c = 0) ∧ w'.ownsRow w.heap.size 5 1 (.slice A n c) n (U p) ∧ Below w.heap.size w w' := by
  obtain ⟨A, m, c, rfl, hl, hA, hown, hb⟩ := h
  have hm : n = m := hn.symm.trans hl.out
  subst hm
  subst hz
  exact ⟨A, c, rfl, hA, hown, hb⟩
set_option maxHeartbeats 4000000 in
set_option maxRecDepth 20000 in
theorem goes_walk (A : Option Addr) (n c : Nat) (p : List UInt8) (B : Option Addr) (m d : Nat) (q : List UInt8) (w : World) (hR : Row w 0 w.heap.size A n (U p)) (hA : A = none → c = 0) (hQ : Row w 0 w.heap.size B m (U q)) (hB : B = none → d = 0) (hd : m ≤ d ∧ d ≤ maxLen) :
    Calls Try.prog 7 #[.slice A n c, .slice B m d] w fun e w' => e = .returned (.bool true) ∧ Below w.heap.size w w' := by
  obtain ⟨i0, hi, hz0, hz1, hz2⟩ := info_parts info5
  have LV := hid (lives7_any w)
  have hl : p.length = n := by have := hR.len; rwa [U_len] at this
  have hql : q.length = m := by have := hQ.len; rwa [U_len] at this
  have RP : Hid (∀ W, Below w.heap.size w W → Row W 0 w.heap.size A n (U p)) := hid fun W hW => hR.below hW (Nat.le_refl _)
  have RQ : Hid (∀ W, Below w.heap.size w W → Row W 0 w.heap.size B m (U q)) := hid fun W hW => hQ.below hW (Nat.le_refl _)
  have HL := hid hl
  have HQL := hid hql
  have HA := hid hA
  have HBN := hid hB
  clear hR hQ hA hB hl hql
  go_enter Try.func7, Try.ntmps7
  go_wp2_with fail
  refine LV.out.mono ?_
  rintro e w1 ⟨rfl, hb1⟩
  have HB1 := hid hb1
  clear LV hb1
  by_cases hn : 400 < n
  · go_wp2
    go_ret
    exact ⟨rfl, HB1.out⟩
  by_cases hm : 400 < m
  · go_wp2
    go_ret
    exact ⟨rfl, HB1.out⟩
  have BY := hid (bytes7_any A n c 0 w.heap.size p w1 (RP.out w1 HB1.out) HA.out HB1.out.size (by omega))
  go_wp2_with fail
  refine BY.out.mono ?_
  rintro e w2 ⟨A2, n2, c2, rfl, hl2, hA2, hown2, hb2⟩
  have hn2 : n2 = n + 8 := by have := hl2.out; rw [frm_len, HL.out] at this; exact this.symm
  subst hn2
  have HO2 := hid (Row.of_own hown2)
  have HB2 := hid (HB1.out.trans (hb2.mono HB1.out.size))
  have OW := hid (own_any A2 (n + 8) c2 w1.heap.size w2.heap.size (frm p) w2 HO2.out hA2.out (Nat.le_refl _) (by omega))
  clear hown2 hb2 BY
  go_wp2_with fail
  refine OW.out.mono ?_
  rintro e w3 ⟨A3, n3, c3, rfl, hl3, hA3, hown3, hb3⟩
  have hn3 : n3 = n + 8 := by have := hl3.out; rw [frm_len, HL.out] at this; exact this.symm
  subst hn3
  have HO3 := hid hown3
  have HB3 := hid (HB2.out.trans (hb3.mono HB2.out.size))
  have hs3 : w2.heap.size ≤ w3.heap.size := hb3.size
  have hs2 : w.heap.size ≤ w2.heap.size := HB2.out.size
  clear hown3 hb3 OW
  go_wp2_with (at_builtin; go_loud (refine wpList_append_row _ rfl _ _ 22 rfl w2.heap.size 5 i0 (.int .u8 0) 1 Try.underlying22 hi hz0 hz1 hz2 rfl _ (n + 8) _ rfl HO3.out 0 w.heap.size B m d rfl HBN.out (U q) (RQ.out w3 HB3.out) (U_one _) (by unfold maxLen; omega) (by omega) hs3 ?_); intro v4 w4 own4 grow4 at4; obtain ⟨A4, c4, rfl, hA4, _⟩ := own_shape own4)
  rw [← U_append] at own4
  have HB4 := hid (HB3.out.grown grow4 HB3.out.size (fun g hg => Nat.le_trans hs2 (HO3.out.lt g hg).1))
  have O1 := one_any A4 (n + 8 + m) c4 w2.heap.size w4.heap.size (frm p ++ q) w4 (Row.of_own own4) hA4 (Nat.le_refl _) (by omega) (own_caps own4)
  rw [one_frm (by rw [HL.out]; omega)] at O1
  have O2 := hid O1
  clear O1 own4 grow4 at4 hA4
  refine O2.out.mono ?_
  intro e w5 he
  obtain ⟨A5, c5, rfl, hA5, hown5, hb5⟩ := he.good HL.out (z := 8 + (n : Int)) (by have := HL.out; omega)
  clear he O2
  have HO5 := hid (Row.of_own hown5)
  have HB5 := hid (HB4.out.trans (hb5.mono HB4.out.size))
  have hne : ((8 + (n : Int)) != ((n : Int) + 8)) = false := by simp; omega
  clear hown5 hb5
  have SM := hid (same_yes A5 A n n c5 c w4.heap.size w5.heap.size 0 w.heap.size p p w5 HO5.out (RP.out w5 HB5.out) (by omega) rfl)
  go_wp2_with fail
  refine SM.out.mono ?_
  rintro e w6 ⟨rfl, k6, rfl⟩
  have HB6 := hid (below_drewN HB5.out k6)
  generalize w5.drewN k6 = w6 at HB6
  clear SM HB5 HO5
  have SC := hid (scan_any B m d 0 w.heap.size q w6 (RQ.out w6 HB6.out) HBN.out HB6.out.size hd (by omega))
  go_wp2_with fail
  refine SC.out.mono ?_
  rintro e w7 ⟨ps, r, A7, n7, c7, vs, rfl, hS, hBL, hA7, hc7, hc7', hb7⟩
  have hlen : q.length = (flat ps).length + r.length := by have := congrArg List.length hS.out.bytes; rwa [List.length_append] at this
  have hpl : ps.length = n7 := hBL.out.len
  have hmany := flat_many ps
  obtain ⟨z, hz⟩ : ∃ z, z = (flat ps).length := ⟨_, rfl⟩
  have HZ := hid hz
  rw [← hz] at hlen hmany ⊢
  have hzm : z ≤ m := by have := HQL.out; omega
  have hn7 : n7 ≤ 60 := by omega
  have HTK : Hid (flat ps = q.take z) := hid (by rw [hS.out.bytes, hz, List.take_append_of_le_length (Nat.le_refl _), List.take_of_length_le (Nat.le_refl _)])
  have HB7 := hid (HB6.out.trans (hb7.mono HB6.out.size))
  have J := joined_any A7 n7 c7 w6.heap.size w7.heap.size ps vs w7 hBL.out (Nat.le_refl _) hn7 (fun l hl => by have := mem_short hl; rw [← hz] at this; omega)
  have HJ := hid J
  have HPL := hid hpl
  clear J hz hb7 SC hlen hmany hpl
  go_wp2_with fail
  refine HJ.out.mono ?_
  rintro e w8 ⟨A8, n8, c8, B8, d8, rfl, hl8, hA8, hown8, _, hb8⟩
  have hn8 : n8 = z := by rw [← hl8.out]; exact HZ.out.symm
  subst hn8
  rw [HTK.out] at hown8
  have HO8 := hid (Row.of_own hown8)
  have HB8 := hid (HB7.out.trans (hb8.mono HB7.out.size))
  clear hown8 hb8 HJ
  have RT := hid (((RQ.out w8 HB8.out).take hzm))
  have hzd : n8 ≤ d := by omega
  have SM2 : Hid (Calls Try.prog 20 #[.slice A8 n8 c8, .slice B n8 d] w8 fun e w' => e = .returned (.bool true) ∧ ∃ k, w' = w8.drewN k) := hid (by
    have := RT.out
    rw [U_take] at this
    exact same_yes A8 B n8 n8 c8 d w7.heap.size w8.heap.size 0 w.heap.size _ _ w8 HO8.out this (by omega) rfl)
  go_wp2_with fail
  refine SM2.out.mono ?_
  rintro e w9 ⟨rfl, k9, rfl⟩
  have HB9 := hid (below_drewN HB8.out k9)
  generalize w8.drewN k9 = w9 at HB9
  clear SM2
  go_wp2
  go_ret
  exact ⟨rfl, HB9.out⟩
end Go.Proofs.Ytdbbgcbdkafghaa
