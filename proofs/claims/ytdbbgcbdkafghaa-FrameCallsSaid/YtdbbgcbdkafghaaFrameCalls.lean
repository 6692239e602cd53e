/-
  The walk of FrameCalls.
-/
import Derived.Test.YtdbbgcbdkafghaaRScan
import Derived.Test.YtdbbgcbdkafghaaGoes
namespace Go.Proofs.Ytdbbgcbdkafghaa
open Go.RowKit Go.Joins Regs

/-- What All tells, in plain words. -/
def AllIs (b : List UInt8) (z : Int) (ls : List (List UInt8)) : Prop := ∃ ps r, Scans b ps r ∧ ((r = [] ∧ z = 0 ∧ ls = ps) ∨ (r ≠ [] ∧ z = 4 ∧ ls = []))
theorem AllIs.unique {b : List UInt8} {z z' : Int} {ls ls' : List (List UInt8)} (h : AllIs b z ls) (h' : AllIs b z' ls') : z = z' ∧ ls = ls' := by
  obtain ⟨ps, r, hs, hx⟩ := h
  obtain ⟨ps', r', hs', hx'⟩ := h'
  obtain ⟨rfl, rfl⟩ := scans_unique hs hs'
  rcases hx with ⟨h1, rfl, rfl⟩ | ⟨h1, rfl, rfl⟩ <;> rcases hx' with ⟨h2, rfl, rfl⟩ | ⟨h2, rfl, rfl⟩
  · exact ⟨rfl, rfl⟩
  · exact absurd h1 h2
  · exact absurd h2 h1
  · exact ⟨rfl, rfl⟩
theorem AllPost.is {w w' : World} {b : List UInt8} {e : Ending} (h : AllPost w b e w') :
    ∃ z ls A n c vs, Hid (AllIs b z ls) ∧ e = .returned (.tuple #[.slice A n c, .int .i64 z]) ∧ Hid (BL w' w.heap.size w'.heap.size A n ls vs) ∧ Hid (A = none → c = 0) ∧ n ≤ c ∧ c ≤ maxLen ∧ Below w.heap.size w w' := by
  obtain ⟨ps, r, A, n, c, vs, z, hS, rfl, hA, h1, h2, hb, hx⟩ := h
  rcases hx with ⟨hr, rfl, hB⟩ | ⟨hr, rfl, rfl, rfl, hB⟩
  · exact ⟨0, ps, A, n, c, vs, hid ⟨ps, r, hS.out, .inl ⟨hr.out, rfl, rfl⟩⟩, rfl, hB, hA, h1, h2, hb⟩
  · exact ⟨4, [], none, 0, c, vs, hid ⟨ps, r, hS.out, .inr ⟨hr.out, rfl, rfl⟩⟩, rfl, hB, hA, h1, h2, hb⟩
set_option maxHeartbeats 8000000 in
set_option maxRecDepth 40000 in
theorem calls7_walk (A : Option Addr) (n c : Nat) (p : List UInt8) (B : Option Addr) (m d : Nat) (q : List UInt8) (x : Int) (w : World) (hR : Row w 0 w.heap.size A n (U p)) (hA : A = none → c = 0) (hQ : Row w 0 w.heap.size B m (U q)) (hB : B = none → d = 0) (hd : m ≤ d ∧ d ≤ maxLen) :
    Calls Try.prog 4 #[.slice A n c, .slice B m d, .int .i64 x] w fun e w' => e = .returned (.bool true) ∧ Below w.heap.size w w' := by
  have LV := hid (lives7_any w)
  have hl : p.length = n := by have := hR.len; rwa [U_len] at this
  have hql : q.length = m := by have := hQ.len; rwa [U_len] at this
  have RP : Hid (∀ W, Below w.heap.size w W → Row W 0 w.heap.size A n (U p)) := hid fun W hW => hR.below hW (Nat.le_refl _)
  have RQ : Hid (∀ W, Below w.heap.size w W → Row W 0 w.heap.size B m (U q)) := hid fun W hW => hQ.below hW (Nat.le_refl _)
  have HL := hid hl
  have HQL := hid hql
  have HA := hid hA
  have HBN := hid hB
  clear hR hQ hA hB hl hql
  go_enter Try.func4, Try.ntmps4
  go_wp2_with fail
  refine LV.out.mono ?_
  rintro e w1 ⟨rfl, hb1⟩
  have HB1 := hid hb1
  clear LV hb1
  by_cases hn : 400 < n
  · go_wp2
    go_ret
    exact ⟨rfl, HB1.out⟩
  by_cases hm : 400 < m
  · go_wp2
    go_ret
    exact ⟨rfl, HB1.out⟩
  -- Own(p), Bytes
  have OW := hid (own_any A n c 0 w.heap.size p w1 (RP.out w1 HB1.out) HA.out HB1.out.size (by omega))
  go_wp2_with fail
  refine OW.out.mono ?_
  rintro e w2 ⟨A2, n2, c2, rfl, hl2, hA2, hown2, hb2⟩
  have hn2 : n2 = n := by rw [← hl2.out]; exact HL.out
  subst hn2
  have HB2 := hid (HB1.out.trans (hb2.mono HB1.out.size))
  have BY := hid (bytes7_any A2 n2 c2 w1.heap.size w2.heap.size p w2 (Row.of_own hown2) hA2.out (Nat.le_refl _) (by omega))
  clear hown2 hb2 OW
  go_wp2_with fail
  refine BY.out.mono ?_
  rintro e w3 ⟨A3, n3, c3, rfl, hl3, hA3, hown3, hb3⟩
  have hn3 : n3 = n2 + 8 := by have := hl3.out; rw [frm_len, HL.out] at this; exact this.symm
  subst hn3
  have R3 := hid (Row.of_own hown3)
  have HB3 := hid (HB2.out.trans (hb3.mono HB2.out.size))
  clear hown3 hb3 BY
  have RB := hid (rbytes7_any A n2 c 0 w.heap.size p w3 (RP.out w3 HB3.out) HA.out HB3.out.size (by omega))
  go_wp2_with fail
  refine RB.out.mono ?_
  rintro e w4 ⟨A4, n4, c4, rfl, hl4, hA4, hown4, hb4⟩
  have hn4 : n4 = n2 + 8 := by have := hl4.out; rw [frm_len, HL.out] at this; exact this.symm
  subst hn4
  have X3 : Hid (∀ W, Below w4.heap.size w4 W → Row W w2.heap.size w3.heap.size A3 (n2 + 8) (U (frm p))) := hid fun W hW => (R3.out.below hb4 (Nat.le_refl _)).below hW hb4.size
  have X4 : Hid (∀ W, Below w4.heap.size w4 W → Row W w3.heap.size w4.heap.size A4 (n2 + 8) (U (frm p))) := hid fun W hW => (Row.of_own hown4).below hW (Nat.le_refl _)
  have HB4 := hid (HB3.out.trans (hb4.mono HB3.out.size))
  clear hown4 hb4 RB R3
  -- One
  have OQ := hid (own_any B m d 0 w.heap.size q w4 (RQ.out w4 HB4.out) HBN.out HB4.out.size (by omega))
  go_wp2_with fail
  refine OQ.out.mono ?_
  rintro e w5 ⟨A5, n5, c5, rfl, hl5, hA5, hown5, hb5⟩
  have hn5 : n5 = m := by rw [← hl5.out]; exact HQL.out
  subst hn5
  have B45 := hid hb5
  have HB5 := hid (HB4.out.trans (hb5.mono HB4.out.size))
  have O1 := hid (one_any A5 n5 c5 w4.heap.size w5.heap.size q w5 (Row.of_own hown5) hA5.out (Nat.le_refl _) (by omega) (own_caps hown5))
  clear hown5 hb5 OQ
  obtain ⟨r, hr⟩ : ∃ r, r = one q := ⟨_, rfl⟩
  have HRR := hid hr
  rw [← hr] at O1
  clear hr
  obtain ⟨k, pl, z⟩ := r
  go_wp2_with fail
  refine O1.out.mono ?_
  rintro e w6 ⟨A6, n6, c6, he, hl6, hA6, hown6, hb6⟩
  dsimp only at he hl6 hown6
  subst he
  have R6 := hid (Row.of_own hown6)
  have B46 := hid (B45.out.trans (hb6.mono B45.out.size))
  have HB6 := hid (HB5.out.trans (hb6.mono HB5.out.size))
  clear hown6 hb6 O1
  have O2 := rone_any B n5 d 0 w.heap.size q w6 (RQ.out w6 HB6.out) HBN.out HB6.out.size (by omega) hd
  rw [← HRR.out] at O2
  have O3 := hid O2
  clear O2
  go_wp2_with fail
  refine O3.out.mono ?_
  rintro e w7 ⟨A7, n7, c7, he, hl7, hA7, hown7, hb7⟩
  dsimp only at he hl7 hown7
  subst he
  have B47 := hid (B46.out.trans (hb7.mono B46.out.size))
  have HB7 := hid (HB6.out.trans (hb7.mono HB6.out.size))
  have X6 : Hid (∀ W, Below w7.heap.size w7 W → Row W w5.heap.size w6.heap.size A6 n6 (U pl)) := hid fun W hW => (R6.out.below hb7 (Nat.le_refl _)).below hW hb7.size
  have X7 : Hid (∀ W, Below w7.heap.size w7 W → Row W w6.heap.size w7.heap.size A7 n7 (U pl)) := hid fun W hW => (Row.of_own hown7).below hW (Nat.le_refl _)
  have hn67 : n6 ≤ 9223372036854775807 := by
    have h1 := own_caps hown7
    have h2 := hl6.out
    have h3 := hl7.out
    unfold maxLen at h1
    omega
  clear hown7 hb7 O3 R6
  -- Scan
  have SC := hid (scan_any B n5 d 0 w.heap.size q w7 (RQ.out w7 HB7.out) HBN.out HB7.out.size hd (by omega))
  go_wp2_with fail
  refine SC.out.mono ?_
  rintro e w8 ⟨ps, rr, A8, n8, c8, vs8, rfl, hS8, hBL8, hA8, hc8, hc8', hb8⟩
  have B78 := hid hb8
  have B48 := hid (B47.out.trans (hb8.mono B47.out.size))
  have HB8 := hid (HB7.out.trans (hb8.mono HB7.out.size))
  clear hb8 SC
  have RS := hid (rscan_any B n5 d 0 w.heap.size q w8 (RQ.out w8 HB8.out) HBN.out HB8.out.size hd (by omega))
  go_wp2_with fail
  refine RS.out.mono ?_
  rintro e w9 ⟨ps', rr', A9, n9, c9, vs9, rfl, hS9, hBL9, hA9, hc9, hc9', hb9⟩
  obtain ⟨hpe, hre⟩ := scans_unique hS9.out hS8.out
  subst hpe
  subst hre
  have B79 := hid (B78.out.trans (hb9.mono B78.out.size))
  have B49 := hid (B48.out.trans (hb9.mono B48.out.size))
  have HB9 := hid (HB8.out.trans (hb9.mono HB8.out.size))
  have X8 : Hid (∀ W, Below w9.heap.size w9 W → BL W w7.heap.size w8.heap.size A8 n8 ps' vs8) := hid fun W hW => (hBL8.out.below hb9 (Nat.le_refl _)).below hW hb9.size
  have X9 : Hid (∀ W, Below w9.heap.size w9 W → BL W w8.heap.size w9.heap.size A9 n9 ps' vs9) := hid fun W hW => hBL9.out.below hW (Nat.le_refl _)
  have Z89 : w8.heap.size ≤ w9.heap.size := hb9.size
  clear hb9 RS hS9 hS8 hBL8 hBL9
  obtain ⟨zz, hzz⟩ : ∃ zz, zz = (flat ps').length := ⟨_, rfl⟩
  rw [← hzz]
  clear hzz
  -- All
  have AL := hid (all_any B n5 d 0 w.heap.size q w9 (RQ.out w9 HB9.out) HBN.out HB9.out.size hd (by omega))
  go_wp2_with fail
  refine AL.out.mono ?_
  intro e10 w10 P10
  obtain ⟨za, la, A10, n10, c10, vs10, hI10, rfl, hBL10, _, hc10, hc10', hb10⟩ := P10.is
  clear P10 AL
  have B710 := hid (B79.out.trans (hb10.mono B79.out.size))
  have B410 := hid (B49.out.trans (hb10.mono B49.out.size))
  have B910 := hid hb10
  have HB10 := hid (HB9.out.trans (hb10.mono HB9.out.size))
  clear hb10
  have RA := hid (rall_any B n5 d 0 w.heap.size q w10 (RQ.out w10 HB10.out) HBN.out HB10.out.size hd (by omega))
  go_wp2_with fail
  refine RA.out.mono ?_
  intro e11 w11 P11
  obtain ⟨zb, lb, A11, n11, c11, vs11, hI11, rfl, hBL11, _, hc11, hc11', hb11⟩ := P11.is
  obtain ⟨he1, he2⟩ := hI11.out.unique hI10.out
  subst he1
  subst he2
  clear P11 RA hI10 hI11
  have B711 := hid (B710.out.trans (hb11.mono B710.out.size))
  have B411 := hid (B410.out.trans (hb11.mono B410.out.size))
  have B911 := hid (B910.out.trans (hb11.mono B910.out.size))
  have HB11 := hid (HB10.out.trans (hb11.mono HB10.out.size))
  have X10 : Hid (∀ W, Below w11.heap.size w11 W → BL W w9.heap.size w10.heap.size A10 n10 lb vs10) := hid fun W hW => (hBL10.out.below hb11 (Nat.le_refl _)).below hW hb11.size
  have X11 : Hid (∀ W, Below w11.heap.size w11 W → BL W w10.heap.size w11.heap.size A11 n11 lb vs11) := hid fun W hW => hBL11.out.below hW (Nat.le_refl _)
  have Z7 : w7.heap.size ≤ w11.heap.size := B711.out.size
  have Z4 : w4.heap.size ≤ w11.heap.size := B411.out.size
  have Z9 : w9.heap.size ≤ w11.heap.size := B911.out.size
  have Z10 : w10.heap.size ≤ w11.heap.size := hb11.size
  clear hb11 hBL10 hBL11
  have S1 := hid (same_yes A3 A4 (n2 + 8) (n2 + 8) c3 c4 _ _ _ _ (frm p) (frm p) w11 (X3.out w11 B411.out) (X4.out w11 B411.out) (by omega) rfl)
  go_wp2_with fail
  refine S1.out.mono ?_
  rintro e w12 ⟨rfl, k12, rfl⟩
  have S2 := hid (same_yes A6 A7 n6 n7 c6 c7 _ _ _ _ pl pl (w11.drewN k12) (X6.out _ (below_drewN B711.out k12)) (X7.out _ (below_drewN B711.out k12)) hn67 rfl)
  go_wp2_with fail
  refine S2.out.mono ?_
  rintro e w13 ⟨rfl, k13, rfl⟩
  obtain ⟨kk, hkk⟩ : ∃ kk, (w11.drewN k12).drewN k13 = w11.drewN kk := ⟨_, World.drewN_drewN _ _ _⟩
  rw [hkk]
  clear hkk S1 S2
  have HB13 := hid (below_drewN HB11.out kk)
  have B913 := hid (below_drewN B911.out kk)
  have B1113 := hid (below_drewN (Below.refl w11.heap.size w11) kk)
  have Z13 : w11.heap.size = (w11.drewN kk).heap.size := rfl
  generalize w11.drewN kk = w13 at *
  have S3 := lists_any A8 A9 n8 n9 c8 c9 _ _ _ _ ps' ps' vs8 vs9 w13 (X8.out _ B913.out) (X9.out _ B913.out) (by omega) (by omega) (by unfold maxLen at hc8'; omega)
  rw [decide_eq_true rfl] at S3
  have S4 := hid S3
  clear S3
  go_wp2_with fail
  refine S4.out.mono ?_
  rintro e w14 ⟨rfl, hb14⟩
  have HB14 := hid (HB13.out.trans (hb14.mono HB13.out.size))
  have B1114 := hid (B1113.out.trans (hb14.mono (by omega)))
  have Z14 : w11.heap.size ≤ w14.heap.size := B1114.out.size
  clear S4 hb14
  have S5 := lists_any A10 A11 n10 n11 c10 c11 _ _ _ _ lb lb vs10 vs11 w14 (X10.out _ B1114.out) (X11.out _ B1114.out) (by omega) Z14 (by unfold maxLen at hc10'; omega)
  rw [decide_eq_true rfl] at S5
  have S6 := hid S5
  clear S5
  go_wp2_with fail
  refine S6.out.mono ?_
  rintro e w15 ⟨rfl, hb15⟩
  have HB15 := hid (HB14.out.trans (hb15.mono HB14.out.size))
  clear S6 hb15
  obtain ⟨fx, hfx⟩ : ∃ fx, fx = fsize x := ⟨_, rfl⟩
  have Z1 := size_any x w15
  have Z2 := rsize_any x w15
  rw [← hfx] at Z1 Z2
  have Z1' := hid Z1
  have Z2' := hid Z2
  clear Z1 Z2 hfx
  go_wp2_with fail
  refine Z1'.out.mono ?_
  rintro e w16 ⟨rfl, rfl⟩
  go_wp2_with fail
  refine Z2'.out.mono ?_
  rintro e w17 ⟨rfl, rfl⟩
  go_wp2
  go_ret
  exact ⟨rfl, HB15.out⟩
end Go.Proofs.Ytdbbgcbdkafghaa
