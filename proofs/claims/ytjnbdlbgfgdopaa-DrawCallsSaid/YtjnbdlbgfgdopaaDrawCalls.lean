/-
  The walk of DrawCalls: the program's answers beside the document's own.
-/
import Derived.Test.YtjnbdlbgfgdopaaRDraw
namespace Go.Proofs.Ytjnbdlbgfgdopaa
set_option maxRecDepth 40000
set_option linter.unusedVariables false
open Go.RowKit

theorem pkI_len (l : List Int) (n k : Int) : (pkI l n k).1.length ≤ 4096 := by
  unfold pkI
  split
  · simp
  · rw [pks_len]; omega
set_option maxHeartbeats 1600000 in
theorem calls_walk (A B : Option Addr) (len cap blen bcap : Nat) (l b : List Int) (i n k : Int) (w : World) (h : Row w 0 w.heap.size A len (IK .u64 l)) (hwf : ∀ x ∈ l, 0 ≤ x ∧ x ≤ 18446744073709551615) (hi : (Lit.int .i64 i).wf = true)
    (h' : Row w 0 w.heap.size B blen (IK .i64 b)) (hwf' : ∀ x ∈ b, (Lit.int .i64 x).wf = true) :
    Calls Try.prog 4 #[.slice A len cap, .int .i64 i, .int .i64 n, .int .i64 k, .slice B blen bcap] w fun e w' => e = .returned (.bool true) ∧ Below w.heap.size w w' := by
  have W0 := hid (lives_any w)
  by_cases hl : 300 < len
  · clear h h' hwf hwf' hi
    go_enter Try.func4, Try.ntmps4
    go_wp2_with fail
    refine W0.out.mono ?_
    rintro e w0 ⟨rfl, hb0⟩
    go_wp2
    go_ret
    exact ⟨rfl, hb0⟩
  by_cases hl2 : 300 < blen
  · clear h h' hwf hwf' hi
    go_enter Try.func4, Try.ntmps4
    go_wp2_with fail
    refine W0.out.mono ?_
    rintro e w0 ⟨rfl, hb0⟩
    go_wp2
    go_ret
    exact ⟨rfl, hb0⟩
  by_cases hn : 5000 < n ∧ n ≤ 16777216
  · obtain ⟨n1, n2⟩ := hn
    clear h h' hwf hwf' hi
    go_enter Try.func4, Try.ntmps4
    go_wp2_with fail
    refine W0.out.mono ?_
    rintro e w0 ⟨rfl, hb0⟩
    go_wp2
    go_ret
    exact ⟨rfl, hb0⟩
  have hn' : n ≤ 5000 ∨ 16777216 < n := by omega
  have hib := wf_i64 hi
  have HN := hid hn'
  have HI := hid hib
  have ca := fun W (hW : Row W 0 w.heap.size A len (IK .u64 l)) (hs : w.heap.size ≤ W.heap.size) => picks_any A len cap 0 w.heap.size l n k W hW hs (by omega) hwf
  have cb := fun W (hW : Row W 0 w.heap.size A len (IK .u64 l)) (hs : w.heap.size ≤ W.heap.size) => rpicks_any A len cap 0 w.heap.size l n k W hW hs (by omega) hwf hn'
  have cc := fun W (hW : Row W 0 w.heap.size A len (IK .u64 l)) (hs : w.heap.size ≤ W.heap.size) => order_any A len cap 0 w.heap.size l n W hW hs (by omega) hwf
  have cd := fun W (hW : Row W 0 w.heap.size A len (IK .u64 l)) (hs : w.heap.size ≤ W.heap.size) => rorder_any A len cap 0 w.heap.size l n W hW hs (by omega) hwf
  have CA := hid ca
  have CB := hid cb
  have CC := hid cc
  have CD := hid cd
  have H := hid h
  have H' := hid h'
  have HW' := hid hwf'
  obtain ⟨r1, hr1⟩ : ∃ r, r = pkI l n k := ⟨_, rfl⟩
  obtain ⟨r2, hr2⟩ : ∃ r, r = pkI l n n := ⟨_, rfl⟩
  have HLR1 : Hid (r1.1.length ≤ 4096) := by rw [hr1]; exact pkI_len l n k
  have HLR2 : Hid (r2.1.length ≤ 4096) := by rw [hr2]; exact pkI_len l n n
  rw [← hr1] at CA CB
  rw [← hr2] at CC CD
  clear h h' hwf hwf' hi hib ca cb cc cd hr1 hr2
  by_cases h5 : 5000 < n
  · have h6 : 16777216 < n := by have := HN.out; omega
    clear hn hn'
    go_enter Try.func4, Try.ntmps4
    go_wp2_with fail
    refine W0.out.mono ?_
    rintro e w0 ⟨rfl, hb0⟩
    have HB0 := hid hb0
    clear hb0
    go_wp2_with fail
    refine (CA.out _ (H.out.below HB0.out (Nat.le_refl _)) HB0.out.size).mono ?_
    rintro e w1 ⟨A1, n1, c1, er1, rfl, l1, e1, _, _, R1, b1⟩
    have HB1 := hid (HB0.out.trans (b1.mono HB0.out.size))
    have HR1 := hid R1
    have HE1 := hid e1.out
    clear R1 b1 e1
    go_wp2_with fail
    refine (CB.out _ (H.out.below HB1.out (Nat.le_refl _)) HB1.out.size).mono ?_
    rintro e w2 ⟨A2, n2, c2, er2, rfl, l2, e2, _, _, R2, b2⟩
    have HB2 := hid (HB1.out.trans (b2.mono HB1.out.size))
    have HR12 := hid (HR1.out.below b2 (Nat.le_refl _))
    have HR2 := hid R2
    have hs12 := b2.size
    obtain rfl : er1 = er2 := HE1.out.symm.trans e2.out
    clear R2 b2 e2
    go_wp2_with fail
    refine (CC.out _ (H.out.below HB2.out (Nat.le_refl _)) HB2.out.size).mono ?_
    rintro e w3 ⟨A3, n3, c3, er3, rfl, l3, e3, _, _, R3, b3⟩
    have HB3 := hid (HB2.out.trans (b3.mono HB2.out.size))
    have HR13 := hid (HR12.out.below b3 hs12)
    have HR23 := hid (HR2.out.below b3 (Nat.le_refl _))
    have HR3 := hid R3
    have HE3 := hid e3.out
    have hs23 := b3.size
    clear R3 b3 e3
    go_wp2_with fail
    refine (CD.out _ (H.out.below HB3.out (Nat.le_refl _)) HB3.out.size).mono ?_
    rintro e w4 ⟨A4, n4, c4, er4, rfl, l4, e4, _, _, R4, b4⟩
    have HB4 := hid (HB3.out.trans (b4.mono HB3.out.size))
    have HR14 := hid (HR13.out.below b4 (Nat.le_trans hs12 hs23))
    have HR24 := hid (HR23.out.below b4 hs23)
    have HR34 := hid (HR3.out.below b4 (Nat.le_refl _))
    have HR4 := hid R4
    obtain rfl : er3 = er4 := HE3.out.symm.trans e4.out
    clear R4 b4 e4
    go_wp2_with fail
    refine (draw_any A len cap 0 w.heap.size l i w4 (H.out.below HB4.out (Nat.le_refl _)) (by omega) HI.out).mono ?_
    rintro e w5 ⟨rfl, rfl⟩
    go_wp2_with fail
    refine (rdraw_any A len cap 0 w.heap.size l i w5 (H.out.below HB4.out (Nat.le_refl _)) (by omega) HI.out).mono ?_
    rintro e w6 ⟨rfl, rfl⟩
    generalize drI l i = x at *
    have g1 : (x == x) = true := by simp
    have g2 : (er1 == er1) = true := by simp
    have g3 : (er3 == er3) = true := by simp
    have q1 : r1.1.length = n1 := l1.out
    have q2 : r1.1.length = n2 := l2.out
    have q3 : r2.1.length = n3 := l3.out
    have q4 : r2.1.length = n4 := l4.out
    have hlen : n1 ≤ 9223372036854775807 ∧ n3 ≤ 9223372036854775807 := ⟨by rw [← q1]; have := HLR1.out; omega, by rw [← q3]; have := HLR2.out; omega⟩
    have cs1 := sameI A1 A2 n1 n2 c1 c2 _ _ _ _ r1.1 r1.1 _ HR14.out HR24.out hlen.1
    have cs2 := fun q => sameI A3 A4 n3 n4 c3 c4 _ _ _ _ r2.1 r2.1 _ (HR34.out.drewN q) (HR4.out.drewN q) hlen.2
    rw [decide_eq_true rfl] at cs1 cs2
    have CS2 := hid cs2
    clear cs2 q1 q2 q3 q4 hlen l1 l2 l3 l4
    go_wp2_with fail
    refine cs1.mono ?_
    rintro e w7 ⟨rfl, q, rfl⟩
    go_wp2_with fail
    refine (CS2.out q).mono ?_
    rintro e w8 ⟨rfl, q2, hw8⟩
    have HB8 : Hid (Below w.heap.size w w8) := by rw [hw8]; exact below_drewN (below_drewN HB4.out q) q2
    clear hw8
    go_wp2_with fail
    refine (distinct_any B blen bcap 0 w.heap.size b w8 (H'.out.below HB8.out (Nat.le_refl _)) (by omega)).mono ?_
    rintro e w9 ⟨rfl, b9⟩
    have HB9 := hid (HB8.out.trans (b9.mono HB8.out.size))
    clear b9
    go_wp2_with fail
    refine (rdistinct_any B blen bcap b w9 ((H'.out.below HB9.out (Nat.le_refl _)).wide (Nat.le_refl _) HB9.out.size) (by omega) HW'.out).mono ?_
    rintro e w10 ⟨rfl, b10⟩
    have HB10 := hid (HB9.out.trans (b10.mono HB9.out.size))
    clear b10
    generalize decide b.Nodup = z at *
    have g4 : (z == z) = true := by cases z <;> rfl
    go_wp2
    go_ret
    exact ⟨rfl, HB10.out⟩
  · clear hn hn'
    go_enter Try.func4, Try.ntmps4
    go_wp2_with fail
    refine W0.out.mono ?_
    rintro e w0 ⟨rfl, hb0⟩
    have HB0 := hid hb0
    clear hb0
    go_wp2_with fail
    refine (CA.out _ (H.out.below HB0.out (Nat.le_refl _)) HB0.out.size).mono ?_
    rintro e w1 ⟨A1, n1, c1, er1, rfl, l1, e1, _, _, R1, b1⟩
    have HB1 := hid (HB0.out.trans (b1.mono HB0.out.size))
    have HR1 := hid R1
    have HE1 := hid e1.out
    clear R1 b1 e1
    go_wp2_with fail
    refine (CB.out _ (H.out.below HB1.out (Nat.le_refl _)) HB1.out.size).mono ?_
    rintro e w2 ⟨A2, n2, c2, er2, rfl, l2, e2, _, _, R2, b2⟩
    have HB2 := hid (HB1.out.trans (b2.mono HB1.out.size))
    have HR12 := hid (HR1.out.below b2 (Nat.le_refl _))
    have HR2 := hid R2
    have hs12 := b2.size
    obtain rfl : er1 = er2 := HE1.out.symm.trans e2.out
    clear R2 b2 e2
    go_wp2_with fail
    refine (CC.out _ (H.out.below HB2.out (Nat.le_refl _)) HB2.out.size).mono ?_
    rintro e w3 ⟨A3, n3, c3, er3, rfl, l3, e3, _, _, R3, b3⟩
    have HB3 := hid (HB2.out.trans (b3.mono HB2.out.size))
    have HR13 := hid (HR12.out.below b3 hs12)
    have HR23 := hid (HR2.out.below b3 (Nat.le_refl _))
    have HR3 := hid R3
    have HE3 := hid e3.out
    have hs23 := b3.size
    clear R3 b3 e3
    go_wp2_with fail
    refine (CD.out _ (H.out.below HB3.out (Nat.le_refl _)) HB3.out.size).mono ?_
    rintro e w4 ⟨A4, n4, c4, er4, rfl, l4, e4, _, _, R4, b4⟩
    have HB4 := hid (HB3.out.trans (b4.mono HB3.out.size))
    have HR14 := hid (HR13.out.below b4 (Nat.le_trans hs12 hs23))
    have HR24 := hid (HR23.out.below b4 hs23)
    have HR34 := hid (HR3.out.below b4 (Nat.le_refl _))
    have HR4 := hid R4
    obtain rfl : er3 = er4 := HE3.out.symm.trans e4.out
    clear R4 b4 e4
    go_wp2_with fail
    refine (draw_any A len cap 0 w.heap.size l i w4 (H.out.below HB4.out (Nat.le_refl _)) (by omega) HI.out).mono ?_
    rintro e w5 ⟨rfl, rfl⟩
    go_wp2_with fail
    refine (rdraw_any A len cap 0 w.heap.size l i w5 (H.out.below HB4.out (Nat.le_refl _)) (by omega) HI.out).mono ?_
    rintro e w6 ⟨rfl, rfl⟩
    generalize drI l i = x at *
    have g1 : (x == x) = true := by simp
    have g2 : (er1 == er1) = true := by simp
    have g3 : (er3 == er3) = true := by simp
    have q1 : r1.1.length = n1 := l1.out
    have q2 : r1.1.length = n2 := l2.out
    have q3 : r2.1.length = n3 := l3.out
    have q4 : r2.1.length = n4 := l4.out
    have hlen : n1 ≤ 9223372036854775807 ∧ n3 ≤ 9223372036854775807 := ⟨by rw [← q1]; have := HLR1.out; omega, by rw [← q3]; have := HLR2.out; omega⟩
    have cs1 := sameI A1 A2 n1 n2 c1 c2 _ _ _ _ r1.1 r1.1 _ HR14.out HR24.out hlen.1
    have cs2 := fun q => sameI A3 A4 n3 n4 c3 c4 _ _ _ _ r2.1 r2.1 _ (HR34.out.drewN q) (HR4.out.drewN q) hlen.2
    rw [decide_eq_true rfl] at cs1 cs2
    have CS2 := hid cs2
    clear cs2 q1 q2 q3 q4 hlen l1 l2 l3 l4
    go_wp2_with fail
    refine cs1.mono ?_
    rintro e w7 ⟨rfl, q, rfl⟩
    go_wp2_with fail
    refine (CS2.out q).mono ?_
    rintro e w8 ⟨rfl, q2, hw8⟩
    have HB8 : Hid (Below w.heap.size w w8) := by rw [hw8]; exact below_drewN (below_drewN HB4.out q) q2
    clear hw8
    go_wp2_with fail
    refine (distinct_any B blen bcap 0 w.heap.size b w8 (H'.out.below HB8.out (Nat.le_refl _)) (by omega)).mono ?_
    rintro e w9 ⟨rfl, b9⟩
    have HB9 := hid (HB8.out.trans (b9.mono HB8.out.size))
    clear b9
    go_wp2_with fail
    refine (rdistinct_any B blen bcap b w9 ((H'.out.below HB9.out (Nat.le_refl _)).wide (Nat.le_refl _) HB9.out.size) (by omega) HW'.out).mono ?_
    rintro e w10 ⟨rfl, b10⟩
    have HB10 := hid (HB9.out.trans (b10.mono HB9.out.size))
    clear b10
    generalize decide b.Nodup = z at *
    have g4 : (z == z) = true := by cases z <;> rfl
    go_wp2
    go_ret
    exact ⟨rfl, HB10.out⟩
end Go.Proofs.Ytjnbdlbgfgdopaa
