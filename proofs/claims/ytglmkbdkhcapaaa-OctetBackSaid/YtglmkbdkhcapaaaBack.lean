/-
  The walk of the law OctetBack: for all numbers and sizes it answers true, and changes nothing that was there.
-/
import Derived.Test.YtglmkbdkhcapaaaLives
import Derived.Test.YtglmkbdkhcapaaaReader
import Derived.StillTailTactics
namespace Go.Proofs.Ytglmkbdkhcapaaa
open Go.RowKit

/-- The bytes that number k of the row is put as. -/
def pk (ls zs : List Int) (k : Nat) : List UInt8 := putB (IntKind.u64.wrap (ls.getD k 0)) (1 + (zs.getD k 0 % 8).toNat)
/-- The bytes of the first k numbers. -/
def bk (ls zs : List Int) : Nat → List UInt8
  | 0 => []
  | k + 1 => bk ls zs k ++ pk ls zs k
/-- The bytes of m numbers from number k on. -/
def tl (ls zs : List Int) : Nat → Nat → List UInt8
  | _, 0 => []
  | k, m + 1 => pk ls zs k ++ tl ls zs (k + 1) m
theorem bk_tl (ls zs : List Int) (m : Nat) : ∀ k, bk ls zs k ++ tl ls zs k m = bk ls zs (k + m) := by
  induction m with
  | zero => intro k; simp [tl]
  | succ m ih =>
    intro k
    have := ih (k + 1)
    rw [show k + (m + 1) = k + 1 + m by omega, ← this]
    simp [tl, bk]
theorem pk_len (ls zs : List Int) (k : Nat) : (pk ls zs k).length = 1 + (zs.getD k 0 % 8).toNat := putB_len _ _
theorem bk_len (ls zs : List Int) (k : Nat) : (bk ls zs k).length ≤ 8 * k := by
  induction k with
  | zero => simp [bk]
  | succ k ih => simp only [bk, List.length_append, pk_len]; omega

theorem u64_lo (x : Int) : 0 ≤ IntKind.u64.wrap x ∧ IntKind.u64.wrap x ≤ 18446744073709551615 := by rw [IntKind.wrap_u64]; omega
theorem tk_pk {a b : List UInt8} {n : Nat} (hn : a.length = n) (h8 : n ≤ 8) : tk (a ++ b) 0 n 8 = (a, b, 0) := by
  have hw : why n 8 (a ++ b).length = 0 := by unfold why; rw [if_neg (by omega), if_neg (by rw [List.length_append]; omega)]
  unfold tk
  rw [if_neg (by simp), if_pos hw, Int.toNat_natCast, List.take_left' hn, List.drop_left' hn]
theorem pk_at {ls zs : List Int} {k : Nat} {x z : Int} (h1 : k < ls.length) (h2 : k < zs.length) (hx : ls[k] = x) (hz : zs[k] = z) : pk ls zs k = putB (IntKind.u64.wrap x) (clampN (1 + z % 8)) := by
  have e1 : ls.getD k 0 = x := by rw [← hx]; simp [h1]
  have e2 : zs.getD k 0 = z := by rw [← hz]; simp [h2]
  have e3 : clampN (1 + z % 8) = 1 + (z % 8).toNat := by unfold clampN; omega
  unfold pk
  rw [e1, e2, e3]

/-- A region whose last operations alone make memory, walked in the text's order. -/
theorem region_tail {P : Program} {id : Nat} {Q : Exit → Act → World → Prop} {a : Act} {w : World} {l : List Oper} (n : Nat) (hm : P.follows .mixedOrders = true) (hB : Region.lexTailB .any l.toArray n = true)
    (h : ∀ wd, wd = w.drew → wpStill P l.toArray wd (fun a' => wpList P l.toArray Q (l.drop n) a' wd) (l.take n) a) : (Code.region id l.toArray true).wp P Q a w :=
  wp_region_still_tail n hm hB (h _ rfl)

set_option maxRecDepth 100000 in
set_option maxHeartbeats 1600000 in
theorem octetBack_walk (a a' : Option Addr) (len cap len' cap' : Nat) (ls zs : List Int) (w : World) (hR : Row w 0 w.heap.size a len (I ls)) (hR' : Row w 0 w.heap.size a' len' (I zs))
    (hw1 : ∀ n ∈ ls, (Lit.int .i64 n).wf = true) (hw2 : ∀ n ∈ zs, (Lit.int .i64 n).wf = true) (hm : len ≤ 9223372036854775807) (hm' : len' ≤ 9223372036854775807) :
    Calls Try.prog 7 #[.slice a len cap, .slice a' len' cap'] w fun e w' => e = .returned (.bool true) ∧ Below w.heap.size w w' := by
  have HW1 := hid hw1
  have HW2 := hid hw2
  clear hw1 hw2
  have HL : Hid (ls.length = len) := by have := hR.len; rwa [I_len] at this
  have HL' : Hid (zs.length = len') := by have := hR'.len; rwa [I_len] at this
  go_enter Try.func7, Try.ntmps7
  go_wp2_with fail
  refine (lives_any w).mono ?_
  rintro e w1 ⟨rfl, hb1⟩
  have hzz1 := hb1.size
  by_cases hlen : 60 < len
  · go_wp2
    go_ret
    exact ⟨rfl, hb1⟩
  by_cases hlen2 : 60 < len'
  · go_wp2
    go_ret
    exact ⟨rfl, hb1⟩
  have hle : len ≤ 60 := by omega
  have hle' : len' ≤ 60 := by omega
  clear hlen hlen2
  go_wp2
  go_loopw [5, 6] (fun b i wr => ∃ k A n c, k ≤ len ∧ k ≤ len' ∧ i = .int .i64 (k : Nat) ∧ b = .slice A n c ∧ Hid (A = none → c = 0) ∧ n ≤ 8 * k ∧ Row wr w.heap.size wr.heap.size A n (U (bk ls zs k)) ∧ Below w.heap.size w wr) (fun _ i _ => len - (intOf i).toNat)
  case atStart => exact ⟨0, none, 0, 0, Nat.zero_le _, Nat.zero_le _, rfl, rfl, fun _ => rfl, by omega, Row.empty, hb1⟩
  case round =>
    obtain ⟨k, A, n, c, hk, hk', rfl, rfl, hA, hn, hr, hb⟩ := hrel
    by_cases hlt : k < len ∧ k < len'
    · obtain ⟨hlt, hlt'⟩ := hlt
      have hz := hb.size
      have hk1 : k < ls.length := by rw [HL.out]; exact hlt
      have hk2 : k < zs.length := by rw [HL'.out]; exact hlt'
      obtain ⟨b, off, u, rfl, _, _, hu, hc⟩ := (hR.below hb (Nat.le_refl _)).at_ hlt
      obtain ⟨b', off', u', rfl, _, _, hu', hc'⟩ := (hR'.below hb (Nat.le_refl _)).at_ hlt'
      rw [I_get ls k hk1] at hu
      rw [I_get zs k hk2] at hu'
      injection hu with hu
      injection hu' with hu'
      subst hu
      subst hu'
      obtain ⟨x, HX⟩ : ∃ x, Hid (ls[k] = x) := ⟨_, hid rfl⟩
      obtain ⟨z, HZ⟩ : ∃ z, Hid (zs[k] = z) := ⟨_, hid rfl⟩
      rw [HX.out] at hc
      rw [HZ.out] at hc'
      go_wp2
      refine region_tail 12 (by kernel_rfl) (by kernel_rfl) ?_
      intro wd hwd
      have hc2 : wd.cell? ⟨b, off + k, none⟩ = some (.int .i64 x) := by rw [hwd]; exact hc
      have hc2' : wd.cell? ⟨b', off' + k, none⟩ = some (.int .i64 z) := by rw [hwd]; exact hc'
      have hr2 : Row wd w.heap.size wd.heap.size A n (U (bk ls zs k)) := by rw [hwd]; exact hr
      have hb2 : Below w.heap.size w wd := by rw [hwd]; exact hb.drew
      clear hwd hc hc' hr hb
      simp only [List.take_succ_cons, List.take_zero, List.drop_succ_cons, List.drop_zero]
      have HK : Hid (bk ls zs (k + 1) = bk ls zs k ++ putB (IntKind.u64.wrap x) (clampN (1 + z % 8))) := by
        have := pk_at hk1 hk2 HX.out HZ.out
        show bk ls zs k ++ pk ls zs k = _
        rw [this]
      repeat still_step
      still_call (pick_still _ _ _ (by omega) (by omega))
      repeat still_step
      refine wpStill_nil ?_
      go_wp2_with fail
      refine (put_any A n c w.heap.size wd.heap.size (bk ls zs k) _ _ _ hr2 hA.out (Nat.le_refl _) (by omega) (u64_lo x).1).mono ?_
      rw [← HK.out]
      rintro e w3 ⟨A3, n3, c3, rfl, hl3, hA3, hown3, hb3⟩
      have hz2 := hb2.size
      have hr3 : Row w3 w.heap.size w3.heap.size A3 n3 (U (bk ls zs (k + 1))) := (Row.of_own hown3).wide hz2 (Nat.le_refl _)
      have hb13 : Below w.heap.size w w3 := hb2.trans (hb3.mono hz2)
      have hn3 : n3 ≤ 8 * (k + 1) := by rw [← hl3.out]; exact bk_len ls zs (k + 1)
      clear hown3 hb3 hr2 hb2 hc2 hc2'
      go_wp2
      go_roundw
      case rel => exact ⟨k + 1, A3, n3, c3, by omega, by omega, by go_num, rfl, hA3, hn3, hr3, hb13⟩
      case measure => simp [intOf]; omega
    · have hz := hb.size
      have hn' : n ≤ 500 := by omega
      by_cases hkl : k < len
      all_goals
        go_wp2_with fail
        refine (new_any A n c w.heap.size wr.heap.size (bk ls zs k) _ hr hA.out (Nat.le_refl _) (by omega)).mono ?_
        rintro e w2 ⟨g, rfl, hg, hgl, hrd, hb2⟩
        have hb02 : Below w.heap.size w w2 := hb.trans (hb2.mono hz)
        have hz2 := hb02.size
        have hz12 := hb2.size
        go_wp2_with fail
        refine (new_any A n c w.heap.size wr.heap.size (bk ls zs k) _ (hr.below hb2 (Nat.le_refl _)) hA.out hz12 (by omega)).mono ?_
        rintro e w3 ⟨g3, rfl, hg3, hgl3, hrd3, hb3⟩
        have hb03 : Below w.heap.size w w3 := hb02.trans (hb3.mono hz2)
        have hrd2 := hrd.below hb3 hgl
        have e0 : bk ls zs k = tl ls zs 0 k := by have := bk_tl ls zs k 0; rw [Nat.zero_add] at this; rw [← this]; rfl
        rw [e0] at hrd2 hrd3
        clear hr hb hrd hb2 hb02 hb3 e0
        have HG : Hid (w.heap.size ≤ g ∧ g < w2.heap.size ∧ w2.heap.size ≤ g3) := ⟨by omega, hgl, hg3⟩
        go_wp2
        go_loopw [9] (fun i wx => ∃ j m, j + m = k ∧ i = .int .i64 (j : Nat) ∧ Rd wx wr.heap.size g (tl ls zs j m) 0 ∧ Rd wx w2.heap.size g3 (tl ls zs j m) 0 ∧ Below w.heap.size w wx) (fun i _ => k - (intOf i).toNat)
        case atStart => exact ⟨0, k, by omega, rfl, hrd2, hrd3, hb03⟩
        case round =>
          obtain ⟨j, m, hjm, rfl, hr1, hr2, hb⟩ := hrel
          have hzx := hb.size
          clear hrd2 hrd3 hb03
          cases m with
          | zero =>
            have hjk : j = k := by omega
            have hx : ¬ (j < len ∧ j < len') := by rw [hjk]; exact hlt
            clear hjm
            obtain rfl := hjk
            go_wp2_with fail
            refine (end_rd _ _ _ _ _ 0 (by rfl) hr1).mono ?_
            rintro e w4 ⟨rfl, rfl⟩
            go_wp2_with fail
            refine (end_rd _ _ _ _ _ 0 (by rfl) hr2).mono ?_
            rintro e w4 ⟨rfl, rfl⟩
            go_wp2
            go_ret
            exact ⟨rfl, hb⟩
          | succ m =>
            have hlt1 : j < len := by omega
            have hlt2 : j < len' := by omega
            have hk1 : j < ls.length := by rw [HL.out]; exact hlt1
            have hk2 : j < zs.length := by rw [HL'.out]; exact hlt2
            obtain ⟨b, off, u, rfl, _, _, hu, hc⟩ := (hR.below hb (Nat.le_refl _)).at_ hlt1
            obtain ⟨b', off', u', rfl, _, _, hu', hc'⟩ := (hR'.below hb (Nat.le_refl _)).at_ hlt2
            rw [I_get ls j hk1] at hu
            rw [I_get zs j hk2] at hu'
            injection hu with hu
            injection hu' with hu'
            subst hu
            subst hu'
            obtain ⟨x, HX⟩ : ∃ x, Hid (ls[j] = x) := ⟨_, hid rfl⟩
            obtain ⟨z, HZ⟩ : ∃ z, Hid (zs[j] = z) := ⟨_, hid rfl⟩
            rw [HX.out] at hc
            rw [HZ.out] at hc'
            have HJ := hid hjm
            have hj1 : j + 1 ≤ k := by omega
            clear hjm
            obtain ⟨N, HN, hN1, hN8⟩ : ∃ N : Nat, Hid (1 + z % 8 = (N : Int)) ∧ 1 ≤ N ∧ N ≤ 8 := ⟨(1 + z % 8).toNat, hid (by omega), by omega, by omega⟩
            go_wp2_with fail
            refine (pick_at _ _ ((N : Int) - 1) _ (by omega) (by omega) (by have := HN.out; omega)).mono ?_
            rintro e w4 ⟨rfl, rfl⟩
            go_wp2_with fail
            rw [show (1 + ((N : Int) - 1)) = (N : Int) from by omega]
            obtain ⟨X, HXX⟩ : ∃ X : Int, Hid ((num (pk ls zs j) : Int) = X) := ⟨_, hid rfl⟩
            obtain ⟨Y, HY⟩ : ∃ Y : Int, Hid (sgn (num (pk ls zs j)) N = Y) := ⟨_, hid rfl⟩
            have HP := pk_at hk1 hk2 HX.out HZ.out
            have HPL : Hid ((pk ls zs j).length = N) := hid (by rw [HP, putB_len, HN.out]; exact clampN_nat N hN8)
            have HPX : Hid (X = IntKind.u64.wrap x % 256 ^ N) := hid (by
              rw [← HXX.out, HP, num_putB, HN.out, clampN_nat N hN8]
              have := (u64_lo x).1
              rw [Int.natCast_emod, Int.toNat_of_nonneg this]
              simp)
            have HPY : Hid (Y = sgn X N) := hid (by rw [← HY.out, ← HXX.out])
            have HWX := hid (wf_i64 (HW1.out x (by rw [← HX.out]; exact List.getElem_mem _)))
            clear HP
            obtain ⟨hg1, hg2, hg3'⟩ := HG.out
            refine (number_at _ _ _ _ _ _ (pk ls zs j) (tl ls zs (j + 1) m) 0 X (tk_pk HPL.out hN8) HXX.out hr1).mono ?_
            rintro e w5 ⟨rfl, hr1', hgr, _⟩
            have hr2' := hr2.grown hgr (by omega) (by omega)
            have hb5 : Below w.heap.size w w5 := hb.grown hgr hzx (by intro q hq; injection hq with hq; omega)
            have hz5 := hb5.size
            have hc5 : w5.cell? ⟨b, off + j, none⟩ = some (.int .i64 x) := by rw [← hc]; exact World.cell?_of_block (hgr.block b (by omega) (by intro hq; injection hq with hq; omega))
            clear hgr hr1 hr2 hb hc hc'
            go_wp2_with fail
            refine (signed_at _ _ _ _ _ _ (pk ls zs j) (tl ls zs (j + 1) m) 0 Y (tk_pk HPL.out hN8) HY.out hr2').mono ?_
            rintro e w6 ⟨rfl, hr2'', hgr, _⟩
            have hr1'' := hr1'.grown hgr (by omega) (by omega)
            have hb6 : Below w.heap.size w w6 := hb5.grown hgr hz5 (by intro q hq; injection hq with hq; omega)
            have hc6 : w6.cell? ⟨b, off + j, none⟩ = some (.int .i64 x) := by rw [← hc5]; exact World.cell?_of_block (hgr.block b (by omega) (by intro hq; injection hq with hq; omega))
            clear hgr hr1' hr2' hb5 hc5
            have hu0 := u64_lo x
            have hv0 := u64_lo Y
            obtain ⟨u, HU⟩ : ∃ u, Hid (IntKind.u64.wrap x = u) := ⟨_, hid rfl⟩
            obtain ⟨v, HV⟩ : ∃ v, Hid (IntKind.u64.wrap Y = v) := ⟨_, hid rfl⟩
            rw [HU.out] at hu0
            rw [HV.out] at hv0
            have hu := HU.out
            have hv := HV.out
            by_cases h8 : N = 8
            · subst h8
              obtain ⟨e1, e2⟩ := back_top HWX.out.1 HWX.out.2 HU.out.symm (by rw [← HU.out]; exact HPX.out) HPY.out
              have q1 : (X != u) = false := by rw [e1]; simp
              have q2 : (Y != x) = false := by rw [e2]; simp
              clear e1 e2 hv
              go_wp2
              go_roundw
              case rel => exact ⟨j + 1, m, by have := HJ.out; omega, by go_num, hr1'', hr2'', hb6⟩
              case measure => simp [intOf]; omega
            · have hN7 : N < 8 := by omega
              have hb8 : ((N : Int) == 8) = false := by simp; omega
              obtain ⟨s1, s2, s3⟩ := back_size hN1 hN7
              obtain ⟨q1, q2, q3, q4, q5⟩ := back_mid hN1 hN7 (u := u) (by rw [← HU.out]; exact HPX.out) HPY.out
              have q0 := HPX.out
              rw [HU.out] at q0
              rw [HV.out] at q3
              generalize (256 : Int) ^ N = S at *
              have p1 : (X != u % S) = false := by rw [q0]; simp
              have p2 : (v % S != X) = false := by rw [q3]; simp
              clear q0 q3 HPX h8
              go_wp2
              go_roundw
              case rel => exact ⟨j + 1, m, by have := HJ.out; omega, by go_num, hr1'', hr2'', hb6⟩
              case measure => simp [intOf]; omega
end Go.Proofs.Ytglmkbdkhcapaaa
