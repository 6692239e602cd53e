/-
  The walk of VecCalls: of all vectors, bytes and dims what the program answers is what the document's answers are.
-/
import Derived.Test.YtcaleaecjoafhaaNames3
import Derived.Test.YtcaleaecjoafhaaSames
import Derived.Test.YtcaleaecjoafhaaRefs3
import Derived.Test.YtcaleaecjoafhaaRBytes3
import Derived.Test.YtcaleaecjoafhaaRRead3
namespace Go.Proofs.Ytcaleaecjoafhaa
open Go.RowKit

/-- A slice that reads as xs, anywhere in the memory that is there. -/
def Has (w : World) (A : Option Addr) (n : Nat) (xs : List Value) : Prop := Row w 0 w.heap.size A n xs
theorem Has.step {w w' : World} {A : Option Addr} {n : Nat} {xs : List Value} (h : Has w A n xs) (hb : Below w.heap.size w w') : Has w' A n xs := (Row.below h hb (Nat.le_refl _)).wide (Nat.le_refl _) hb.size
theorem Has.own {w : World} {base : Nat} {e : TypeId} {A : Option Addr} {n c : Nat} {xs : List Value} (h : w.ownsRow base e 1 (.slice A n c) n xs) : Has w A n xs := (Row.of_own h).wide (Nat.zero_le _) (Nat.le_refl _)
theorem Has.drewN {w : World} {A : Option Addr} {n : Nat} {xs : List Value} (h : Has w A n xs) (q : Nat) : Has (w.drewN q) A n xs := h
theorem own_le {w : World} {base : Nat} {e : TypeId} {A : Option Addr} {n c : Nat} {xs : List Value} (h : w.ownsRow base e 1 (.slice A n c) n xs) : n ≤ 9223372036854775807 := by
  rcases h.2 with ⟨_, rfl⟩ | ⟨g, cap, cur, _, _, _, h1, h2, _⟩
  · omega
  · unfold maxLen at h2
    omega
theorem step_to {w w1 w2 : World} (h : Below w.heap.size w w1) (h2 : Below w1.heap.size w1 w2) : Below w.heap.size w w2 := h.trans (h2.mono h.size)

set_option maxRecDepth 100000 in
set_option maxHeartbeats 6400000 in
theorem vecCalls_walk (V A B X : Option Addr) (k n m x cv ca cb cx : Nat) (v a b : List Int) (bs : List UInt8) (dim : Int) (w : World)
    (hV : Has w V k (IK .i16 v)) (hA : Has w A n (IK .i32 a)) (hB : Has w B m (IK .i32 b)) (hX : Has w X x (U bs)) (hv : ∀ y ∈ v, -32768 ≤ y ∧ y ≤ 32767)
    (hAc : A = none → ca = 0) (hXc : X = none → cx = 0) (hxc : x ≤ cx) (hk : k ≤ 9223372036854775807) (hn : n ≤ 9223372036854775807) (hm : m ≤ 9223372036854775807) (hx : x ≤ 9223372036854775807) :
    Calls Try.prog 4 #[.slice V k cv, .slice A n ca, .slice B m cb, .slice X x cx, .int .i64 dim] w fun e w' => e = .returned (.bool true) ∧ Below w.heap.size w w' := by
  have HV := hid hv
  have HAc := hid hAc
  have HXc := hid hXc
  clear hv hAc hXc
  go_enter Try.func4, Try.ntmps4
  go_wp2_with fail
  refine (lives_any w).mono ?_
  rintro e w1 ⟨rfl, cur⟩
  by_cases h1 : 1100 < k
  · go_wp2
    go_ret
    exact ⟨rfl, cur⟩
  by_cases h2 : 1100 < n
  · go_wp2
    go_ret
    exact ⟨rfl, cur⟩
  by_cases h3 : 1100 < m
  · go_wp2
    go_ret
    exact ⟨rfl, cur⟩
  by_cases h4 : 2200 < x
  · go_wp2
    go_ret
    exact ⟨rfl, cur⟩
  have hk' : k ≤ 1100 := by omega
  have hn' : n ≤ 1100 := by omega
  have hm' : m ≤ 1100 := by omega
  have hx' : x ≤ 2200 := by omega
  replace hV := hV.step cur
  replace hA := hA.step cur
  replace hB := hB.step cur
  replace hX := hX.step cur
  -- Dist
  go_wp2_with fail
  refine (dist_any A B n m ca cb _ _ _ _ a b w1 hA hB (Nat.le_refl _) (Nat.le_refl _) hn hm).mono ?_
  rintro e w2 ⟨rfl, st⟩
  replace hV := hV.step st
  replace hA := hA.step st
  replace hB := hB.step st
  replace hX := hX.step st
  replace cur := step_to cur st
  clear st
  go_wp2_with fail
  refine (rdist_any A B n m ca cb _ _ _ _ a b w2 hA hB hn hm).mono ?_
  rintro e w3 ⟨rfl, q, rfl⟩
  have cur3 : Below w.heap.size w (w2.drewN q) := below_drewN cur q
  have hV3 := hV.drewN q
  have hA3 := hA.drewN q
  have hB3 := hB.drewN q
  have hX3 := hX.drewN q
  generalize w2.drewN q = w3 at *
  clear cur hV hA hB hX
  -- Sub of a copy
  go_wp2_with fail
  refine (own32_any A n ca _ _ a w3 hA3 HAc.out (Nat.le_refl _) (by omega)).mono ?_
  rintro e w4 ⟨A4, n4, c4, rfl, l4, z4, own4, st⟩
  have hO := Has.own own4
  have le4 := own_le own4
  replace hV3 := hV3.step st
  replace hA3 := hA3.step st
  replace hB3 := hB3.step st
  replace hX3 := hX3.step st
  have cur4 := step_to cur3 st
  clear st own4 cur3
  go_wp2_with fail
  refine (sub_any A4 B n4 m c4 cb _ _ _ _ a b w4 hO hB3 (Nat.le_refl _) (Nat.le_refl _) le4 hm).mono ?_
  rintro e w5 ⟨A5, n5, c5, rfl, l5, z5, own5, st⟩
  have hS := Has.own own5
  have le5 := own_le own5
  replace hV3 := hV3.step st
  replace hA3 := hA3.step st
  replace hB3 := hB3.step st
  replace hX3 := hX3.step st
  have cur5 := step_to cur4 st
  clear st own5 cur4 hO
  go_wp2_with fail
  refine (rsub_any A B n m ca cb _ _ _ _ a b w5 hA3 hB3 (Nat.le_refl _) (Nat.le_refl _) hn hm).mono ?_
  rintro e w6 ⟨A6, n6, c6, rfl, l6, z6, own6, st⟩
  have hRS := Has.own own6
  replace hS := hS.step st
  replace hV3 := hV3.step st
  replace hA3 := hA3.step st
  replace hB3 := hB3.step st
  replace hX3 := hX3.step st
  have cur6 := step_to cur5 st
  clear st own6 cur5
  -- Add of a copy
  go_wp2_with fail
  refine (own32_any A n ca _ _ a w6 hA3 HAc.out (Nat.le_refl _) (by omega)).mono ?_
  rintro e w7 ⟨A7, n7, c7, rfl, l7, z7, own7, st⟩
  have hO := Has.own own7
  have le7 := own_le own7
  replace hS := hS.step st
  replace hRS := hRS.step st
  replace hV3 := hV3.step st
  replace hA3 := hA3.step st
  replace hB3 := hB3.step st
  replace hX3 := hX3.step st
  have cur7 := step_to cur6 st
  clear st own7 cur6
  go_wp2_with fail
  refine (add_any A7 B n7 m c7 cb _ _ _ _ a b w7 hO hB3 (Nat.le_refl _) (Nat.le_refl _) le7 hm).mono ?_
  rintro e w8 ⟨A8, n8, c8, rfl, l8, z8, own8, st⟩
  have hP := Has.own own8
  have le8 := own_le own8
  replace hS := hS.step st
  replace hRS := hRS.step st
  replace hV3 := hV3.step st
  replace hA3 := hA3.step st
  replace hB3 := hB3.step st
  replace hX3 := hX3.step st
  have cur8 := step_to cur7 st
  clear st own8 cur7 hO
  go_wp2_with fail
  refine (radd_any A B n m ca cb _ _ _ _ a b w8 hA3 hB3 (Nat.le_refl _) (Nat.le_refl _) hn hm).mono ?_
  rintro e w9 ⟨A9, n9, c9, rfl, l9, z9, own9, st⟩
  have hRP := Has.own own9
  replace hP := hP.step st
  replace hS := hS.step st
  replace hRS := hRS.step st
  replace hV3 := hV3.step st
  replace hA3 := hA3.step st
  replace hB3 := hB3.step st
  replace hX3 := hX3.step st
  have cur9 := step_to cur8 st
  clear st own9 cur8
  -- Read
  go_wp2_with fail
  refine (read_any X x cx _ _ bs w9 hX3 HXc.out (Nat.le_refl _) hx).mono ?_
  rintro e wa ⟨Aa, na, cca, rfl, la, za, owna, st⟩
  have hRd := Has.own owna
  have lea := own_le owna
  replace hRP := hRP.step st
  replace hP := hP.step st
  replace hS := hS.step st
  replace hRS := hRS.step st
  replace hV3 := hV3.step st
  replace hA3 := hA3.step st
  replace hB3 := hB3.step st
  replace hX3 := hX3.step st
  have cura := step_to cur9 st
  clear st owna cur9
  go_wp2_with fail
  refine (rread_any X x cx _ _ bs wa hX3 hxc (Nat.le_refl _)).mono ?_
  rintro e wb ⟨Ab, nb, ccb, rfl, lb, zb, ownb, st⟩
  have hRRd := Has.own ownb
  replace hRd := hRd.step st
  replace hRP := hRP.step st
  replace hP := hP.step st
  replace hS := hS.step st
  replace hRS := hRS.step st
  replace hV3 := hV3.step st
  replace hA3 := hA3.step st
  replace hB3 := hB3.step st
  have curb := step_to cura st
  clear st ownb cura hX3
  have e1 : (dd a b == dd a b) = true := by simp
  have e2 : (cp a b == cp a b) = true := by simp
  have e3 : (er (-1) a b == er (-1) a b) = true := by simp
  have e4 : (er 1 a b == er 1 a b) = true := by simp
  have e5 : (rdE bs == rdE bs) = true := by simp
  have e6 : (chk k dim == chk k dim) = true := by simp
  have e7 : (cw a == cw a) = true := by simp
  -- the comparisons
  go_wp2_with fail
  refine (check_any V k cv dim _).mono ?_
  rintro e w' ⟨rfl, rfl⟩
  go_wp2_with fail
  refine (rcheck_any V k cv dim _).mono ?_
  rintro e w' ⟨rfl, rfl⟩
  go_wp2_with fail
  refine (checkWide_any A n ca _ _ a _ hA3 hn).mono ?_
  rintro e w' ⟨rfl, rfl⟩
  go_wp2_with fail
  refine (rcheckWide_any A n ca _ _ a _ hA3 hn).mono ?_
  rintro e w' ⟨rfl, rfl⟩
  go_wp2_with fail
  refine (wide_any V k cv _ _ v _ hV3 HV.out (Nat.le_refl _) (by omega)).mono ?_
  rintro e wc ⟨Ac, nc, cc, rfl, lc, zc, ownc, st⟩
  have hW := Has.own ownc
  have lec := own_le ownc
  replace hRRd := hRRd.step st
  replace hRd := hRd.step st
  replace hRP := hRP.step st
  replace hP := hP.step st
  replace hS := hS.step st
  replace hRS := hRS.step st
  replace hV3 := hV3.step st
  replace hA3 := hA3.step st
  replace hB3 := hB3.step st
  have curc := step_to curb st
  clear st ownc curb
  go_wp2_with fail
  refine (rwide_any V k cv _ _ v _ hV3 HV.out (Nat.le_refl _) (by omega)).mono ?_
  rintro e wd' ⟨Ad, nd, cd, rfl, ld, zd, ownd, st⟩
  have hRW := Has.own ownd
  replace hRRd := hRRd.step st
  replace hRd := hRd.step st
  replace hRP := hRP.step st
  replace hP := hP.step st
  replace hS := hS.step st
  replace hRS := hRS.step st
  replace hV3 := hV3.step st
  replace hA3 := hA3.step st
  replace hB3 := hB3.step st
  replace hW := hW.step st
  have curd := step_to curc st
  clear st ownd curc
  go_wp2_with fail
  refine (same32 Ac Ad nc nd cc cd _ _ _ _ v v _ hW hRW lec).mono ?_
  rintro e w' ⟨rfl, q, rfl⟩
  rw [decide_eq_true (rfl : v = v)]
  replace hRRd := hRRd.drewN q
  replace hRd := hRd.drewN q
  replace hRP := hRP.drewN q
  replace hP := hP.drewN q
  replace hS := hS.drewN q
  replace hRS := hRS.drewN q
  replace hV3 := hV3.drewN q
  replace hA3 := hA3.drewN q
  replace hB3 := hB3.drewN q
  replace curd := below_drewN curd q
  generalize World.drewN _ q = we at *
  clear hW hRW
  go_wp2_with fail
  refine (same32 A5 A6 n5 n6 c5 c6 _ _ _ _ (mx (-1) a b) (mx (-1) a b) _ hS hRS le5).mono ?_
  rintro e w' ⟨rfl, q, rfl⟩
  rw [decide_eq_true (rfl : (mx (-1) a b) = (mx (-1) a b))]
  replace hRRd := hRRd.drewN q
  replace hRd := hRd.drewN q
  replace hRP := hRP.drewN q
  replace hP := hP.drewN q
  replace hS := hS.drewN q
  replace hRS := hRS.drewN q
  replace hV3 := hV3.drewN q
  replace hA3 := hA3.drewN q
  replace hB3 := hB3.drewN q
  replace curd := below_drewN curd q
  generalize World.drewN _ q = wf at *
  clear hS hRS
  go_wp2_with fail
  refine (same32 A8 A9 n8 n9 c8 c9 _ _ _ _ (mx 1 a b) (mx 1 a b) _ hP hRP le8).mono ?_
  rintro e w' ⟨rfl, q, rfl⟩
  rw [decide_eq_true (rfl : (mx 1 a b) = (mx 1 a b))]
  replace hRRd := hRRd.drewN q
  replace hRd := hRd.drewN q
  replace hRP := hRP.drewN q
  replace hP := hP.drewN q
  replace hV3 := hV3.drewN q
  replace hA3 := hA3.drewN q
  replace hB3 := hB3.drewN q
  replace curd := below_drewN curd q
  generalize World.drewN _ q = wg at *
  clear hP hRP
  go_wp2_with fail
  refine (same16 Aa Ab na nb cca ccb _ _ _ _ (rdV bs) (rdV bs) _ hRd hRRd lea).mono ?_
  rintro e w' ⟨rfl, q, rfl⟩
  rw [decide_eq_true (rfl : (rdV bs) = (rdV bs))]
  replace hRRd := hRRd.drewN q
  replace hRd := hRd.drewN q
  replace hV3 := hV3.drewN q
  replace hA3 := hA3.drewN q
  replace hB3 := hB3.drewN q
  replace curd := below_drewN curd q
  generalize World.drewN _ q = wh at *
  clear hRd hRRd
  go_wp2_with fail
  refine (bytes_any V k cv _ _ v _ hV3 (Nat.le_refl _) (by omega)).mono ?_
  rintro e wi ⟨Ai, ni, ci, rfl, li, zi, owni, st⟩
  have hY := Has.own owni
  have lei := own_le owni
  replace hV3 := hV3.step st
  replace hA3 := hA3.step st
  replace hB3 := hB3.step st
  have curi := step_to curd st
  clear st owni curd
  go_wp2_with fail
  refine (rbytes_any V k cv _ _ v _ hV3 (Nat.le_refl _) (by omega)).mono ?_
  rintro e wj ⟨Aj, nj, cj, rfl, lj, zj, ownj, st⟩
  have hRY := Has.own ownj
  replace hV3 := hV3.step st
  replace hA3 := hA3.step st
  replace hB3 := hB3.step st
  replace hY := hY.step st
  have curj := step_to curi st
  clear st ownj curi
  go_wp2_with fail
  refine (same_any Ai Aj ni nj ci cj _ _ _ _ (bts v) (bts v) _ hY hRY lei).mono ?_
  rintro e w' ⟨rfl, q, rfl⟩
  rw [decide_eq_true (rfl : (bts v) = (bts v))]
  replace hV3 := hV3.drewN q
  replace hA3 := hA3.drewN q
  replace hB3 := hB3.drewN q
  replace curj := below_drewN curj q
  generalize World.drewN _ q = wk at *
  clear hY hRY
  go_wp2_with fail
  refine (vsame_any A B n m ca cb _ _ _ _ a b _ hA3 hB3 (Nat.le_refl _) (Nat.le_refl _) hn).mono ?_
  rintro e wl ⟨rfl, st⟩
  replace hA3 := hA3.step st
  replace hB3 := hB3.step st
  have curl := step_to curj st
  clear st curj
  go_wp2_with fail
  refine (rsame_any A B n m ca cb _ _ _ _ a b _ hA3 hB3 hn).mono ?_
  rintro e w' ⟨rfl, q, rfl⟩
  replace hA3 := hA3.drewN q
  replace curl := below_drewN curl q
  generalize World.drewN _ q = wm at *
  have e8 : (decide (a = b) == decide (a = b)) = true := by simp
  generalize decide (a = b) = bb at *
  go_wp2_with fail
  refine (own32_any A n ca _ _ a _ hA3 HAc.out (Nat.le_refl _) (by omega)).mono ?_
  rintro e wn ⟨An, nn, cn, rfl, ln, zn, ownn, st⟩
  have hO := Has.own ownn
  replace hA3 := hA3.step st
  have curn := step_to curl st
  clear st ownn curl
  go_wp2_with fail
  refine (vsame_any A An n nn ca cn _ _ _ _ a a _ hA3 hO (Nat.le_refl _) (Nat.le_refl _) hn).mono ?_
  rintro e wo ⟨rfl, st⟩
  rw [decide_eq_true (rfl : a = a)]
  have curo := step_to curn st
  clear st curn
  go_wp2
  go_ret
  exact ⟨rfl, curo⟩
end Go.Proofs.Ytcaleaecjoafhaa
