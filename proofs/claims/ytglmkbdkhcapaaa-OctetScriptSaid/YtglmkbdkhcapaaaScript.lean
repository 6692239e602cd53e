/-
  The walk of the law OctetScript: for all bytes and calls it answers true, and changes nothing that was there.
-/
import Derived.Test.YtglmkbdkhcapaaaLives
import Derived.Test.YtglmkbdkhcapaaaRefs
namespace Go.Proofs.Ytglmkbdkhcapaaa
open Go.RowKit

/-- A slice of calls: each is two cells, its kind and its count. -/
def Acts (w : World) (up : Nat) (a : Option Addr) (n : Nat) (l : List (Int × Int)) : Prop :=
  l.length = n ∧ (0 < n → ∃ b off, a = some ⟨b, off, none⟩ ∧ b < up ∧ ∀ j x, l[j]? = some x → w.cell? ⟨b, off + j * 2, none⟩ = some (.int .i64 x.1) ∧ w.cell? ⟨b, off + j * 2 + 1, none⟩ = some (.int .i64 x.2))
theorem Acts.below {w w' : World} {up B : Nat} {a : Option Addr} {n : Nat} {l : List (Int × Int)} (h : Acts w up a n l) (hb : Below B w w') (hB : up ≤ B) : Acts w' up a n l :=
  ⟨h.1, fun hn => by
    obtain ⟨b, off, e, hu, hc⟩ := h.2 hn
    refine ⟨b, off, e, hu, fun j x hx => ⟨(hb.cell ?_).trans (hc j x hx).1, (hb.cell ?_).trans (hc j x hx).2⟩⟩ <;> (show b < B; omega)⟩

/-- Calls that came in, as a list. -/
theorem acts_of {w : World} {x : Addr} {len : Nat} {V0 V1 : Nat → Value} (h : ∀ i, i < len → w.cell? (x.add (i * 2)) = some (V0 i) ∧ w.cell? (x.add (i * 2 + 1)) = some (V1 i) ∧ (∃ n, V0 i = .int .i64 n) ∧ ∃ n, V1 i = .int .i64 n ∧ (Lit.int .i64 n).wf = true) :
    ∃ acts, Acts w w.heap.size (some x) len acts ∧ ∀ p ∈ acts, (Lit.int .i64 p.2).wf = true := by
  refine ⟨(List.range len).map fun i => (intOf (V0 i), intOf (V1 i)), ⟨by simp, fun hn => ?_⟩, fun p hp => ?_⟩
  · obtain ⟨h0, _⟩ := h 0 hn
    obtain ⟨b, off, spot⟩ := x
    have hs : spot = none := by simpa [Addr.add] using World.cell?_spot h0
    subst hs
    refine ⟨b, off, rfl, ?_, fun j y hy => ?_⟩
    · have := World.block_lt_of_cell? w _ h0
      rwa [addr_add] at this
    · have hj : j < len := by
        have := (List.getElem?_eq_some_iff.1 hy).1
        simpa using this
      obtain ⟨e1, e2, ⟨n0, f0⟩, n1, f1, _⟩ := h j hj
      rw [addr_add] at e1 e2
      simp [hj] at hy
      subst hy
      rw [e1, Nat.add_assoc, e2, f0, f1]
      simp [intOf]
  · simp only [List.mem_map, List.mem_range] at hp
    obtain ⟨i, hi, rfl⟩ := hp
    obtain ⟨_, _, _, n1, f1, hw⟩ := h i hi
    rw [f1]
    exact hw

theorem rnumber_at (w : World) (lo g : Nat) (l : List UInt8) (er n : Int) (a b : List UInt8) (er' x : Int) (ht : tk l er n 8 = (a, b, er')) (hx : (num a : Int) = x) (h : RR w lo g l er) :
    Calls Try.prog 27 #[.pointer (some ⟨g, 0, none⟩), .int .i64 n] w fun e w' => e = .returned (.int .u64 x) ∧ RR w' lo g b er' ∧ w.grownBy w' (some g) := by
  have := rnumber_any w lo g l er n h
  rw [ht] at this
  rw [← hx]
  exact this
theorem rrsigned_at (w : World) (lo g : Nat) (l : List UInt8) (er n : Int) (a b : List UInt8) (er' x : Int) (ht : tk l er n 8 = (a, b, er')) (hx : sgn (num a) n = x) (h : RR w lo g l er) :
    Calls Try.prog 29 #[.pointer (some ⟨g, 0, none⟩), .int .i64 n] w fun e w' => e = .returned (.int .i64 x) ∧ RR w' lo g b er' ∧ w.grownBy w' (some g) := by
  have := rrsigned_any w lo g l er n h
  rw [ht] at this
  rw [← hx]
  exact this

theorem rleft_at (w : World) (lo g : Nat) (l : List UInt8) (er x : Int) (hx : (l.length : Int) = x) (h : RR w lo g l er) : Calls Try.prog 31 #[.pointer (some ⟨g, 0, none⟩)] w fun e w' => e = .returned (.int .i64 x) ∧ ∃ k, w' = w.drewN k := by
  rw [← hx]
  exact rleft_made w lo g l er h
theorem rend_at (w : World) (lo g : Nat) (l : List UInt8) (er x : Int) (hx : (if er ≠ 0 then er else if 0 < l.length then 4 else 0) = x) (h : RR w lo g l er) : Calls Try.prog 32 #[.pointer (some ⟨g, 0, none⟩)] w fun e w' => e = .returned (.int .i64 x) ∧ ∃ k, w' = w.drewN k := by
  rw [← hx]
  exact rend_made w lo g l er h
theorem rbytes_at (w : World) (lo g : Nat) (l : List UInt8) (er n : Int) (a b : List UInt8) (er' : Int) (ht : tk l er n 9223372036854775807 = (a, b, er')) (hn : n ≤ 9223372036854775807) (h : RR w lo g l er) :
    Calls Try.prog 30 #[.pointer (some ⟨g, 0, none⟩), .int .i64 n] w (RGave w lo g (a, b, er')) := by
  have := rbytes_any w lo g l er n _ hn h
  rwa [ht] at this
theorem quiet_l {P : Program} {f : FuncId} {args : Array Value} {w : World} {n : Nat} {v : Value} (h : Calls P f args (w.drewN n) fun e w' => e = .returned v ∧ w.drewN n = w') :
    Calls P f args (w.drewN n) fun e w'' => e = .returned v ∧ ∃ m, w'' = w.drewN m :=
  h.mono fun _ _ ⟨he, hm⟩ => ⟨he, n, hm.symm⟩
theorem quiet_k {P : Program} {f : FuncId} {args : Array Value} {w : World} {n : Nat} {v : Value} (h : Calls P f args (w.drewN n) fun e w' => e = .returned v ∧ ∃ k, w' = (w.drewN n).drewN k) :
    Calls P f args (w.drewN n) fun e w'' => e = .returned v ∧ ∃ m, w'' = w.drewN m :=
  h.mono fun _ _ ⟨he, k, hm⟩ => ⟨he, n + k, by rw [hm, World.drewN_drewN]⟩

set_option maxRecDepth 100000 in
set_option maxHeartbeats 3200000 in
theorem octetScript_walk (a a' : Option Addr) (len cap len' cap' : Nat) (l0 : List UInt8) (acts : List (Int × Int)) (w : World) (hR : Row w 0 w.heap.size a len (U l0)) (hA : a = none → cap = 0) (hAc : Acts w w.heap.size a' len' acts)
    (hw : ∀ x ∈ acts, (Lit.int .i64 x.2).wf = true) (hm : len ≤ 9223372036854775807) (hm' : len' ≤ 9223372036854775807) :
    Calls Try.prog 5 #[.slice a len cap, .slice a' len' cap'] w fun e w' => e = .returned (.bool true) ∧ Below w.heap.size w w' := by
  have HA := hid hA
  have HW := hid hw
  clear hA hw
  go_enter Try.func5, Try.ntmps5
  go_wp2_with fail
  refine (lives_any w).mono ?_
  rintro e w1 ⟨rfl, hb1⟩
  have hzz1 := hb1.size
  by_cases hlen : 200 < len
  · go_wp2
    go_ret
    exact ⟨rfl, hb1⟩
  by_cases hlen2 : 200 < len'
  · go_wp2
    go_ret
    exact ⟨rfl, hb1⟩
  have hle : len ≤ 200 := by omega
  have hle' : len' ≤ 200 := by omega
  clear hlen hlen2
  go_wp2_with fail
  refine (own_any a len cap 0 w.heap.size l0 _ (hR.below hb1 (Nat.le_refl _)) HA.out hzz1 (by omega)).mono ?_
  rintro e w2 ⟨A2, n2, c2, rfl, hl2, hA2, hown2, hb2⟩
  have hn2 : n2 ≤ 200 := by have := hR.len; rw [U_len, hl2.out] at this; omega
  have hb02 : Below w.heap.size w w2 := hb1.trans (hb2.mono hzz1)
  have hr2 := Row.of_own hown2
  clear hown2 hb2 hb1
  have hz2 := hb02.size
  go_wp2_with fail
  refine (new_any A2 n2 c2 _ _ l0 _ hr2 hA2.out (Nat.le_refl _) (by omega)).mono ?_
  rintro e w3 ⟨g, rfl, hg, hgl, hrd, hb3⟩
  have hb03 : Below w.heap.size w w3 := hb02.trans (hb3.mono hz2)
  have hz3 := hb03.size
  clear hr2 hb02 hb3
  go_wp2_with fail
  refine (rnew_any a len cap 0 w.heap.size l0 _ (hR.below hb03 (Nat.le_refl _)) HA.out hz3 (by omega)).mono ?_
  rintro e w4 ⟨g4, rfl, hg4, hgl4, hrr, hb4⟩
  have hb04 : Below w.heap.size w w4 := hb03.trans (hb4.mono hz3)
  have hrd4 := hrd.below hb4 hgl
  clear hb03 hb4 hrd
  have HG : Hid (w.heap.size ≤ w2.heap.size ∧ w2.heap.size ≤ g ∧ g < w3.heap.size ∧ w3.heap.size ≤ g4) := ⟨hz2, hg, hgl, hg4⟩
  go_wp2
  go_loopw [7] (fun i wr => ∃ k l er, k ≤ len' ∧ i = .int .i64 (k : Nat) ∧ Rd wr w2.heap.size g l er ∧ RR wr w3.heap.size g4 l er ∧ Below w.heap.size w wr) (fun i _ => len' - (intOf i).toNat)
  case atStart => exact ⟨0, l0, 0, Nat.zero_le _, rfl, hrd4, hrr, hb04⟩
  case round =>
    clear hrd4 hrr hb04
    obtain ⟨k, l, er, hk, rfl, hr1, hr2, hb⟩ := hrel
    have hzr := hb.size
    by_cases hlt : k < len'
    · have hac := hAc.below hb (Nat.le_refl _)
      have hkl : k < acts.length := by rw [hAc.1]; exact hlt
      obtain ⟨b, off, rfl, hub, hcs⟩ := hac.2 (by omega)
      obtain ⟨hc1, hc2⟩ := hcs k acts[k] (List.getElem?_eq_getElem hkl)
      obtain ⟨kd, HKD⟩ : ∃ kd, Hid (acts[k].1 = kd) := ⟨_, hid rfl⟩
      obtain ⟨n, HN⟩ : ∃ n, Hid (acts[k].2 = n) := ⟨_, hid rfl⟩
      have HWN := hid (wf_i64 (HW.out acts[k] (List.getElem_mem _)))
      rw [HKD.out] at hc1
      rw [HN.out] at hc2 HWN
      clear hcs hac
      obtain ⟨p, HP, hp3⟩ : ∃ p : Nat, Hid (kd % 3 = (p : Int)) ∧ p < 3 := ⟨(kd % 3).toNat, hid (by omega), by omega⟩
      go_wp2_with fail
      refine (pick_at _ _ (p : Int) _ (by omega) (by omega) HP.out).mono ?_
      rintro e w5 ⟨rfl, rfl⟩
      obtain ⟨hg1, hg2, hg3, hg4'⟩ := HG.out
      obtain ⟨x, b', er', HT⟩ : ∃ x b' er', Hid (tk l er n 8 = (x, b', er')) := ⟨_, _, _, hid rfl⟩
      have hbk : b < wr.heap.size := by omega
      have hbg : b ≠ g := by omega
      have hbg4 : b ≠ g4 := by omega
      have hgg : g ≠ g4 := by omega
      have hneg : some b ≠ some g := by intro h; injection h with h; omega
      have hneg4 : some b ≠ some g4 := by intro h; injection h with h; omega
      rcases (show p = 0 ∨ p = 1 ∨ p = 2 by omega) with rfl | rfl | rfl
      case' inl =>
        go_wp2
        go_region_held3 (fun w' => w'.cell? ⟨b, off + k * 2 + 1, none⟩ = some (.int .i64 n))
          (first | exact hc2 | exact (hgr5.cell_far _ hbk hneg).trans hc2 | exact (hgr6.cell_far _ (Nat.lt_of_lt_of_le hbk hgr5.size) hneg4).trans ((hgr5.cell_far _ hbk hneg).trans hc2))
          (first
            | (go_at_call 11; refine (number_at _ w2.heap.size g l er _ x b' er' (num x) HT.out rfl (by exact hr1)).mono ?_; rintro e w5 ⟨rfl, hr5, hgr5, _⟩)
            | (go_at_call 27; refine (rnumber_at _ w3.heap.size g4 l er _ x b' er' (num x) HT.out rfl (by exact hr2.grown (only_undrew hgr5) (by omega) (by omega))).mono ?_; rintro e w6 ⟨rfl, hr6, hgr6⟩))
        have F : ∃ l2 er2, Hid (Rd w6 w2.heap.size g l2 er2) ∧ Hid (RR w6 w3.heap.size g4 l2 er2) ∧ Hid (Below w.heap.size w w6) :=
          ⟨b', er', hid (hr5.grown hgr6 (by omega) (by omega)), hid hr6, hid ((hb.grown (only_undrew hgr5) hzr (by intro j hj; injection hj with hj; omega)).grown hgr6 (by have := hgr5.size; exact Nat.le_trans hzr this) (by intro j hj; injection hj with hj; omega))⟩
        clear hr5 hgr5 hr6 hgr6 hr1 hr2 hb hc1 hc2
      case' inr.inl =>
        go_wp2
        go_region_held3 (fun w' => w'.cell? ⟨b, off + k * 2 + 1, none⟩ = some (.int .i64 n))
          (first | exact hc2 | exact (hgr5.cell_far _ hbk hneg).trans hc2 | exact (hgr6.cell_far _ (Nat.lt_of_lt_of_le hbk hgr5.size) hneg4).trans ((hgr5.cell_far _ hbk hneg).trans hc2))
          (first
            | (go_at_call 28; refine (signed_at _ w2.heap.size g l er _ x b' er' (sgn (num x) n) HT.out rfl (by exact hr1)).mono ?_; rintro e w5 ⟨rfl, hr5, hgr5, _⟩)
            | (go_at_call 29; refine (rrsigned_at _ w3.heap.size g4 l er _ x b' er' (sgn (num x) n) HT.out rfl (by exact hr2.grown (only_undrew hgr5) (by omega) (by omega))).mono ?_; rintro e w6 ⟨rfl, hr6, hgr6⟩))
        have F : ∃ l2 er2, Hid (Rd w6 w2.heap.size g l2 er2) ∧ Hid (RR w6 w3.heap.size g4 l2 er2) ∧ Hid (Below w.heap.size w w6) :=
          ⟨b', er', hid (hr5.grown hgr6 (by omega) (by omega)), hid hr6, hid ((hb.grown (only_undrew hgr5) hzr (by intro j hj; injection hj with hj; omega)).grown hgr6 (by have := hgr5.size; exact Nat.le_trans hzr this) (by intro j hj; injection hj with hj; omega))⟩
        clear hr5 hgr5 hr6 hgr6 hr1 hr2 hb hc1 hc2
      case' inr.inr =>
        have hg4r : g4 < wr.drew.heap.size := hr2.lt
        obtain ⟨x3, b3, er3, HT3⟩ : ∃ x b' er', Hid (tk l er n 9223372036854775807 = (x, b', er')) := ⟨_, _, _, hid rfl⟩
        go_wp2
        go_region_held3 (fun w' => w'.cell? ⟨b, off + k * 2 + 1, none⟩ = some (.int .i64 n))
          (first | exact hc2 | exact (hgr5.cell_far _ hbk hneg).trans hc2 | exact (hgr6.cell_far _ (Nat.lt_of_lt_of_le hbk hgr5.size) hneg4).trans ((hgr5.cell_far _ hbk hneg).trans hc2) | (rw [HW7.out]; exact (hgr6.cell_far _ (Nat.lt_of_lt_of_le hbk hgr5.size) hneg4).trans ((hgr5.cell_far _ hbk hneg).trans hc2)))
          (first
            | (go_at_call 12; refine (bytes_at _ w2.heap.size g l er _ x3 b3 er3 HT3.out (by exact hr1)).mono ?_; rintro e w5 ⟨A5, n5, c5, rfl, hl5, hA5, hown5, hn5, hr5, hgr5⟩)
            | (go_at_call 30; refine (rbytes_at _ w3.heap.size g4 l er _ x3 b3 er3 HT3.out HWN.out.2 (by exact hr2.grown (only_undrew hgr5) (by omega) (by omega))).mono ?_; rintro e w6' ⟨A6, n6, c6, rfl, hl6, hA6, hown6, hn6, hr6, hgr6⟩)
            | (go_at_call 20; refine (same_yes A5 A6 n5 n6 c5 c6 _ _ _ _ x3 x3 _ ((Row.of_own hown5).grown hgr6 (Nat.le_refl _) (by intro j hj; injection hj with hj; rw [← hj]; exact .inl hg4r)) (Row.of_own hown6) (by omega) rfl).mono ?_; rintro e w6 ⟨rfl, k7, hw7⟩; have HW7 := hid hw7; clear hw7))
        have F : ∃ l2 er2, Hid (Rd w6 w2.heap.size g l2 er2) ∧ Hid (RR w6 w3.heap.size g4 l2 er2) ∧ Hid (Below w.heap.size w w6) := by
          rw [HW7.out]
          exact ⟨b3, er3, hid (hr5.grown (only_drewN hgr6 k7) (by omega) (by omega)), hid hr6, hid (below_drewN ((hb.grown (only_undrew hgr5) hzr (by intro j hj; injection hj with hj; omega)).grown hgr6 (by have := hgr5.size; exact Nat.le_trans hzr this) (by intro j hj; injection hj with hj; omega)) _)⟩
        clear hown5 hown6 hr5 hgr5 hr6 hgr6 hr1 hr2 hb hc1 hc2
      all_goals
        obtain ⟨l2, er2, F1, F2, F3⟩ := F
        obtain ⟨Z, HZ⟩ : ∃ Z : Int, Hid ((l2.length : Int) = Z) := ⟨_, hid rfl⟩
        obtain ⟨E, HE⟩ : ∃ E : Int, Hid ((if er2 ≠ 0 then er2 else if 0 < l2.length then 4 else 0) = E) := ⟨_, hid rfl⟩
        have cE : w6.cell? ⟨g4, 2, none⟩ = some (.int .i64 er2) := by
          obtain ⟨_, _, _, _, _, hB, _⟩ := F2.out
          exact hB.cell 2
        have hnz : (Z != Z) = false := by simp
        have hne : (er2 != er2) = false := by simp
        have hnE : (E != E) = false := by simp
        go_wp2
        go_quiet (first | (go_at_call 15; exact quiet_l (left_at _ _ _ l2 er2 Z HZ.out (by exact F1.out))) | (go_at_call 31; exact quiet_k (rleft_at _ _ _ l2 er2 Z HZ.out (by exact F2.out))) | (go_at_call 14; exact quiet_l (err_rd _ _ _ l2 er2 (by exact F1.out))) | (go_at_call 16; exact quiet_l (end_rd _ _ _ l2 er2 E HE.out (by exact F1.out))) | (go_at_call 32; exact quiet_k (rend_at _ _ _ l2 er2 E HE.out (by exact F2.out))))
        go_wp2
        go_roundw
        case rel => exact ⟨k + 1, l2, er2, by omega, by go_num, F1.out, F2.out, below_drewN F3.out _⟩
        case measure => simp [intOf]; omega
    · go_wp2
      go_ret
      exact ⟨rfl, hb⟩
end Go.Proofs.Ytglmkbdkhcapaaa
