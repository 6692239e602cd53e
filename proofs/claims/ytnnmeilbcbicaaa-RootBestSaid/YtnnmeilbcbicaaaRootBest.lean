/-
  The walk of RootBest: for all numbers it answers true, and changes nothing that was there.
-/
import Derived.Test.YtnnmeilbcbicaaaLives2
import Derived.Test.YtnnmeilbcbicaaaBestMath
import Derived.OwnWalk
import Derived.Deep.QuietTactic
import Derived.BigQuiet
namespace Go.Proofs.Ytnnmeilbcbicaaa
open Go.RowKit

theorem infoI : (Try.prog.info? 2).map (fun i => (i.zero, i.size, i.bytes)) = some (some (.int .i64 0), 1, 8) := by kernel_rfl
set_option maxRecDepth 100000 in
set_option maxHeartbeats 3200000 in
theorem rootBest_walk (A : Option Addr) (len cap : Nat) (l : List Int) (y : Int) (w : World) (hR : Row w 0 w.heap.size A len (IK .i32 l)) (hw : ∀ n ∈ l, (Lit.int .i32 n).wf = true) (hm : len ≤ 9223372036854775807) :
    Calls Try.prog 6 #[.slice A len cap, .int .i32 y] w fun e w' => e = .returned (.bool true) ∧ Below w.heap.size w w' := by
  obtain ⟨i0, hi, hz0, hz1, hz2⟩ := info_parts infoI
  have HL : Hid (l.length = len) := by have := hR.len; rwa [IK_len] at this
  have HW := hid hw
  clear hw
  go_enter Try.func6, Try.ntmps6
  go_wp2_with fail
  refine (lives_any w).mono ?_
  rintro e w1 ⟨rfl, rfl⟩
  by_cases h1 : len < 1
  · go_wp2
    go_ret
    exact ⟨rfl, Below.refl _ _⟩
  have h1' : 1 ≤ len := by omega
  clear h1
  by_cases h60 : 60 < len
  · go_wp2
    go_ret
    exact ⟨rfl, Below.refl _ _⟩
  have h60' : len ≤ 60 := by omega
  clear h60
  go_wp2
  go_loop [6, 7] (fun s i => ∃ k : Nat, k ≤ len ∧ i = .int .i64 k ∧ s = .int .i64 (sm (fun x => x.tdiv 4) (l.take k))) (fun _ i => len - (intOf i).toNat)
  case atStart => exact ⟨0, Nat.zero_le _, rfl, by simp [sm]⟩
  case round =>
    obtain ⟨k, hk, rfl, rfl⟩ := hrel
    have hsl := sm_le (fun x => x.tdiv 4) 536870912 (l.take k) (fun x hx => tdiv4 (wf_i32 (HW.out x (List.mem_of_mem_take hx))).1 (wf_i32 (HW.out x (List.mem_of_mem_take hx))).2)
    rw [List.length_take, HL.out, Nat.min_eq_left hk] at hsl
    obtain ⟨hs1, hs2⟩ := hsl
    by_cases hlt : k < len
    · obtain ⟨b, off, u, rfl, _, _, hu, hc⟩ := hR.at_ hlt
      have hk1 : k < l.length := by rw [HL.out]; exact hlt
      rw [IK_get _ l k hk1] at hu
      injection hu with hu
      subst hu
      obtain ⟨t1, t2⟩ := tdiv4 (wf_i32 (HW.out l[k] (List.getElem_mem _))).1 (wf_i32 (HW.out l[k] (List.getElem_mem _))).2
      have HT : Hid (sm (fun x => x.tdiv 4) (l.take (k + 1)) = sm (fun x => x.tdiv 4) (l.take k) + l[k].tdiv 4) := sm_take _ l k hk1
      generalize l[k] = x at *
      generalize sm (fun x => x.tdiv 4) (l.take k) = s at *
      go_wp2
      go_round
      case rel => exact ⟨k + 1, by omega, by go_num, by rw [HT.out]⟩
      case measure => simp [intOf]; omega
    · obtain rfl : k = len := by omega
      clear hlt
      generalize sm (fun x => x.tdiv 4) (l.take k) = s at *
      obtain ⟨m, hm1⟩ : ∃ m, m = (2 * s + (k : Int)) / (2 * (k : Int)) := ⟨_, rfl⟩
      have HM := hid hm1
      have hnr := mean_near (show (1 : Int) ≤ k by omega) hm1
      obtain ⟨b1, b2⟩ := mean_small (show (1 : Int) ≤ k by omega) hnr hs1 hs2
      obtain ⟨n1, n2⟩ := hnr
      have q1 : (k : Int) * m ≤ 9000000000000000 := by omega
      have q2 : -9000000000000000 ≤ (k : Int) * m := by omega
      have q3 : IntKind.i64.wrap ((k : Int) * m) = (k : Int) * m := by rw [IntKind.wrap_i64]; omega
      clear hm1
      go_wp2_with fail
      refine (mean_at s k m 0 _ (.inr (.inr ⟨by omega, by omega, by omega, by omega, HM.out, rfl⟩))).mono ?_
      rintro e w1 ⟨rfl, rfl⟩
      go_wp2_with (at_make; refine wpList_make_own _ rfl _ _ 34 rfl w.heap.size 2 i0 (.int .i64 0) 1 Try.underlying34 hi hz0 hz1 _ _ _ k rfl rfl (by omega) (by rw [hz2]; omega) (by unfold maxLen; omega) (Nat.le_refl _) ?_; intro w1 hown1 hgrow1)
      clear n1 n2 b1 b2 q1 q2 q3 hs1 hs2 HM
      have hb1 : Below w.heap.size w w1 := (Below.refl _ _).grown hgrow1 (Nat.le_refl _) (by intro g hg; cases hg)
      clear hgrow1
      obtain ⟨q, HQ⟩ : ∃ q, Hid (l.map (fun x => x.tmod 1048576) = q) := ⟨_, hid rfl⟩
      have HQL : Hid (q.length = k) := hid (by rw [← HQ.out, List.length_map, HL.out])
      have HQB : Hid (∀ x ∈ q, -1048576 ≤ x ∧ x ≤ 1048576) := hid (by
        intro x hx
        rw [← HQ.out] at hx
        obtain ⟨z, _, rfl⟩ := List.mem_map.1 hx
        exact tmodM z)
      go_loopw [10, 11, 12] (fun v s i wr => ∃ j : Nat, j ≤ k ∧ i = .int .i64 j ∧ s = .int .i64 (sm (fun x => x) (q.take j)) ∧ wr.ownsRow w.heap.size 2 1 v j (IK .i64 (q.take j)) ∧ Below w.heap.size w wr) (fun _ _ i _ => k - (intOf i).toNat)
      case atStart => exact ⟨0, Nat.zero_le _, rfl, by simp [sm], by simpa [IK] using hown1, hb1⟩
      case round =>
        obtain ⟨j, hj, rfl, rfl, hown, hb⟩ := hrel
        clear hown1 hb1
        have hsz := hb.size
        have hsl := sm_le (fun x => x) 1048576 (q.take j) (fun x hx => HQB.out x (List.mem_of_mem_take hx))
        rw [List.length_take, HQL.out, Nat.min_eq_left hj] at hsl
        obtain ⟨hs1, hs2⟩ := hsl
        by_cases hlt : j < k
        · obtain ⟨b, off, u, rfl, _, _, hu, hc⟩ := (hR.below hb (Nat.le_refl _)).at_ hlt
          have hk1 : j < l.length := by rw [HL.out]; exact hlt
          have hk2 : j < q.length := by rw [HQL.out]; exact hlt
          rw [IK_get _ l j hk1] at hu
          injection hu with hu
          subst hu
          have HX : Hid (q[j] = l[j].tmod 1048576) := hid (by simp only [← HQ.out, List.getElem_map])
          obtain ⟨t1, t2⟩ := tmodM l[j]
          have HT : Hid (sm (fun x => x) (q.take (j + 1)) = sm (fun x => x) (q.take j) + l[j].tmod 1048576) := hid (by rw [sm_take _ q j hk2, HX.out])
          have HI : Hid (IK .i64 (q.take (j + 1)) = IK .i64 (q.take j) ++ [.int .i64 (l[j].tmod 1048576)]) := hid (by rw [List.take_succ_eq_append_getElem hk2, IK_append, HX.out]; rfl)
          clear HX
          generalize l[j] = x at *
          generalize sm (fun x => x) (q.take j) = s at *
          go_wp2_with (at_builtin; refine wpList_append_row _ rfl (.tmp 98) (.tmp 100) 34 rfl w.heap.size 2 i0 (.int .i64 0) 8 Try.underlying34 hi hz0 hz1 hz2 rfl u10 j (IK .i64 (q.take j)) rfl (hown.alloc _) wr.heap.size (wr.heap.size + 1) (some ⟨wr.heap.size, 0, none⟩) 1 1 rfl (by intro h; cases h) [.int .i64 (x.tmod 1048576)] (by exact row_one _ _ _) (by intro u hu; simp only [List.mem_singleton] at hu; rw [hu]; rfl) (by unfold maxLen; omega) (by omega) (by simp; omega) ?_; intro v3 w3 hown3 hgrow3 _)
          have hb3 : Below w.heap.size w w3 := (hb.alloc hsz _).grown hgrow3 (by simp; omega) (fun g hg => (hown.lt g hg).1)
          rw [← HI.out] at hown3
          clear hgrow3 hown hb
          go_wp2
          go_roundw
          case rel => exact ⟨j + 1, by omega, by go_num, by rw [HT.out], hown3, hb3⟩
          case measure => simp [intOf]; omega
        · obtain rfl : j = k := by omega
          clear hlt
          have HQT : Hid (q.take j = q) := hid (by rw [List.take_of_length_le]; rw [HQL.out]; exact Nat.le_refl _)
          rw [HQT.out] at hown hs1 hs2 ⊢
          obtain ⟨A2, c2, rfl⟩ := own_slice hown
          have hR2 := Row.of_own hown
          have hb' := hb
          clear hown hR
          obtain ⟨m, hm1⟩ : ∃ m, m = (2 * sm (fun x => x) q + (j : Int)) / (2 * (j : Int)) := ⟨_, rfl⟩
          have HM := hid hm1
          have hnr := mean_near (show (1 : Int) ≤ j by omega) hm1
          obtain ⟨b1, b2⟩ := mean_small (show (1 : Int) ≤ j by omega) hnr hs1 hs2
          obtain ⟨y1, y2⟩ := tmodM y
          have HB : Hid (sm (fun x => (x - m) * (x - m)) q ≤ sm (fun x => (x - y.tmod 1048576) * (x - y.tmod 1048576)) q) := hid (by
            refine best q m _ ?_ ?_ <;> rw [HQL.out]
            · exact hnr.1
            · exact hnr.2)
          clear hm1 hnr
          go_wp2_with fail
          refine (mean_at _ j m 0 _ (.inr (.inr ⟨by omega, by omega, by omega, by omega, HM.out, rfl⟩))).mono ?_
          rintro e w1 ⟨rfl, rfl⟩
          clear hs1 hs2 HM
          go_wp2
          go_loopw [15, 16, 17] (fun a b i wz => ∃ t : Nat, t ≤ j ∧ i = .int .i64 t ∧ a = .int .i64 (sm (fun x => (x - m) * (x - m)) (q.take t)) ∧ b = .int .i64 (sm (fun x => (x - y.tmod 1048576) * (x - y.tmod 1048576)) (q.take t)) ∧ ∃ n, wz = wr.drewN n) (fun _ _ i _ => j - (intOf i).toNat)
          case atStart => exact ⟨0, Nat.zero_le _, rfl, by simp [sm], by simp [sm], 0, rfl⟩
          case round =>
            obtain ⟨t, ht, rfl, rfl, rfl, n, rfl⟩ := hrel
            have hsa := sm_le (fun x => (x - m) * (x - m)) 17592186044416 (q.take t) (fun x hx => by
              have h1 := HQB.out x (List.mem_of_mem_take hx)
              have h2 := sq_small (x := x - m) (by omega) (by omega)
              show _ ∧ _
              omega)
            have hsb := sm_le (fun x => (x - y.tmod 1048576) * (x - y.tmod 1048576)) 17592186044416 (q.take t) (fun x hx => by
              have h1 := HQB.out x (List.mem_of_mem_take hx)
              have h2 := sq_small (x := x - y.tmod 1048576) (by omega) (by omega)
              show _ ∧ _
              omega)
            rw [List.length_take, HQL.out, Nat.min_eq_left ht] at hsa hsb
            obtain ⟨sa1, sa2⟩ := hsa
            obtain ⟨sb1, sb2⟩ := hsb
            by_cases hlt : t < j
            · obtain ⟨b, off, u, rfl, _, _, hu, hc⟩ := hR2.at_ hlt
              have hk2 : t < q.length := by rw [HQL.out]; exact hlt
              rw [IK_get _ q t hk2] at hu
              injection hu with hu
              subst hu
              have HT1 : Hid (_ = _) := sm_take (fun x => (x - m) * (x - m)) q t hk2
              have HT2 : Hid (_ = _) := sm_take (fun x => (x - y.tmod 1048576) * (x - y.tmod 1048576)) q t hk2
              obtain ⟨x1, x2⟩ := HQB.out q[t] (List.getElem_mem _)
              have g1 : (wr.drewN n).cell? ⟨b, off + t, none⟩ = some (.int .i64 q[t]) := hc
              generalize q[t] = x at *
              obtain ⟨e1, e2⟩ := sq_small (x := x - m) (by omega) (by omega)
              obtain ⟨e3, e4⟩ := sq_small (x := x - y.tmod 1048576) (by omega) (by omega)
              generalize sm (fun x => (x - m) * (x - m)) (q.take t) = s1 at *
              generalize sm (fun x => (x - y.tmod 1048576) * (x - y.tmod 1048576)) (q.take t) = s2 at *
              go_wp2
              go_quiet (fail)
              go_wp2
              go_roundw
              case rel => exact ⟨t + 1, by omega, by go_num, by rw [HT1.out], by rw [HT2.out], _, rfl⟩
              case measure => simp [intOf]; omega
            · obtain rfl : t = j := by omega
              have hle := HB.out
              rw [HQT.out]
              clear hlt sa1 sa2 sb1 sb2
              go_wp2
              go_ret
              exact ⟨rfl, below_drewN hb' _⟩
end Go.Proofs.Ytnnmeilbcbicaaa
