/-
  The reference's Add of layer 4.
-/
import Derived.Test.YtdknjeikhdodeaaRTop2
namespace Go.Proofs.Ytdknjeikhdodeaa
open Go.RowKit Go.Sort

theorem HeapAt.take {w : World} {g cap : Nat} {l : List (Int × Int)} (h : HeapAt w g cap l) (k : Nat) : HeapAt w g cap (l.take k) := by
  obtain ⟨cs, h1, h2, h3, h4⟩ := h
  refine ⟨cs, h1, h2, ⟨by rw [List.length_take]; omega, h3.2⟩, fun j hj => ?_⟩
  rw [List.length_take] at hj
  rw [show (l.take k).getD j (0, 0) = l.getD j (0, 0) by simp [List.getD_eq_getElem?_getD, show j < k by omega]]
  exact h4 j (by omega)
theorem own_take {w : World} {base n c k : Nat} {A : Option Addr} {l : List (Int × Int)} (h : w.ownsRow base 29 2 (.slice A n c) n (NC l)) (hk : k ≤ n) : w.ownsRow base 29 2 (.slice A k c) k (NC (l.take k)) := by
  obtain ⟨hl, ⟨hv, h0⟩ | ⟨g, cap, hv, hg, hh⟩⟩ := heap_of_own h
  · injection hv with e1 e2 e3
    subst e1 e2 e3 h0
    obtain rfl : k = 0 := by omega
    exact World.ownsRow_nil _ _ _ _
  · injection hv with e1 _ e3
    subst e1 e3
    exact own_of_heap (hh.take k) hg (by rw [List.length_take]; omega)
set_option maxHeartbeats 1600000 in
theorem radd_no (w : World) (T k : Nat) (R : Option Nat) (l : List (Int × Int)) (x : Int × Int) (hT : RAt w T R k l) (hk : k ≤ 16777216) (hf : (keep k l).length = k) (hx : 0 < k → nlt x ((keep k l).getLastD (0, 0)) = false) :
    Calls Try.prog 22 #[.pointer (some ⟨T, 0, none⟩), .agg #[.int .i64 x.1, .int .i64 x.2]] w fun e w' => e = .returned (.bool false) ∧ Lays w w' := by
  have HF := hid hf
  clear hf
  obtain ⟨x1, x2⟩ := x
  have hmix := mixed
  obtain ⟨A, c, hB, hG, hown⟩ := hT
  obtain ⟨n, HN⟩ : ∃ n, Hid ((keep k l).length = n) := ⟨_, hid rfl⟩
  have hnk : n ≤ k := by rw [← HN.out, keep_len]; omega
  rw [HN.out] at hB hown hG
  obtain ⟨hNr, hAc, hle, hmx⟩ := nears_own hown
  have b0 := Box.new w 29 x1 x2
  have L0 := lays_alloc w (.cells #[.int .i64 x1, .int .i64 x2] 29)
  have HAc := hid hAc
  clear hAc
  obtain rfl : n = k := by rw [← HN.out]; exact HF.out
  have hq : ((n : Int) == (n : Int)) = true := by simp
  by_cases hk0 : n = 0
  · subst hk0
    go_enter Try.func22, Try.ntmps22
    go_wp2
    have hB1 := hB.touch (touch_lays L0 []) (by simp)
    have hown1 := own_touch hown (touch_lays L0 []) (by simp)
    have hNr1 := hNr.lays L0 (Nat.le_refl _)
    obtain ⟨Bx, hBx⟩ : ∃ Bx, w.heap.size = Bx := ⟨_, rfl⟩
    have hTB : T < Bx := by rw [← hBx]; exact hB.lt
    rw [hBx] at b0 hNr1 ⊢
    have HBX := hid hBx
    have H0 := hid L0
    clear L0 hBx hB hown hNr
    generalize w.alloc (.cells #[.int .i64 x1, .int .i64 x2] 29) = wa at hB1 hown1 hNr1 b0 H0 ⊢
    have t0 := cell_grown (a := ⟨T, 0, none⟩) hB1.lt (hB1.cell 0)
    have t1 := cell_grown (a := ⟨T, 1, none⟩) hB1.lt (hB1.cell 1)
    have e3 := cell_grown (a := ⟨Bx, 0, none⟩) b0.2.2 b0.1
    have e4 := cell_grown (a := ⟨Bx, 1, none⟩) b0.2.2 b0.2.1
    clear hx t0 t1 e3 e4
    have t0 : wa.cell? ⟨T, 0, none⟩ = some (.int .i64 0) := hB1.cell 0
    have t1 : wa.cell? ⟨T, 1, none⟩ = some (.slice A 0 c) := hB1.cell 1
    go_quiet (fail)
    have L1 := lays_drewN wa nq
    have HZ := hid (H0.out.trans L1)
    clear t0 t1 L1
    generalize wa.drewN nq = wz at HZ ⊢
    go_wp2
    go_ret
    exact ⟨rfl, HZ.out⟩
  · have hkz : ((n : Int) == 0) = false := by simp; omega
    obtain ⟨_, ⟨_, h2⟩ | ⟨g, cap, e2, hg, hh⟩⟩ := heap_of_own hown
    · have := HN.out; rw [h2] at this; simp at this; omega
    injection e2 with e2 _ e3
    subst e2 e3
    obtain ⟨m, hm⟩ : ∃ m, n = m + 1 := ⟨n - 1, by omega⟩
    have hx' := hx (by omega)
    rw [lastD_get _ (by rw [HN.out]; omega), HN.out, hm, Nat.add_sub_cancel, ← hm] at hx'
    obtain ⟨⟨y1, y2⟩, HY⟩ : ∃ y, Hid ((keep n l).getD m (0, 0) = y) := ⟨_, hid rfl⟩
    rw [HY.out] at hx'
    obtain ⟨d0, d1⟩ := hh.cell (j := m) (by rw [HN.out]; omega)
    rw [HY.out] at d0 d1
    have hgl := hh.lt
    have hmn : m < n := by omega
    have hnm : (n : Int) - 1 = (m : Int) := by omega
    have hwr : IntKind.i64.wrap (m : Int) = (m : Int) := wrap_i64 (by omega) (by omega)
    have hless : ∀ W, Calls Try.prog 17 #[.agg #[.int .i64 x1, .int .i64 x2], .agg #[.int .i64 y1, .int .i64 y2]] W (Gr W (.bool false)) := fun W => by
      have := rless_any (x1, x2) (y1, y2) W
      rwa [hx'] at this
    have g0 := cell_grown (w := w.alloc (.cells #[.int .i64 x1, .int .i64 x2] 29)) (a := ⟨g, m * 2, none⟩) (by simp; omega) ((cell_old _ _ _ hgl).trans d0)
    have g1 := cell_grown (w := w.alloc (.cells #[.int .i64 x1, .int .i64 x2] 29)) (a := ⟨g, m * 2 + 1, none⟩) (by simp; omega) ((cell_old _ _ _ hgl).trans d1)
    clear hm hx hx' d0 d1 hh
    go_enter Try.func22, Try.ntmps22
    go_wp2
    have hB1 := hB.touch (touch_lays L0 []) (by simp)
    have hown1 := own_touch hown (touch_lays L0 []) (by simp)
    have hNr1 := hNr.lays L0 (Nat.le_refl _)
    obtain ⟨Bx, hBx⟩ : ∃ Bx, w.heap.size = Bx := ⟨_, rfl⟩
    have hTB : T < Bx := by rw [← hBx]; exact hB.lt
    rw [hBx] at b0 hNr1 ⊢
    have HBX := hid hBx
    have H0 := hid L0
    clear L0 hBx hB hown hNr
    generalize w.alloc (.cells #[.int .i64 x1, .int .i64 x2] 29) = wa at hB1 hown1 hNr1 b0 H0 g0 g1 ⊢
    have t0 := cell_grown (a := ⟨T, 0, none⟩) hB1.lt (hB1.cell 0)
    have t1 := cell_grown (a := ⟨T, 1, none⟩) hB1.lt (hB1.cell 1)
    have e3 := cell_grown (a := ⟨Bx, 0, none⟩) b0.2.2 b0.1
    have e4 := cell_grown (a := ⟨Bx, 1, none⟩) b0.2.2 b0.2.1
    refine wp_region_quiet_grown (by kernel_rfl) (by kernel_rfl) ?_
    repeat (go_big_quiet_step (first | (go_at_call 17; exact Calls.grown_of (hless _))))
    refine wpQuiet_nil ?_
    intro _ hw'
    obtain ⟨⟨nq, osq⟩, hw''⟩ := hw'
    subst hw''
    have L1 := lays_mk wa nq osq
    have HZ := hid (H0.out.trans L1)
    clear t0 t1 e3 e4 g0 g1 L1
    generalize grow (wa.drewN nq) osq = wz at HZ ⊢
    go_wp2
    go_ret
    exact ⟨rfl, HZ.out⟩
end Go.Proofs.Ytdknjeikhdodeaa
