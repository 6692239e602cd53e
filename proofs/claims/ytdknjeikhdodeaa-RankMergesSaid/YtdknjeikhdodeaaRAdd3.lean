/-
  The reference's Add of layer 4, of one that goes for the farthest; and all of it.
-/
import Derived.Test.YtdknjeikhdodeaaRAdd2
namespace Go.Proofs.Ytdknjeikhdodeaa
open Go.RowKit Go.Sort

set_option maxHeartbeats 3200000 in
theorem radd_near (w : World) (T k : Nat) (R : Option Nat) (l : List (Int × Int)) (x : Int × Int) (hT : RAt w T R k l) (hk : k ≤ 16777216) (hf : (keep k l).length = k) (h0 : 0 < k) (hx : nlt x ((keep k l).getLastD (0, 0)) = true) :
    Calls Try.prog 22 #[.pointer (some ⟨T, 0, none⟩), .agg #[.int .i64 x.1, .int .i64 x.2]] w fun e w' => ∃ R', e = .returned (.bool true) ∧ RAt w' T R' k (l ++ [x]) ∧ (R' = R ∨ ∃ g, R' = some g ∧ w.heap.size ≤ g) ∧ Touch w w' [T] := by
  have HF := hid hf
  clear hf
  obtain ⟨x1, x2⟩ := x
  have hmix := mixed
  obtain ⟨A, c, hB, hG, hown⟩ := hT
  obtain ⟨n, HN⟩ : ∃ n, Hid ((keep k l).length = n) := ⟨_, hid rfl⟩
  have hnk : n ≤ k := by rw [← HN.out, keep_len]; omega
  rw [HN.out] at hB hown hG
  obtain ⟨hNr, hAc, hle, hmx⟩ := nears_own hown
  have b0 := Box.new w 29 x1 x2
  have L0 := lays_alloc w (.cells #[.int .i64 x1, .int .i64 x2] 29)
  have HAc := hid hAc
  clear hAc
  obtain rfl : n = k := by rw [← HN.out]; exact HF.out
  have hq : ((n : Int) == (n : Int)) = true := by simp
  have hlt : (n : Int) < (n : Int) + 1 := by omega
  have hkz : ((n : Int) == 0) = false := by simp; omega
  obtain ⟨_, ⟨_, h2⟩ | ⟨g, cap, e2, hg, hh⟩⟩ := heap_of_own hown
  · have := HN.out; rw [h2] at this; simp at this; omega
  injection e2 with e2 _ e3
  subst e2 e3
  obtain ⟨m, hm⟩ : ∃ m, n = m + 1 := ⟨n - 1, by omega⟩
  have hx' := hx
  rw [lastD_get _ (by rw [HN.out]; omega), HN.out, hm, Nat.add_sub_cancel, ← hm] at hx'
  obtain ⟨⟨y1, y2⟩, HY⟩ : ∃ y, Hid ((keep n l).getD m (0, 0) = y) := ⟨_, hid rfl⟩
  rw [HY.out] at hx'
  obtain ⟨d0, d1⟩ := hh.cell (j := m) (by rw [HN.out]; omega)
  rw [HY.out] at d0 d1
  have hgl := hh.lt
  have hmn : m < n := by omega
  have hnm : (n : Int) - 1 = (m : Int) := by omega
  have hwr : IntKind.i64.wrap (m : Int) = (m : Int) := wrap_i64 (by omega) (by omega)
  have hless : ∀ W, Calls Try.prog 17 #[.agg #[.int .i64 x1, .int .i64 x2], .agg #[.int .i64 y1, .int .i64 y2]] W (Gr W (.bool true)) := fun W => by
    have := rless_any (x1, x2) (y1, y2) W
    rwa [hx'] at this
  have g0 := cell_grown (w := w.alloc (.cells #[.int .i64 x1, .int .i64 x2] 29)) (a := ⟨g, m * 2, none⟩) (by simp; omega) ((cell_old _ _ _ hgl).trans d0)
  have g1 := cell_grown (w := w.alloc (.cells #[.int .i64 x1, .int .i64 x2] 29)) (a := ⟨g, m * 2 + 1, none⟩) (by simp; omega) ((cell_old _ _ _ hgl).trans d1)
  clear hm hx hx' d0 d1 hh
  go_enter Try.func22, Try.ntmps22
  go_wp2
  have hB1 := hB.touch (touch_lays L0 []) (by simp)
  have hown1 := own_touch hown (touch_lays L0 []) (by simp)
  have hNr1 := hNr.lays L0 (Nat.le_refl _)
  obtain ⟨Bx, hBx⟩ : ∃ Bx, w.heap.size = Bx := ⟨_, rfl⟩
  have hTB : T < Bx := by rw [← hBx]; exact hB.lt
  rw [hBx] at b0 hNr1 ⊢
  have HBX := hid hBx
  have H0 := hid L0
  clear L0 hBx hB hown hNr
  generalize w.alloc (.cells #[.int .i64 x1, .int .i64 x2] 29) = wa at hB1 hown1 hNr1 b0 H0 g0 g1 ⊢
  have t0 := cell_grown (a := ⟨T, 0, none⟩) hB1.lt (hB1.cell 0)
  have t1 := cell_grown (a := ⟨T, 1, none⟩) hB1.lt (hB1.cell 1)
  have e3 := cell_grown (a := ⟨Bx, 0, none⟩) b0.2.2 b0.1
  have e4 := cell_grown (a := ⟨Bx, 1, none⟩) b0.2.2 b0.2.1
  refine wp_region_quiet_grown (by kernel_rfl) (by kernel_rfl) ?_
  repeat (go_big_quiet_step (first | (go_at_call 17; exact Calls.grown_of (hless _))))
  refine wpQuiet_nil ?_
  intro _ hw'
  obtain ⟨⟨nq, osq⟩, hw''⟩ := hw'
  subst hw''
  have L1 := lays_mk wa nq osq
  have HZ := hid (H0.out.trans L1)
  have bz := b0.lays L1
  have hBz := hB1.touch (touch_lays L1 []) (by simp)
  have hownz := own_touch hown1 (touch_lays L1 []) (by simp)
  have hNz := hNr1.lays L1 (by have := b0.2.2; omega)
  clear t0 t1 e3 e4 g0 g1 L1 hB1 hown1 hNr1 b0 H0
  generalize grow (wa.drewN nq) osq = wz at HZ bz hBz hownz hNz ⊢
  go_wp2
  obtain ⟨f0, f1, fB⟩ := bz
  have kz1 : wz.cell? ⟨T, 1, none⟩ = some (.slice (some ⟨g, 0, none⟩) n c) := hBz.cell 1
  have kTz := hBz.lt
  have hsn := hNz
  have hord := keep_ord n l
  have hn6 : n ≤ 100000000 := by omega
  have hnx : wz.heap.size = wz.drew.heap.size := rfl
  have hTg : T + 1 ≤ wz.heap.size := kTz
  go_region_law (first
    | (go_simp; go_at_call 32; refine (rinto_any (some ⟨g, 0, none⟩) n c (T + 1) Bx (keep n l) (x1, x2) _ (by exact hsn) HAc.out hle hmx (by exact Nat.le_of_lt fB) hn6 hord).mono ?_; rintro e w5 ⟨v5, rfl, own5, hb5⟩; obtain ⟨A5, c5, rfl⟩ := own_shape2 own5; have k5 := Blk.below (w := wz.drew) hBz hb5 kTz; have hc5 : w5.cell? ⟨T, 1, none⟩ = some (.slice (some ⟨g, 0, none⟩) n c) := k5.cell 1; have hf5 := k5.frozen 1))
  all_goals
    have own5' : w5.ownsRow wz.heap.size 29 2 (.slice A5 (n + 1) c5) (n + 1) (NC (ins (keep n l) (x1, x2))) := own5
    have hb5' : Below wz.heap.size wz w5 := Below.trans (b := wz.drew) (lays_drewN wz 1).below hb5
    have k6 := k5.set 1 (.slice A5 (n + 1) c5)
    have t6 : w5.grownBy (w5.setCell ⟨T, 1, none⟩ (.slice A5 (n + 1) c5)) (some T) := only_set (World.grownBy.refl _ _) _ _
    have own6 : (w5.setCell ⟨T, 1, none⟩ (.slice A5 (n + 1) c5)).ownsRow wz.heap.size 29 2 (.slice A5 (n + 1) c5) (n + 1) (NC (ins (keep n l) (x1, x2))) := own_touch own5' (touch_grown (F := [T]) t6 (fun g hg => by injection hg with hg; simp [hg])) (fun g hg => by have := own5'.lt g hg; simp; omega)
    have T6 : Hid (Touch w (w5.setCell ⟨T, 1, none⟩ (.slice A5 (n + 1) c5)) [T]) := hid (((touch_lays HZ.out [T]).trans (touch_below hb5' rfl [T])).trans (touch_grown t6 (fun g hg => by injection hg with hg; simp [hg])))
    have hzs := HZ.out.below.size
    clear own5 own5' hb5 hb5' k5 t6 hc5 hf5 kz1 hsn
    generalize w5.setCell ⟨T, 1, none⟩ (.slice A5 (n + 1) c5) = w6 at k6 own6 T6 ⊢
    have hc0 : w6.cell? ⟨T, 0, none⟩ = some (.int .i64 n) := k6.cell 0
    have hc1 : w6.cell? ⟨T, 1, none⟩ = some (.slice A5 (n + 1) c5) := k6.cell 1
    have hf1 := k6.frozen 1
    have hs1 : (n : Int) ≤ (c5 : Int) := by
      obtain ⟨_, _, h3, _⟩ := nears_own own6
      omega
    have hs2 : (0 : Int) ≤ (n : Int) := by omega
    have hs3 : (n : Int) ≤ (n : Int) + 1 := by omega
    have hs4 : n ≤ c5 := by omega
    go_wp2
    go_quiet (fail)
    go_wp2
    go_region
    go_wp2
    go_ret
    have hkeep : keep n (l ++ [(x1, x2)]) = (ins (keep n l) (x1, x2)).take n := keep_snoc n l (x1, x2)
    have hlen : ((ins (keep n l) (x1, x2)).take n).length = n := by rw [List.length_take, ins_len, HN.out]; omega
    have t7 : w6.grownBy (((w6.drewN nq).setCell ⟨T, 1, none⟩ (.slice A5 n c5)).drew) (some T) := only_drewN (only_set (only_drewN (World.grownBy.refl _ _) nq) _ _) 1
    have own7 : (((w6.drewN nq).setCell ⟨T, 1, none⟩ (.slice A5 n c5)).drew).ownsRow wz.heap.size 29 2 (.slice A5 n c5) n (NC ((ins (keep n l) (x1, x2)).take n)) := own_touch (own_take own6 (Nat.le_succ n)) (touch_grown (F := [T]) t7 (fun g hg => by injection hg with hg; simp [hg])) (fun g hg => by have := (own_take own6 (Nat.le_succ n)).lt g hg; simp; omega)
    refine ⟨(Value.slice A5 n c5).ownBlock, rfl, ⟨A5, c5, ?_, ?_, ?_⟩, ?_, T6.out.trans (touch_grown t7 (fun g hg => by injection hg with hg; simp [hg]))⟩
    · rw [hkeep, hlen]; exact k6.set 1 _
    · rw [hkeep, hlen]
    · rw [hkeep, hlen]; exact own_base own7 (by omega)
    · cases hg : (Value.slice A5 n c5).ownBlock with
      | none =>
        obtain ⟨hl, ⟨hv, _⟩ | ⟨g, cap, hv, _⟩⟩ := heap_of_own own6
        · injection hv with _ hv; omega
        · injection hv with hv _ _; rw [hv] at hg; cases hg
      | some g => exact .inr ⟨g, rfl, Nat.le_trans hzs ((own_take own6 (Nat.le_succ n)).lt g hg).1⟩
theorem radd_any (w : World) (T k : Nat) (R : Option Nat) (l : List (Int × Int)) (x : Int × Int) (hT : RAt w T R k l) (hk : k ≤ 16777216) :
    Calls Try.prog 22 #[.pointer (some ⟨T, 0, none⟩), .agg #[.int .i64 x.1, .int .i64 x.2]] w fun e w' => ∃ R', e = .returned (.bool (adds k l x)) ∧ RAt w' T R' k (l ++ [x]) ∧ (R' = R ∨ ∃ g, R' = some g ∧ w.heap.size ≤ g) ∧ Touch w w' [T] := by
  have hle : (keep k l).length ≤ k := by rw [keep_len]; omega
  by_cases hr : (keep k l).length < k
  · have e : adds k l x = true := by unfold adds; rw [if_pos hr]
    rw [e]
    exact radd_room w T k R l x hT hk hr
  · have hf : (keep k l).length = k := by omega
    by_cases h0 : k = 0
    · have e : adds k l x = false := by unfold adds; rw [if_neg hr, if_pos h0]
      rw [e]
      refine (radd_no w T k R l x hT hk hf (fun h => absurd h (by omega))).mono ?_
      rintro e w' ⟨rfl, a⟩
      have hk' : keep k (l ++ [x]) = keep k l := keep_not hf (fun y hy => by have := List.length_pos_of_mem hy; omega)
      refine ⟨R, rfl, ?_, .inl rfl, touch_lays a _⟩
      have := hT.lays a
      unfold RAt at this ⊢
      rwa [hk']
    · have e : adds k l x = nlt x ((keep k l).getLastD (0, 0)) := by unfold adds; rw [if_neg hr, if_neg h0]
      rw [e]
      cases hx : nlt x ((keep k l).getLastD (0, 0))
      · refine (radd_no w T k R l x hT hk hf (fun _ => hx)).mono ?_
        rintro e w' ⟨rfl, a⟩
        have hs : keep k l ≠ [] := by intro e; rw [e] at hf; simp at hf; omega
        rw [last_of _ hs] at hx
        have hk' : keep k (l ++ [x]) = keep k l := keep_not hf (fun y hy => nle_trans (ord_last (keep_ord k l) hs y hy) hx)
        refine ⟨R, rfl, ?_, .inl rfl, touch_lays a _⟩
        have := hT.lays a
        unfold RAt at this ⊢
        rwa [hk']
      · exact radd_near w T k R l x hT hk hf (by omega) hx
end Go.Proofs.Ytdknjeikhdodeaa
