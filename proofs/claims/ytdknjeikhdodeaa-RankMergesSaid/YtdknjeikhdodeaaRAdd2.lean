/-
  The reference's Add of layer 4, of one that is kept.
-/
import Derived.Test.YtdknjeikhdodeaaRAdd
namespace Go.Proofs.Ytdknjeikhdodeaa
open Go.RowKit Go.Sort

set_option maxHeartbeats 3200000 in
theorem radd_room (w : World) (T k : Nat) (R : Option Nat) (l : List (Int × Int)) (x : Int × Int) (hT : RAt w T R k l) (hk : k ≤ 16777216) (hf : (keep k l).length < k) :
    Calls Try.prog 22 #[.pointer (some ⟨T, 0, none⟩), .agg #[.int .i64 x.1, .int .i64 x.2]] w fun e w' => ∃ R', e = .returned (.bool true) ∧ RAt w' T R' k (l ++ [x]) ∧ (R' = R ∨ ∃ g, R' = some g ∧ w.heap.size ≤ g) ∧ Touch w w' [T] := by
  have HF := hid hf
  clear hf
  obtain ⟨x1, x2⟩ := x
  have hmix := mixed
  obtain ⟨A, c, hB, hG, hown⟩ := hT
  obtain ⟨n, HN⟩ : ∃ n, Hid ((keep k l).length = n) := ⟨_, hid rfl⟩
  have hnk : n ≤ k := by rw [← HN.out, keep_len]; omega
  rw [HN.out] at hB hown hG
  obtain ⟨hNr, hAc, hle, hmx⟩ := nears_own hown
  have b0 := Box.new w 29 x1 x2
  have L0 := lays_alloc w (.cells #[.int .i64 x1, .int .i64 x2] 29)
  have HAc := hid hAc
  clear hAc
  have hnk' : n < k := by rw [← HN.out]; exact HF.out
  have hq : ((n : Int) == (k : Int)) = false := by simp; omega
  have hlt : ¬ ((k : Int) < (n : Int) + 1) := by omega
  go_enter Try.func22, Try.ntmps22
  go_wp2
  have hB1 := hB.touch (touch_lays L0 []) (by simp)
  have hown1 := own_touch hown (touch_lays L0 []) (by simp)
  have hNr1 := hNr.lays L0 (Nat.le_refl _)
  obtain ⟨Bx, hBx⟩ : ∃ Bx, w.heap.size = Bx := ⟨_, rfl⟩
  have hTB : T < Bx := by rw [← hBx]; exact hB.lt
  rw [hBx] at b0 hNr1 ⊢
  have HBX := hid hBx
  have H0 := hid L0
  clear L0 hBx hB hown hNr
  generalize w.alloc (.cells #[.int .i64 x1, .int .i64 x2] 29) = wa at hB1 hown1 hNr1 b0 H0 ⊢
  have t0 : wa.cell? ⟨T, 0, none⟩ = some (.int .i64 k) := hB1.cell 0
  have t1 : wa.cell? ⟨T, 1, none⟩ = some (.slice A n c) := hB1.cell 1
  go_quiet (fail)
  have L1 := lays_drewN wa nq
  have HZ := hid (H0.out.trans L1)
  have bz := b0.lays L1
  have hBz := hB1.touch (touch_lays L1 []) (by simp)
  have hownz := own_touch hown1 (touch_lays L1 []) (by simp)
  have hNz := hNr1.lays L1 (by have := b0.2.2; omega)
  clear t0 t1 L1 hB1 hown1 hNr1 b0 H0
  generalize wa.drewN nq = wz at HZ bz hBz hownz hNz ⊢
  go_wp2
  obtain ⟨f0, f1, fB⟩ := bz
  have kz1 : wz.cell? ⟨T, 1, none⟩ = some (.slice A n c) := hBz.cell 1
  have kTz := hBz.lt
  have hsn := hNz
  have hord := keep_ord k l
  have hn6 : n ≤ 100000000 := by omega
  have hnx : wz.heap.size = wz.drew.heap.size := rfl
  have hTg : T + 1 ≤ wz.heap.size := kTz
  go_region_law (first
    | (go_simp; go_at_call 32; refine (rinto_any A n c (T + 1) Bx (keep k l) (x1, x2) _ (by exact hsn) HAc.out hle hmx (by exact Nat.le_of_lt fB) hn6 hord).mono ?_; rintro e w5 ⟨v5, rfl, own5, hb5⟩; obtain ⟨A5, c5, rfl⟩ := own_shape2 own5; have k5 := Blk.below (w := wz.drew) hBz hb5 kTz; have hc5 : w5.cell? ⟨T, 1, none⟩ = some (.slice A n c) := k5.cell 1; have hf5 := k5.frozen 1))
  all_goals
    have own5' : w5.ownsRow wz.heap.size 29 2 (.slice A5 (n + 1) c5) (n + 1) (NC (ins (keep k l) (x1, x2))) := own5
    have hb5' : Below wz.heap.size wz w5 := Below.trans (b := wz.drew) (lays_drewN wz 1).below hb5
    have k6 := k5.set 1 (.slice A5 (n + 1) c5)
    have t6 : w5.grownBy (w5.setCell ⟨T, 1, none⟩ (.slice A5 (n + 1) c5)) (some T) := only_set (World.grownBy.refl _ _) _ _
    have own6 : (w5.setCell ⟨T, 1, none⟩ (.slice A5 (n + 1) c5)).ownsRow wz.heap.size 29 2 (.slice A5 (n + 1) c5) (n + 1) (NC (ins (keep k l) (x1, x2))) := own_touch own5' (touch_grown (F := [T]) t6 (fun g hg => by injection hg with hg; simp [hg])) (fun g hg => by have := own5'.lt g hg; simp; omega)
    have T6 : Hid (Touch w (w5.setCell ⟨T, 1, none⟩ (.slice A5 (n + 1) c5)) [T]) := hid (((touch_lays HZ.out [T]).trans (touch_below hb5' rfl [T])).trans (touch_grown t6 (fun g hg => by injection hg with hg; simp [hg])))
    have hzs := HZ.out.below.size
    clear own5 own5' hb5 hb5' k5 t6 hc5 hf5 kz1 hsn
    generalize w5.setCell ⟨T, 1, none⟩ (.slice A5 (n + 1) c5) = w6 at k6 own6 T6 ⊢
    have hc0 : w6.cell? ⟨T, 0, none⟩ = some (.int .i64 k) := k6.cell 0
    have hc1 : w6.cell? ⟨T, 1, none⟩ = some (.slice A5 (n + 1) c5) := k6.cell 1
    go_wp2
    go_quiet (fail)
    go_wp2
    go_ret
    have hkeep := keep_room (k := k) (l := l) (x1, x2) (by rw [HN.out]; exact hnk')
    have hlen : (ins (keep k l) (x1, x2)).length = n + 1 := by rw [ins_len, HN.out]
    refine ⟨(Value.slice A5 (n + 1) c5).ownBlock, rfl, ⟨A5, c5, ?_, ?_, ?_⟩, ?_, T6.out.trans (touch_lays (lays_drewN w6 nq) _)⟩
    · rw [hkeep, hlen]; exact k6
    · rw [hkeep, hlen]
    · rw [hkeep, hlen]; exact own_base own6 (by omega)
    · cases hg : (Value.slice A5 (n + 1) c5).ownBlock with
      | none =>
        obtain ⟨hl, ⟨hv, _⟩ | ⟨g, cap, hv, _⟩⟩ := heap_of_own own6
        · injection hv with _ hv; omega
        · rw [hv] at hg; cases hg
      | some g => exact .inr ⟨g, rfl, Nat.le_trans hzs (own6.lt g hg).1⟩
end Go.Proofs.Ytdknjeikhdodeaa
