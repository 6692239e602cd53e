/-
  An act on a disk that nobody made; the walk of DiskNil.
-/
import Derived.Test.YtkadljomimpnjaaNil6
namespace Go.Proofs.Ytkadljomimpnjaa
open Go.RowKit Go.Maps Dsk
set_option maxHeartbeats 4000000 in
set_option maxRecDepth 20000 in
theorem done_nil {w : World} (a : Ar) (H : Nat) (hH : H ≤ w.heap.size) (ha : Fine w H a) (hbl : a.bl ≤ 120) (hkl : a.kl ≤ 120) :
    Calls Try.prog 26 #[.pointer none, .agg a.cells.toArray] w fun e w' => e = .returned (.int .i64 1) ∧ Below w.heap.size w w' := by
  obtain ⟨w1, hw1⟩ : ∃ w1, w1 = w.alloc (.cells #[.int .i64 a.kind, .int .i64 a.name, .int .i64 a.to, .int .i64 a.n, .slice a.ba a.bl a.bc, .slice a.ka a.kl a.kc] 43) := ⟨_, rfl⟩
  have hb1 : Below w.heap.size w w1 := by rw [hw1]; exact (Below.refl _ w).alloc (Nat.le_refl _) _
  have hs1 : w1.heap.size = w.heap.size + 1 := by rw [hw1]; simp
  have hB : Blk w1 w.heap.size 43 #[.int .i64 a.kind, .int .i64 a.name, .int .i64 a.to, .int .i64 a.n, .slice a.ba a.bl a.bc, .slice a.ka a.kl a.kc] := by rw [hw1]; exact Blk.new w _ _
  have c0 := hB.cell 0
  have c1 := hB.cell 1
  have c2 := hB.cell 2
  have c3 := hB.cell 3
  have c4 := hB.cell 4
  have c5 := hB.cell 5
  simp at c0 c1 c2 c3 c4 c5
  have hc : a.cells.toArray = #[.int .i64 a.kind, .int .i64 a.name, .int .i64 a.to, .int .i64 a.n, .slice a.ba a.bl a.bc, .slice a.ka a.kl a.kc] := rfl
  have N1 : Hid (∀ (n : Int) (W : World), Calls Try.prog 25 #[.int .i64 n] W fun e w' => e = .returned (S (nm n)) ∧ Below W.heap.size W w') := hid fun n W => name_any n W
  have RB : Hid (∀ W, Below w.heap.size w W → Row W 0 H a.ba a.bl (U a.b)) := hid fun W hW => ha.rb.below hW hH
  have RK : Hid (∀ W, Below w.heap.size w W → Row W 0 H a.ka a.kl (I a.ks)) := hid fun W hW => ha.rk.below hW hH
  have HA := hid ha
  have HB := hid hB
  obtain ⟨q, hq, hm⟩ : ∃ q : Nat, q < 8 ∧ a.kind % 8 = (q : Int) := ⟨(a.kind % 8).toNat, by omega, by omega⟩
  have P1 : Hid (∀ W : World, Calls Try.prog 31 #[.int .i64 a.kind, .int .i64 8] W fun e w' => e = .returned (.int .i64 (q : Int)) ∧ w' = W) := hid fun W => (pick_at a.kind 8 q W (by omega) (by omega) hm).mono fun _ _ ⟨h, e⟩ => ⟨h, e.symm⟩
  have HM := hid hm
  have HC := hid c1
  have HC4 := hid c4
  have HW1 := hid hw1
  rw [hc]
  have hT : Touch w w1 [] := touch_below hb1 []
  have CK : Hid (∀ W, Below w1.heap.size w1 W → Blk W w.heap.size 43 #[.int .i64 a.kind, .int .i64 a.name, .int .i64 a.to, .int .i64 a.n, .slice a.ba a.bl a.bc, .slice a.ka a.kl a.kc]) := hid fun W hW => hB.below hW (by omega)
  have UPS : Hid (∀ W, Below w1.heap.size w1 W → Below w.heap.size w W) := hid fun W hW => hb1.trans (hW.mono (by omega))
  have HS1 := hid hs1
  have HB1 := hid hb1
  have HH := hid hH
  have HBL := hid hbl
  have HKL := hid hkl
  clear hm ha hB hc c0 hw1 hT hs1 hH hbl hkl
  clear hb1
  match q, hq with
  | 0, _ =>
    go_enter Try.func26, Try.ntmps26
    go_wp2_with fail
    refine (P1.out _).mono ?_
    rintro e w' ⟨rfl, rfl⟩
    rw [← HW1.out]
    have K0 : ∀ W, Below w1.heap.size w1 W → W.cell? ⟨w.heap.size, 1, none⟩ = some (.int .i64 a.name) ∧ W.cell? ⟨w.heap.size, 4, none⟩ = some (.slice a.ba a.bl a.bc) := fun W hW => by
      have h1 := (CK.out W hW).cell 1
      have h2 := (CK.out W hW).cell 4
      simp at h1 h2
      exact ⟨h1, h2⟩
    have K0 := hid K0
    go_wp2
    go_region_held3 (fun W => W.cell? ⟨w.heap.size, 1, none⟩ = some (.int .i64 a.name) ∧ W.cell? ⟨w.heap.size, 4, none⟩ = some (.slice a.ba a.bl a.bc))
      (first | exact ⟨c1, c4⟩ | exact K0.out _ hbw2' | exact K0.out _ hbw3' | exact K0.out _ hbw9')
      (first
        | (go_at_call 25; refine (N1.out a.name _).mono ?_; rintro e w2 ⟨rfl, hbw2⟩; have hbw2' : Below w1.heap.size w1 w2 := ⟨hbw2.os, hbw2.tape, hbw2.output, hbw2.size, hbw2.block⟩)
        | (go_at_call 51; refine (own_any a.ba a.bl a.bc 0 H a.b _ (by exact RB.out _ (UPS.out _ hbw2')) HA.out.nb (by exact Nat.le_trans HH.out (UPS.out _ hbw2').size) (by have := HBL.out; omega)).mono ?_; rintro e w3 ⟨A3, n3, c3, rfl, hn3, hA3, hown3, hbw3⟩; have hbw3' : Below w1.heap.size w1 w3 := hbw2'.trans (Below.mono (show Below w2.heap.size w2 w3 from ⟨hbw3.os, hbw3.tape, hbw3.output, hbw3.size, hbw3.block⟩) hbw2'.size))
        | (go_at_call 11; refine (append_nil (nm a.name) A3 n3 c3 _).mono ?_; rintro e w9 ⟨rfl, hbw9⟩; have hbw9' : Below w1.heap.size w1 w9 := hbw3'.trans (Below.mono (show Below w3.heap.size w3 w9 from ⟨hbw9.os, hbw9.tape, hbw9.output, hbw9.size, hbw9.block⟩) hbw3'.size)))
    go_wp2
    go_ret
    exact ⟨rfl, UPS.out _ hbw9'⟩
  | 1, _ =>
    go_enter Try.func26, Try.ntmps26
    go_wp2_with fail
    refine (P1.out _).mono ?_
    rintro e w' ⟨rfl, rfl⟩
    rw [← HW1.out]
    have K0 : ∀ W, Below w1.heap.size w1 W → W.cell? ⟨w.heap.size, 1, none⟩ = some (.int .i64 a.name) ∧ W.cell? ⟨w.heap.size, 4, none⟩ = some (.slice a.ba a.bl a.bc) := fun W hW => by
      have h1 := (CK.out W hW).cell 1
      have h2 := (CK.out W hW).cell 4
      simp at h1 h2
      exact ⟨h1, h2⟩
    have K0 := hid K0
    go_wp2
    go_region_held3 (fun W => W.cell? ⟨w.heap.size, 1, none⟩ = some (.int .i64 a.name) ∧ W.cell? ⟨w.heap.size, 4, none⟩ = some (.slice a.ba a.bl a.bc))
      (first | exact ⟨c1, c4⟩ | exact K0.out _ hbw2' | exact K0.out _ hbw3' | exact K0.out _ hbw9')
      (first
        | (go_at_call 25; refine (N1.out a.name _).mono ?_; rintro e w2 ⟨rfl, hbw2⟩; have hbw2' : Below w1.heap.size w1 w2 := ⟨hbw2.os, hbw2.tape, hbw2.output, hbw2.size, hbw2.block⟩)
        | (go_at_call 51; refine (own_any a.ba a.bl a.bc 0 H a.b _ (by exact RB.out _ (UPS.out _ hbw2')) HA.out.nb (by exact Nat.le_trans HH.out (UPS.out _ hbw2').size) (by have := HBL.out; omega)).mono ?_; rintro e w3 ⟨A3, n3, c3, rfl, hn3, hA3, hown3, hbw3⟩; have hbw3' : Below w1.heap.size w1 w3 := hbw2'.trans (Below.mono (show Below w2.heap.size w2 w3 from ⟨hbw3.os, hbw3.tape, hbw3.output, hbw3.size, hbw3.block⟩) hbw2'.size))
        | (go_at_call 11; refine (append_nil (nm a.name) A3 n3 c3 _).mono ?_; rintro e w9 ⟨rfl, hbw9⟩; have hbw9' : Below w1.heap.size w1 w9 := hbw3'.trans (Below.mono (show Below w3.heap.size w3 w9 from ⟨hbw9.os, hbw9.tape, hbw9.output, hbw9.size, hbw9.block⟩) hbw3'.size)))
    go_wp2
    go_ret
    exact ⟨rfl, UPS.out _ hbw9'⟩
  | 2, _ =>
    go_enter Try.func26, Try.ntmps26
    go_wp2_with fail
    refine (P1.out _).mono ?_
    rintro e w' ⟨rfl, rfl⟩
    rw [← HW1.out]
    go_wp2_with fail
    refine (N1.out _ _).mono ?_
    rintro e w2 ⟨rfl, hb2⟩
    have hb02 := UPS.out _ hb2
    go_wp2_with fail
    refine (sync_nil _ _).mono ?_
    rintro e w3 ⟨rfl, hb3⟩
    go_wp2
    go_ret
    exact ⟨rfl, hb02.trans (hb3.mono hb02.size)⟩
  | 3, _ =>
    go_enter Try.func26, Try.ntmps26
    go_wp2_with fail
    refine (P1.out _).mono ?_
    rintro e w' ⟨rfl, rfl⟩
    rw [← HW1.out]
    have K0 : ∀ W, Below w1.heap.size w1 W → W.cell? ⟨w.heap.size, 1, none⟩ = some (.int .i64 a.name) ∧ W.cell? ⟨w.heap.size, 2, none⟩ = some (.int .i64 a.to) := fun W hW => by
      have h1 := (CK.out W hW).cell 1
      have h2 := (CK.out W hW).cell 2
      simp at h1 h2
      exact ⟨h1, h2⟩
    have K0 := hid K0
    go_wp2
    go_region_held3 (fun W => W.cell? ⟨w.heap.size, 1, none⟩ = some (.int .i64 a.name) ∧ W.cell? ⟨w.heap.size, 2, none⟩ = some (.int .i64 a.to))
      (first | exact ⟨c1, c2⟩ | exact K0.out _ hbw2' | exact K0.out _ hbw3' | exact K0.out _ hbw9')
      (first
        | (go_at_call 25; refine (N1.out a.name _).mono ?_; rintro e w2 ⟨rfl, hbw2⟩; have hbw2' : Below w1.heap.size w1 w2 := ⟨hbw2.os, hbw2.tape, hbw2.output, hbw2.size, hbw2.block⟩)
        | (go_at_call 25; refine (N1.out a.to _).mono ?_; rintro e w3 ⟨rfl, hbw3⟩; have hbw3' : Below w1.heap.size w1 w3 := hbw2'.trans (Below.mono (show Below w2.heap.size w2 w3 from ⟨hbw3.os, hbw3.tape, hbw3.output, hbw3.size, hbw3.block⟩) hbw2'.size))
        | (go_at_call 16; refine (rename_nil (nm a.name) (nm a.to) _).mono ?_; rintro e w9 ⟨rfl, hbw9⟩; have hbw9' : Below w1.heap.size w1 w9 := hbw3'.trans (Below.mono (show Below w3.heap.size w3 w9 from ⟨hbw9.os, hbw9.tape, hbw9.output, hbw9.size, hbw9.block⟩) hbw3'.size)))
    go_wp2
    go_ret
    exact ⟨rfl, UPS.out _ hbw9'⟩
  | 4, _ =>
    go_enter Try.func26, Try.ntmps26
    go_wp2_with fail
    refine (P1.out _).mono ?_
    rintro e w' ⟨rfl, rfl⟩
    rw [← HW1.out]
    go_wp2_with fail
    refine (N1.out _ _).mono ?_
    rintro e w2 ⟨rfl, hb2⟩
    have hb02 := UPS.out _ hb2
    go_wp2_with fail
    refine (delete_nil _ _).mono ?_
    rintro e w3 ⟨rfl, hb3⟩
    go_wp2
    go_ret
    exact ⟨rfl, hb02.trans (hb3.mono hb02.size)⟩
  | 5, _ =>
    go_enter Try.func26, Try.ntmps26
    go_wp2_with fail
    refine (P1.out _).mono ?_
    rintro e w' ⟨rfl, rfl⟩
    rw [← HW1.out]
    have K0 : ∀ W, Below w1.heap.size w1 W → W.cell? ⟨w.heap.size, 1, none⟩ = some (.int .i64 a.name) ∧ W.cell? ⟨w.heap.size, 3, none⟩ = some (.int .i64 a.n) := fun W hW => by
      have h1 := (CK.out W hW).cell 1
      have h2 := (CK.out W hW).cell 3
      simp at h1 h2
      exact ⟨h1, h2⟩
    have K0 := hid K0
    go_wp2
    go_region_held3 (fun W => W.cell? ⟨w.heap.size, 1, none⟩ = some (.int .i64 a.name) ∧ W.cell? ⟨w.heap.size, 3, none⟩ = some (.int .i64 a.n))
      (first | exact ⟨c1, c3⟩ | exact K0.out _ hbw2' | exact K0.out _ hbw9')
      (first
        | (go_at_call 25; refine (N1.out a.name _).mono ?_; rintro e w2 ⟨rfl, hbw2⟩; have hbw2' : Below w1.heap.size w1 w2 := ⟨hbw2.os, hbw2.tape, hbw2.output, hbw2.size, hbw2.block⟩)
        | (go_at_call 17; refine (cut_nil (nm a.name) a.n _).mono ?_; rintro e w9 ⟨rfl, hbw9⟩; have hbw9' : Below w1.heap.size w1 w9 := hbw2'.trans (Below.mono (show Below w2.heap.size w2 w9 from ⟨hbw9.os, hbw9.tape, hbw9.output, hbw9.size, hbw9.block⟩) hbw2'.size)))
    go_wp2
    go_ret
    exact ⟨rfl, UPS.out _ hbw9'⟩
  | 6, _ =>
    go_enter Try.func26, Try.ntmps26
    go_wp2_with fail
    refine (P1.out _).mono ?_
    rintro e w' ⟨rfl, rfl⟩
    have FU : Hid (∀ W : World, Calls Try.prog 52 #[.agg #[.int .i64 a.kind, .int .i64 a.name, .int .i64 a.to, .int .i64 a.n, .slice a.ba a.bl a.bc, .slice a.ka a.kl a.kc]] W fun e w' => e = .returned (.int .i64 (fuseOf a.n)) ∧ Below W.heap.size W w') := hid fun W => fuse_any a W HA.out.w4
    go_wp2_with fail
    rw [← HW1.out]
    refine (FU.out _).mono ?_
    rintro e w2 ⟨rfl, hb2⟩
    have hb02 := UPS.out _ hb2
    go_wp2_with fail
    refine (fuse_nil _ _).mono ?_
    rintro e w3 ⟨rfl, hb3⟩
    go_wp2
    go_ret
    exact ⟨rfl, hb02.trans (hb3.mono hb02.size)⟩
  | 7, _ =>
    go_enter Try.func26, Try.ntmps26
    go_wp2_with fail
    refine (P1.out _).mono ?_
    rintro e w' ⟨rfl, rfl⟩
    rw [← HW1.out]
    go_wp2_with fail
    refine (own_ints a.ka a.kl a.kc 0 H a.ks _ (RK.out _ HB1.out) HA.out.nk (Nat.le_trans HH.out HB1.out.size) (by have := HKL.out; omega)).mono ?_
    rintro e w2 ⟨A3, n3, c9, rfl, hn3, hA3, hown3, hb2⟩
    have hb02 := UPS.out _ hb2
    clear hown3
    go_wp2_with fail
    refine (crash_nil _ _ _ _).mono ?_
    rintro e w3 ⟨rfl, hb3⟩
    go_wp2
    go_ret
    exact ⟨rfl, hb02.trans (hb3.mono hb02.size)⟩

end Go.Proofs.Ytkadljomimpnjaa
