/-
  Contract of an act on a disk: done.
-/
import Derived.Test.YtkadljomimpnjaaDone
namespace Go.Proofs.Ytkadljomimpnjaa
open Go.RowKit Go.Maps Dsk

def acOf (a : Ar) : Ac :=
  if a.kind % 8 = 0 ∨ a.kind % 8 = 1 then .app (nm a.name) a.b
  else if a.kind % 8 = 2 then .syn (nm a.name)
  else if a.kind % 8 = 3 then .ren (nm a.name) (nm a.to)
  else if a.kind % 8 = 4 then .rem (nm a.name)
  else if a.kind % 8 = 5 then .cut (nm a.name) a.n
  else if a.kind % 8 = 6 then .fus (fuseOf a.n)
  else .cra a.ks
theorem fuse_ok (n : Int) : fuseOf n ≤ 9223372036854775807 := by
  unfold fuseOf; split <;> omega
theorem ac_ok (a : Ar) : AcOk (acOf a) := by
  unfold acOf
  split
  · trivial
  · split
    · trivial
    · split
      · trivial
      · split
        · trivial
        · split
          · trivial
          · split
            · exact fuse_ok _
            · trivial
def Done (w : World) (d : Nat) (F : List Nat) (D : Dk) (a : Ar) (e : Ending) (w' : World) : Prop := Did0 w d F (act D (acOf a)) e w'
theorem Did0.later {w w1 : World} {d : Nat} {F : List Nat} {r : Int × Dk} {e : Ending} {w' : World} (h : Did0 w1 d F r e w') (hb : Below w.heap.size w w1) : Did0 w d F r e w' := by
  obtain ⟨he, F', hd, ht, hF⟩ := h
  exact ⟨he, F', hd, (touch_below hb F).then ht (fun i _ hi => hi), fun b hb' => (hF b hb').imp id (Nat.le_trans hb.size)⟩
theorem below_drew' {B : Nat} {a b : World} (h : Below B a.drew b) : Below B a b := ⟨h.os, h.tape, h.output, h.size, h.block⟩
theorem touch_drew' {F : List Nat} {a b : World} (h : Touch a.drew b F) : Touch a b F := ⟨h.os, h.tape, h.output, h.size, h.block⟩

section
variable {w : World} {d : Nat} {F : List Nat} {D : Dk} {k : Nat}
set_option maxHeartbeats 4000000 in
set_option maxRecDepth 20000 in
theorem done_act (h : DAt w d F D) (f : Fit D k) (hk : k < 100000) (a : Ar) (H : Nat) (hH : H ≤ w.heap.size) (ha : Fine w H a) (hbl : a.bl ≤ 120) (hkl : a.kl ≤ 120) :
    Calls Try.prog 26 #[ptr d, .agg a.cells.toArray] w (Done w d F D a) := by
  obtain ⟨w1, hw1⟩ : ∃ w1, w1 = w.alloc (.cells #[.int .i64 a.kind, .int .i64 a.name, .int .i64 a.to, .int .i64 a.n, .slice a.ba a.bl a.bc, .slice a.ka a.kl a.kc] 43) := ⟨_, rfl⟩
  have hb1 : Below w.heap.size w w1 := by rw [hw1]; exact (Below.refl _ w).alloc (Nat.le_refl _) _
  have hs1 : w1.heap.size = w.heap.size + 1 := by rw [hw1]; simp
  have hB : Blk w1 w.heap.size 43 #[.int .i64 a.kind, .int .i64 a.name, .int .i64 a.to, .int .i64 a.n, .slice a.ba a.bl a.bc, .slice a.ka a.kl a.kc] := by rw [hw1]; exact Blk.new w _ _
  have c0 := hB.cell 0
  have c1 := hB.cell 1
  have c2 := hB.cell 2
  have c3 := hB.cell 3
  have c4 := hB.cell 4
  have c5 := hB.cell 5
  simp at c0 c1 c2 c3 c4 c5
  have hc : a.cells.toArray = #[.int .i64 a.kind, .int .i64 a.name, .int .i64 a.to, .int .i64 a.n, .slice a.ba a.bl a.bc, .slice a.ka a.kl a.kc] := rfl
  have N1 : Hid (∀ (n : Int) (W : World), Calls Try.prog 25 #[.int .i64 n] W fun e w' => e = .returned (S (nm n)) ∧ Below W.heap.size W w') := hid fun n W => name_any n W
  have DW : Hid (∀ W, Below w.heap.size w W → DAt W d F D) := hid fun W hW => h.below hW
  have RB : Hid (∀ W, Below w.heap.size w W → Row W 0 H a.ba a.bl (U a.b)) := hid fun W hW => ha.rb.below hW hH
  have RK : Hid (∀ W, Below w.heap.size w W → Row W 0 H a.ka a.kl (I a.ks)) := hid fun W hW => ha.rk.below hW hH
  have HF := hid f
  have HFL : Hid (∀ b ∈ F, b < w.heap.size) := hid h.lt
  have HA := hid ha
  have HB := hid hB
  obtain ⟨q, hq, hm⟩ : ∃ q : Nat, q < 8 ∧ a.kind % 8 = (q : Int) := ⟨(a.kind % 8).toNat, by omega, by omega⟩
  have P1 : Hid (∀ W : World, Calls Try.prog 31 #[.int .i64 a.kind, .int .i64 8] W fun e w' => e = .returned (.int .i64 (q : Int)) ∧ w' = W) := hid fun W => (pick_at a.kind 8 q W (by omega) (by omega) hm).mono fun _ _ ⟨h, e⟩ => ⟨h, e.symm⟩
  have HM := hid hm
  have HC := hid c1
  have HC4 := hid c4
  have HW1 := hid hw1
  rw [hc]
  have hT : Touch w w1 [] := touch_below hb1 []
  have CK : Hid (∀ W, Below w1.heap.size w1 W → Blk W w.heap.size 43 #[.int .i64 a.kind, .int .i64 a.name, .int .i64 a.to, .int .i64 a.n, .slice a.ba a.bl a.bc, .slice a.ka a.kl a.kc]) := hid fun W hW => hB.below hW (by omega)
  have CT : Hid (∀ W W', Below w1.heap.size w1 W → Touch W W' F → Blk W' w.heap.size 43 #[.int .i64 a.kind, .int .i64 a.name, .int .i64 a.to, .int .i64 a.n, .slice a.ba a.bl a.bc, .slice a.ka a.kl a.kc]) := hid fun W W' hW hT => (hB.below hW (by omega)).touch hT (fun hm => by have := h.lt _ hm; omega)
  have UPS : Hid (∀ W, Below w1.heap.size w1 W → Below w.heap.size w W) := hid fun W hW => hb1.trans (hW.mono (by omega))
  have HS1 := hid hs1
  have HB1 := hid hb1
  have HH := hid hH
  have HBL := hid hbl
  have HKL := hid hkl
  have HK := hid hk
  clear hm h f ha hB hc c0 hw1 hT hs1 hH hbl hkl hk
  clear hb1
  unfold Done
  match q, hq with
  | 0, _ =>
    have hac : acOf a = .app (nm a.name) a.b := by unfold acOf; rw [if_pos (by rw [HM.out]; decide)]
    rw [hac]
    show Calls _ _ _ _ (Did0 w d F (dAppend D (nm a.name) a.b))
    clear hac
    go_enter Try.func26, Try.ntmps26
    go_wp2_with fail
    refine (P1.out _).mono ?_
    rintro e w' ⟨rfl, rfl⟩
    rw [← HW1.out]
    have K0 : ∀ W, Below w1.heap.size w1 W → W.cell? ⟨w.heap.size, 1, none⟩ = some (.int .i64 a.name) ∧ W.cell? ⟨w.heap.size, 4, none⟩ = some (.slice a.ba a.bl a.bc) := fun W hW => by
      have h1 := (CK.out W hW).cell 1
      have h2 := (CK.out W hW).cell 4
      simp at h1 h2
      exact ⟨h1, h2⟩
    have KT : ∀ W W', Below w1.heap.size w1 W → Touch W W' F → W'.cell? ⟨w.heap.size, 1, none⟩ = some (.int .i64 a.name) ∧ W'.cell? ⟨w.heap.size, 4, none⟩ = some (.slice a.ba a.bl a.bc) := fun W W' hW hT => by
      have h1 := (CT.out W W' hW hT).cell 1
      have h2 := (CT.out W W' hW hT).cell 4
      simp at h1 h2
      exact ⟨h1, h2⟩
    have K0 := hid K0
    have KT := hid KT
    go_wp2
    go_region_held3 (fun W => W.cell? ⟨w.heap.size, 1, none⟩ = some (.int .i64 a.name) ∧ W.cell? ⟨w.heap.size, 4, none⟩ = some (.slice a.ba a.bl a.bc))
      (first | exact ⟨c1, c4⟩ | exact K0.out _ hbw2' | exact K0.out _ hbw3' | exact KT.out _ _ hbw3' ht9')
      (first
        | (go_at_call 25; refine (N1.out a.name _).mono ?_; rintro e w2 ⟨rfl, hbw2⟩; have hbw2' : Below w1.heap.size w1 w2 := ⟨hbw2.os, hbw2.tape, hbw2.output, hbw2.size, hbw2.block⟩)
        | (go_at_call 51; refine (own_any a.ba a.bl a.bc 0 H a.b _ (by exact RB.out _ (UPS.out _ hbw2')) HA.out.nb (by exact Nat.le_trans HH.out (UPS.out _ hbw2').size) (by have := HBL.out; omega)).mono ?_; rintro e w3 ⟨A3, n3, c3, rfl, hn3, hA3, hown3, hbw3⟩; have hbw3' : Below w1.heap.size w1 w3 := hbw2'.trans (Below.mono (show Below w2.heap.size w2 w3 from ⟨hbw3.os, hbw3.tape, hbw3.output, hbw3.size, hbw3.block⟩) hbw2'.size))
        | (go_at_call 11; refine (at_append (by exact DW.out _ (UPS.out _ hbw3')) HF.out HK.out (nm a.name) (nm_len _) w3.heap.size A3 n3 c3 a.b (by exact own_arg hown3 (fun b hb => Nat.lt_of_lt_of_le (HFL.out b hb) (UPS.out _ hbw2').size))).mono ?_; rintro e w9 ⟨rfl, F9, hD9, ht9, hF9⟩; have ht9' : Touch w3 w9 F := ⟨ht9.os, ht9.tape, ht9.output, ht9.size, ht9.block⟩))
    go_wp2
    go_ret
    exact Did0.later ⟨rfl, F9, hD9, ht9', hF9⟩ (UPS.out _ hbw3')
  | 1, _ =>
    have hac : acOf a = .app (nm a.name) a.b := by unfold acOf; rw [if_pos (by rw [HM.out]; decide)]
    rw [hac]
    show Calls _ _ _ _ (Did0 w d F (dAppend D (nm a.name) a.b))
    clear hac
    go_enter Try.func26, Try.ntmps26
    go_wp2_with fail
    refine (P1.out _).mono ?_
    rintro e w' ⟨rfl, rfl⟩
    rw [← HW1.out]
    have K0 : ∀ W, Below w1.heap.size w1 W → W.cell? ⟨w.heap.size, 1, none⟩ = some (.int .i64 a.name) ∧ W.cell? ⟨w.heap.size, 4, none⟩ = some (.slice a.ba a.bl a.bc) := fun W hW => by
      have h1 := (CK.out W hW).cell 1
      have h2 := (CK.out W hW).cell 4
      simp at h1 h2
      exact ⟨h1, h2⟩
    have KT : ∀ W W', Below w1.heap.size w1 W → Touch W W' F → W'.cell? ⟨w.heap.size, 1, none⟩ = some (.int .i64 a.name) ∧ W'.cell? ⟨w.heap.size, 4, none⟩ = some (.slice a.ba a.bl a.bc) := fun W W' hW hT => by
      have h1 := (CT.out W W' hW hT).cell 1
      have h2 := (CT.out W W' hW hT).cell 4
      simp at h1 h2
      exact ⟨h1, h2⟩
    have K0 := hid K0
    have KT := hid KT
    go_wp2
    go_region_held3 (fun W => W.cell? ⟨w.heap.size, 1, none⟩ = some (.int .i64 a.name) ∧ W.cell? ⟨w.heap.size, 4, none⟩ = some (.slice a.ba a.bl a.bc))
      (first | exact ⟨c1, c4⟩ | exact K0.out _ hbw2' | exact K0.out _ hbw3' | exact KT.out _ _ hbw3' ht9')
      (first
        | (go_at_call 25; refine (N1.out a.name _).mono ?_; rintro e w2 ⟨rfl, hbw2⟩; have hbw2' : Below w1.heap.size w1 w2 := ⟨hbw2.os, hbw2.tape, hbw2.output, hbw2.size, hbw2.block⟩)
        | (go_at_call 51; refine (own_any a.ba a.bl a.bc 0 H a.b _ (by exact RB.out _ (UPS.out _ hbw2')) HA.out.nb (by exact Nat.le_trans HH.out (UPS.out _ hbw2').size) (by have := HBL.out; omega)).mono ?_; rintro e w3 ⟨A3, n3, c3, rfl, hn3, hA3, hown3, hbw3⟩; have hbw3' : Below w1.heap.size w1 w3 := hbw2'.trans (Below.mono (show Below w2.heap.size w2 w3 from ⟨hbw3.os, hbw3.tape, hbw3.output, hbw3.size, hbw3.block⟩) hbw2'.size))
        | (go_at_call 11; refine (at_append (by exact DW.out _ (UPS.out _ hbw3')) HF.out HK.out (nm a.name) (nm_len _) w3.heap.size A3 n3 c3 a.b (by exact own_arg hown3 (fun b hb => Nat.lt_of_lt_of_le (HFL.out b hb) (UPS.out _ hbw2').size))).mono ?_; rintro e w9 ⟨rfl, F9, hD9, ht9, hF9⟩; have ht9' : Touch w3 w9 F := ⟨ht9.os, ht9.tape, ht9.output, ht9.size, ht9.block⟩))
    go_wp2
    go_ret
    exact Did0.later ⟨rfl, F9, hD9, ht9', hF9⟩ (UPS.out _ hbw3')
  | 2, _ =>
    have hac : acOf a = .syn (nm a.name) := by unfold acOf; rw [if_neg (by rw [HM.out]; decide), if_pos (by rw [HM.out]; decide)]
    rw [hac]
    show Calls _ _ _ _ (Did0 w d F (dSync D (nm a.name)))
    clear hac
    go_enter Try.func26, Try.ntmps26
    go_wp2_with fail
    refine (P1.out _).mono ?_
    rintro e w' ⟨rfl, rfl⟩
    rw [← HW1.out]
    go_wp2_with fail
    refine (N1.out _ _).mono ?_
    rintro e w2 ⟨rfl, hb2⟩
    have hb02 := UPS.out _ hb2
    go_wp2_with fail
    refine (at_sync (DW.out _ hb02) HF.out _ (nm_len _)).mono ?_
    intro e w3 hd
    have hd2 := hd.later hb02
    clear hd
    obtain ⟨rfl, hd2⟩ := hd2
    go_wp2
    go_ret
    exact ⟨rfl, hd2⟩
  | 3, _ =>
    have hac : acOf a = .ren (nm a.name) (nm a.to) := by unfold acOf; rw [if_neg (by rw [HM.out]; decide), if_neg (by rw [HM.out]; decide), if_pos (by rw [HM.out]; decide)]
    rw [hac]
    show Calls _ _ _ _ (Did0 w d F (dRename D (nm a.name) (nm a.to)))
    clear hac
    go_enter Try.func26, Try.ntmps26
    go_wp2_with fail
    refine (P1.out _).mono ?_
    rintro e w' ⟨rfl, rfl⟩
    rw [← HW1.out]
    have K0 : ∀ W, Below w1.heap.size w1 W → W.cell? ⟨w.heap.size, 1, none⟩ = some (.int .i64 a.name) ∧ W.cell? ⟨w.heap.size, 2, none⟩ = some (.int .i64 a.to) := fun W hW => by
      have h1 := (CK.out W hW).cell 1
      have h2 := (CK.out W hW).cell 2
      simp at h1 h2
      exact ⟨h1, h2⟩
    have KT : ∀ W W', Below w1.heap.size w1 W → Touch W W' F → W'.cell? ⟨w.heap.size, 1, none⟩ = some (.int .i64 a.name) ∧ W'.cell? ⟨w.heap.size, 2, none⟩ = some (.int .i64 a.to) := fun W W' hW hT => by
      have h1 := (CT.out W W' hW hT).cell 1
      have h2 := (CT.out W W' hW hT).cell 2
      simp at h1 h2
      exact ⟨h1, h2⟩
    have K0 := hid K0
    have KT := hid KT
    go_wp2
    go_region_held3 (fun W => W.cell? ⟨w.heap.size, 1, none⟩ = some (.int .i64 a.name) ∧ W.cell? ⟨w.heap.size, 2, none⟩ = some (.int .i64 a.to))
      (first | exact ⟨c1, c2⟩ | exact K0.out _ hbw2' | exact K0.out _ hbw3' | exact KT.out _ _ hbw3' ht9')
      (first
        | (go_at_call 25; refine (N1.out a.name _).mono ?_; rintro e w2 ⟨rfl, hbw2⟩; have hbw2' : Below w1.heap.size w1 w2 := ⟨hbw2.os, hbw2.tape, hbw2.output, hbw2.size, hbw2.block⟩)
        | (go_at_call 25; refine (N1.out a.to _).mono ?_; rintro e w3 ⟨rfl, hbw3⟩; have hbw3' : Below w1.heap.size w1 w3 := hbw2'.trans (Below.mono (show Below w2.heap.size w2 w3 from ⟨hbw3.os, hbw3.tape, hbw3.output, hbw3.size, hbw3.block⟩) hbw2'.size))
        | (go_at_call 16; refine (at_rename (by exact DW.out _ (UPS.out _ hbw3')) HF.out HK.out (nm a.name) (nm a.to) (nm_len _) (nm_len _)).mono ?_; rintro e w9 ⟨rfl, F9, hD9, ht9, hF9⟩; have ht9' : Touch w3 w9 F := ⟨ht9.os, ht9.tape, ht9.output, ht9.size, ht9.block⟩))
    go_wp2
    go_ret
    exact Did0.later ⟨rfl, F9, hD9, ht9', hF9⟩ (UPS.out _ hbw3')
  | 4, _ =>
    have hac : acOf a = .rem (nm a.name) := by unfold acOf; rw [if_neg (by rw [HM.out]; decide), if_neg (by rw [HM.out]; decide), if_neg (by rw [HM.out]; decide), if_pos (by rw [HM.out]; decide)]
    rw [hac]
    show Calls _ _ _ _ (Did0 w d F (dDelete D (nm a.name)))
    clear hac
    go_enter Try.func26, Try.ntmps26
    go_wp2_with fail
    refine (P1.out _).mono ?_
    rintro e w' ⟨rfl, rfl⟩
    rw [← HW1.out]
    go_wp2_with fail
    refine (N1.out _ _).mono ?_
    rintro e w2 ⟨rfl, hb2⟩
    have hb02 := UPS.out _ hb2
    go_wp2_with fail
    refine (at_delete (DW.out _ hb02) HF.out _ (nm_len _)).mono ?_
    intro e w3 hd
    have hd2 := hd.later hb02
    clear hd
    obtain ⟨rfl, hd2⟩ := hd2
    go_wp2
    go_ret
    exact ⟨rfl, hd2⟩
  | 5, _ =>
    have hac : acOf a = .cut (nm a.name) a.n := by unfold acOf; rw [if_neg (by rw [HM.out]; decide), if_neg (by rw [HM.out]; decide), if_neg (by rw [HM.out]; decide), if_neg (by rw [HM.out]; decide), if_pos (by rw [HM.out]; decide)]
    rw [hac]
    show Calls _ _ _ _ (Did0 w d F (dCut D (nm a.name) a.n))
    clear hac
    go_enter Try.func26, Try.ntmps26
    go_wp2_with fail
    refine (P1.out _).mono ?_
    rintro e w' ⟨rfl, rfl⟩
    rw [← HW1.out]
    have K0 : ∀ W, Below w1.heap.size w1 W → W.cell? ⟨w.heap.size, 1, none⟩ = some (.int .i64 a.name) ∧ W.cell? ⟨w.heap.size, 3, none⟩ = some (.int .i64 a.n) := fun W hW => by
      have h1 := (CK.out W hW).cell 1
      have h2 := (CK.out W hW).cell 3
      simp at h1 h2
      exact ⟨h1, h2⟩
    have KT : ∀ W W', Below w1.heap.size w1 W → Touch W W' F → W'.cell? ⟨w.heap.size, 1, none⟩ = some (.int .i64 a.name) ∧ W'.cell? ⟨w.heap.size, 3, none⟩ = some (.int .i64 a.n) := fun W W' hW hT => by
      have h1 := (CT.out W W' hW hT).cell 1
      have h2 := (CT.out W W' hW hT).cell 3
      simp at h1 h2
      exact ⟨h1, h2⟩
    have K0 := hid K0
    have KT := hid KT
    go_wp2
    go_region_held3 (fun W => W.cell? ⟨w.heap.size, 1, none⟩ = some (.int .i64 a.name) ∧ W.cell? ⟨w.heap.size, 3, none⟩ = some (.int .i64 a.n))
      (first | exact ⟨c1, c3⟩ | exact K0.out _ hbw2' | exact KT.out _ _ hbw2' ht9')
      (first
        | (go_at_call 25; refine (N1.out a.name _).mono ?_; rintro e w2 ⟨rfl, hbw2⟩; have hbw2' : Below w1.heap.size w1 w2 := ⟨hbw2.os, hbw2.tape, hbw2.output, hbw2.size, hbw2.block⟩)
        | (go_at_call 17; refine (at_cut (by exact DW.out _ (UPS.out _ hbw2')) HF.out (nm a.name) a.n (nm_len _)).mono ?_; rintro e w9 ⟨rfl, F9, hD9, ht9, hF9⟩; have ht9' : Touch w2 w9 F := ⟨ht9.os, ht9.tape, ht9.output, ht9.size, ht9.block⟩))
    go_wp2
    go_ret
    exact Did0.later ⟨rfl, F9, hD9, ht9', hF9⟩ (UPS.out _ hbw2')
  | 6, _ =>
    have hac : acOf a = .fus (fuseOf a.n) := by unfold acOf; rw [if_neg (by rw [HM.out]; decide), if_neg (by rw [HM.out]; decide), if_neg (by rw [HM.out]; decide), if_neg (by rw [HM.out]; decide), if_neg (by rw [HM.out]; decide), if_pos (by rw [HM.out]; decide)]
    rw [hac]
    show Calls _ _ _ _ (Did0 w d F (dFuse D (fuseOf a.n)))
    clear hac
    go_enter Try.func26, Try.ntmps26
    go_wp2_with fail
    refine (P1.out _).mono ?_
    rintro e w' ⟨rfl, rfl⟩
    have FU : Hid (∀ W : World, Calls Try.prog 52 #[.agg #[.int .i64 a.kind, .int .i64 a.name, .int .i64 a.to, .int .i64 a.n, .slice a.ba a.bl a.bc, .slice a.ka a.kl a.kc]] W fun e w' => e = .returned (.int .i64 (fuseOf a.n)) ∧ Below W.heap.size W w') := hid fun W => fuse_any a W HA.out.w4
    go_wp2_with fail
    rw [← HW1.out]
    refine (FU.out _).mono ?_
    rintro e w2 ⟨rfl, hb2⟩
    have hb02 := UPS.out _ hb2
    go_wp2_with fail
    refine (at_fuse (DW.out _ hb02) _).mono ?_
    intro e w3 hd
    have hd2 := hd.later hb02
    clear hd
    obtain ⟨rfl, hd2⟩ := hd2
    go_wp2
    go_ret
    exact ⟨rfl, hd2⟩
  | 7, _ =>
    have hac : acOf a = .cra a.ks := by unfold acOf; rw [if_neg (by rw [HM.out]; decide), if_neg (by rw [HM.out]; decide), if_neg (by rw [HM.out]; decide), if_neg (by rw [HM.out]; decide), if_neg (by rw [HM.out]; decide), if_neg (by rw [HM.out]; decide)]
    rw [hac]
    show Calls _ _ _ _ (Did0 w d F (dCrash D a.ks))
    clear hac
    go_enter Try.func26, Try.ntmps26
    go_wp2_with fail
    refine (P1.out _).mono ?_
    rintro e w' ⟨rfl, rfl⟩
    rw [← HW1.out]
    go_wp2_with fail
    refine (own_ints a.ka a.kl a.kc 0 H a.ks _ (RK.out _ HB1.out) HA.out.nk (Nat.le_trans HH.out HB1.out.size) (by have := HKL.out; omega)).mono ?_
    rintro e w2 ⟨A3, n3, c9, rfl, hn3, hA3, hown3, hb2⟩
    have hb02 := UPS.out _ hb2
    have ARG := hid (own_arg hown3 (fun b hb => Nat.lt_of_lt_of_le (HFL.out b hb) HB1.out.size))
    clear hown3
    go_wp2_with fail
    refine (at_crash (DW.out _ hb02) HF.out HK.out _ A3 n3 c9 a.ks ARG.out HA.out.wk).mono ?_
    intro e w3 hd
    have hd2 := hd.later hb02
    clear hd
    obtain ⟨rfl, hd2⟩ := hd2
    go_wp2
    go_ret
    exact ⟨rfl, hd2⟩
end
end Go.Proofs.Ytkadljomimpnjaa
