/-
  The walk of DiskNil.
-/
import Derived.Test.YtkadljomimpnjaaNilDone
namespace Go.Proofs.Ytkadljomimpnjaa
open Go.RowKit Go.Maps Dsk
theorem acts_one (a : Ar) (w' : World) (g : Nat) (hg : g < w'.heap.size) (hb : Blk w' g 43 #[.int .i64 a.kind, .int .i64 a.name, .int .i64 a.to, .int .i64 a.n, .slice a.ba a.bl a.bc, .slice a.ka a.kl a.kc]) (ha : Fine w' w'.heap.size a) :
    Acts w' w'.heap.size (some ⟨g, 0, none⟩) 1 [a] := by
  refine ⟨rfl, fun x hx => by simp at hx; subst hx; exact ha, fun _ => ⟨g, 0, rfl, hg, fun j x hj i v hv => ?_⟩⟩
  match j with
  | 0 =>
    simp at hj
    subst hj
    rw [show 0 + 0 * 6 + i = i by omega, hb.cell i]
    rw [← hv]
    unfold Ar.cells
    simp
  | j + 1 => simp at hj
theorem Fine.wide {w : World} {H H' : Nat} {a : Ar} (h : Fine w H a) (hH : H ≤ H') : Fine w H' a :=
  ⟨h.rb.wide (Nat.le_refl _) hH, h.nb, h.lb, h.rk.wide (Nat.le_refl _) hH, h.nk, h.lk, h.wk, h.w1, h.w2, h.w3, h.w4⟩
set_option maxHeartbeats 2000000 in
set_option maxRecDepth 20000 in
theorem nil_walk (a : Ar) (w : World) (ha : Fine w w.heap.size a) : Calls Try.prog 4 #[.agg a.cells.toArray] w fun e w' => e = .returned (.bool true) ∧ Below w.heap.size w w' := by
  have LV : Hid (∀ W : World, Calls Try.prog 8 #[] W fun e w' => e = .returned (.bool true) ∧ Below W.heap.size W w') := hid lives_any
  have HA := hid ha
  clear ha
  obtain ⟨w0, hw0⟩ : ∃ w0, w0 = w.alloc (.cells #[.int .i64 a.kind, .int .i64 a.name, .int .i64 a.to, .int .i64 a.n, .slice a.ba a.bl a.bc, .slice a.ka a.kl a.kc] 43) := ⟨_, rfl⟩
  have hs0 : w0.heap.size = w.heap.size + 1 := by rw [hw0]; simp
  have HB0 : Hid (Below w.heap.size w w0) := hid (by rw [hw0]; exact (Below.refl _ w).alloc (Nat.le_refl _) _)
  have HK0 : Hid (Blk w0 w.heap.size 43 #[.int .i64 a.kind, .int .i64 a.name, .int .i64 a.to, .int .i64 a.n, .slice a.ba a.bl a.bc, .slice a.ka a.kl a.kc]) := hid (by rw [hw0]; exact Blk.new w _ _)
  have HC : Hid (∀ W, Below w0.heap.size w0 W → Blk W w.heap.size 43 #[.int .i64 a.kind, .int .i64 a.name, .int .i64 a.to, .int .i64 a.n, .slice a.ba a.bl a.bc, .slice a.ka a.kl a.kc]) := hid fun W hW => HK0.out.below hW (by omega)
  have HU : Hid (∀ W, Below w0.heap.size w0 W → Below w.heap.size w W) := hid fun W hW => HB0.out.trans (hW.mono (by omega))
  have HW0 := hid hw0
  have HS0 := hid hs0
  clear hw0 hs0
  have hc : a.cells.toArray = #[.int .i64 a.kind, .int .i64 a.name, .int .i64 a.to, .int .i64 a.n, .slice a.ba a.bl a.bc, .slice a.ka a.kl a.kc] := rfl
  rw [hc]
  clear hc
  go_enter Try.func4, Try.ntmps4
  go_wp2_with fail
  rw [← HW0.out]
  refine (LV.out _).mono ?_
  rintro e w1 ⟨rfl, hb1⟩
  have B1 := HC.out w1 hb1
  have c0 := B1.cell 0
  have c1 := B1.cell 1
  have c2 := B1.cell 2
  have c3 := B1.cell 3
  have c4 := B1.cell 4
  have c5 := B1.cell 5
  simp at c0 c1 c2 c3 c4 c5
  have H1 := hid hb1
  clear B1 hb1
  go_wp2_with fail
  obtain ⟨w2, hw2⟩ : ∃ w2, w2 = w1.alloc (.cells #[.int .i64 a.kind, .int .i64 a.name, .int .i64 a.to, .int .i64 a.n, .slice a.ba a.bl a.bc, .slice a.ka a.kl a.kc] 43) := ⟨_, rfl⟩
  have H2 : Hid (Below w0.heap.size w0 w2) := hid (by rw [hw2]; exact H1.out.alloc H1.out.size _)
  have HF : Hid (∀ W, Below w0.heap.size w0 W → Fine W w.heap.size a) := hid fun W hW => HA.out.below (HU.out W hW)
  have hacts : Acts w2 w2.heap.size (some ⟨w1.heap.size, 0, none⟩) 1 [a] := by
    refine acts_one a w2 w1.heap.size (by rw [hw2]; simp) (by rw [hw2]; exact Blk.new w1 _ _) ((HF.out w2 H2.out).wide ?_)
    have := HS0.out
    have := H2.out.size
    omega
  rw [← hw2]
  clear hw2 c0 c1 c2 c3 c4 c5
  refine (light_any _ 1 1 _ [a] w2 hacts (by omega)).mono ?_
  rintro e w3 ⟨lb, rfl, hlight, rfl⟩
  cases lb
  case false =>
    go_wp2
    go_ret
    exact ⟨rfl, HU.out _ H2.out⟩
  have hbk := (hlight rfl).2 a (by simp)
  have HBK := hid hbk
  clear hlight hbk hacts
  have c1 := (HC.out w3 H2.out).cell 1
  simp at c1
  go_wp2_with fail
  refine (name_any a.name w3).mono ?_
  rintro e w4 ⟨rfl, hb4⟩
  have H4 := hid (H2.out.trans (hb4.mono H2.out.size))
  clear hb4 c1
  go_wp2_with fail
  refine (read_nil (nm a.name) w4).mono ?_
  rintro e w5 ⟨rfl, hb5⟩
  have H5 := hid (H4.out.trans (hb5.mono H4.out.size))
  clear hb5
  have B1 := HC.out w5 H5.out
  have c0 := B1.cell 0
  have c1 := B1.cell 1
  have c2 := B1.cell 2
  have c3 := B1.cell 3
  have c4 := B1.cell 4
  have c5 := B1.cell 5
  simp at c0 c1 c2 c3 c4 c5
  clear B1
  go_wp2_with fail
  refine (done_nil a w.heap.size (HU.out _ H5.out).size (HF.out _ H5.out) HBK.out.1 HBK.out.2).mono ?_
  rintro e w6 ⟨rfl, hb6⟩
  have H6 := hid (H5.out.trans (hb6.mono H5.out.size))
  clear hb6 c0 c1 c2 c3 c4 c5
  go_wp2_with fail
  refine (names_nil w6).mono ?_
  rintro e w7 ⟨rfl, hb7⟩
  have H7 := hid (H6.out.trans (hb7.mono H6.out.size))
  clear hb7
  go_wp2_with fail
  refine (size_nil _ w7).mono ?_
  rintro e w8 ⟨rfl, hb8⟩
  have H8 := hid (H7.out.trans (hb8.mono H7.out.size))
  clear hb8
  go_wp2_with fail
  refine (synced_nil _ w8).mono ?_
  rintro e w9 ⟨rfl, hb9⟩
  have H9 := hid (H8.out.trans (hb9.mono H8.out.size))
  clear hb9
  go_wp2_with fail
  refine (used_nil w9).mono ?_
  rintro e w10 ⟨rfl, hb10⟩
  have H10 := hid (H9.out.trans (hb10.mono H9.out.size))
  clear hb10
  go_wp2_with fail
  refine (room_nil w10).mono ?_
  rintro e w11 ⟨rfl, hb11⟩
  have H11 := hid (H10.out.trans (hb11.mono H10.out.size))
  clear hb11
  go_wp2_with fail
  refine (off_nil w11).mono ?_
  rintro e w12 ⟨rfl, hb12⟩
  have H12 := hid (H11.out.trans (hb12.mono H11.out.size))
  clear hb12
  go_wp2_with fail
  refine (clone_nil w12).mono ?_
  rintro e w13 ⟨rfl, hb13⟩
  have H13 := hid (H12.out.trans (hb13.mono H12.out.size))
  clear hb13
  go_wp2_with fail
  refine (same_nil w13).mono ?_
  rintro e w14 ⟨rfl, hb14⟩
  have H14 := hid (H13.out.trans (hb14.mono H13.out.size))
  clear hb14
  go_wp2
  go_ret
  exact ⟨rfl, HU.out _ H14.out⟩
end Go.Proofs.Ytkadljomimpnjaa
