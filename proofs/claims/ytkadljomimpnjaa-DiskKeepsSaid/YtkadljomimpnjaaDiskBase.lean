/-
  Contracts of the program's own helpers of a disk: whether it was made, what is wrong with names, the fuse, finding a file.
-/
import Derived.Test.YtkadljomimpnjaaFiles
import Derived.Test.YtkadljomimpnjaaIndexFunc
import Derived.Deep.RegionHeld3
import Derived.OwnWalk
import Derived.Laws.Cover3
namespace Go.Proofs.Ytkadljomimpnjaa
open Go.RowKit Go.Maps Go.Shelf Dsk

theorem eql_map_nil (w : World) (m : Option Nat) : (binOp .eql 59 (.map m) (.map none)).run Try.prog w = .ok (.bool m.isNone) w := by
  simp only [binOp]
  simp [run_equal_map_nil w 59 _ _ m Try.underlying59]
section
variable {w : World} {d M : Nat} {Dm : DataW Unit} {gb : Nm → Nat} {hb : Nm → Option Nat} {F : List Nat} {D : Dk}
theorem unmade_any (h : DM w d M Dm gb hb F D) : Calls Try.prog 33 #[ptr d] w fun e w' => e = .returned (.bool false) ∧ w' = w := by
  have hc := h.blk.cell 0
  simp at hc
  clear h
  have heq := eql_map_nil w (some M)
  go_enter Try.func33, Try.ntmps33
  go_wp2_with fail
  go_ret
  exact ⟨rfl, rfl⟩
def wrong (D : Dk) (l : List Nm) : Int := if D.off then 9 else if l.all okN then 0 else 2
theorem refusal_any (h : DM w d M Dm gb hb F D) (A : Option Addr) (k c lo up : Nat) (l : List Nm) (hl : ∀ n ∈ l, n.length ≤ 1000) (hR : Row w lo up A k (Ss l)) (hup : up ≤ w.heap.size) (hk : k ≤ 1000) :
    Calls Try.prog 34 #[ptr d, .slice A k c] w fun e w' => e = .returned (.int .i64 (wrong D l)) ∧ Below w.heap.size w w' := by
  have W1 := hid (unmade_any h)
  have W2 := hid (allnames_any A k c lo up l hl w hR hup hk)
  have hc := h.blk.cell 3
  simp at hc
  have HW : Hid (wrong D l = if D.off then 9 else if l.all okN then 0 else 2) := hid rfl
  clear h hR
  generalize wrong D l = r at *
  generalize D.off = off at *
  generalize l.all okN = q at *
  go_enter Try.func34, Try.ntmps34
  go_wp2_with fail
  refine W1.out.mono ?_
  rintro e w1 ⟨rfl, rfl⟩
  cases off with
  | true =>
    go_wp2_with fail
    go_ret
    exact ⟨by rw [HW.out]; rfl, Below.refl _ _⟩
  | false =>
    go_wp2_with fail
    refine W2.out.mono ?_
    rintro e w1 ⟨rfl, hb⟩
    cases q with
    | true =>
      go_wp2_with fail
      go_ret
      exact ⟨by rw [HW.out]; rfl, hb⟩
    | false =>
      go_wp2_with fail
      go_ret
      exact ⟨by rw [HW.out]; rfl, hb⟩
def burnt (f : Int) : Int := if 0 < f then f - 1 else f
set_option maxHeartbeats 800000 in
theorem operate_any (h : DM w d M Dm gb hb F D) (hf : -1 ≤ D.fuse ∧ D.fuse ≤ 9223372036854775807) (e : Int) (fn : Nat) (cap : Array Value) (hent : ∀ args W, (callFunc fn args).run Try.prog W = .ok (.enter fn args) W) (Q : Int → World → Prop)
    (he : e ≠ 0 → Q e w)
    (h0 : e = 0 → D.fuse = 0 → ∀ w1, DM w1 d M Dm gb hb F { D with off := true } → Touch w w1 [d] → w1.heap.size = w.heap.size → Q 9 w1)
    (h1 : e = 0 → D.fuse ≠ 0 → ∀ w1, DM w1 d M Dm gb hb F { D with fuse := burnt D.fuse } → Touch w w1 [d] → w1.heap.size = w.heap.size → Calls Try.prog fn cap w1 fun x w' => x = .returned (.tuple #[]) ∧ Q 0 w') :
    Calls Try.prog 35 #[ptr d, .int .i64 e, .func (.func fn) #[] cap] w fun x w' => ∃ y, x = .returned (.int .i64 y) ∧ Q y w' := by
  have hc := h.blk.cell 2
  have hfz := h.blk.frozen 2
  have hfz3 := h.blk.frozen 3
  have hc3 := h.blk.cell 3
  simp at hc hc3
  have HB := hid h.blk
  have HD := hid h
  have HE := hid he
  have H0 := hid h0
  have H1 := hid h1
  clear h he h0 h1
  obtain ⟨f, hfe⟩ : ∃ f, f = D.fuse := ⟨_, rfl⟩
  rw [← hfe] at hc hf
  have HF := hid hfe
  clear hfe
  go_enter Try.func35, Try.ntmps35
  by_cases e0 : e = 0
  · subst e0
    by_cases f0 : f = 0
    · subst f0
      go_wp2_with fail
      go_ret
      refine ⟨_, rfl, H0.out trivial HF.out.symm _ (HD.out.set ?_ ?_) ?_ (by simp)⟩
      · exact touch_grown (only_set (World.grownBy.refl _ _) 3 (.bool true)) (by simp)
      · have := HB.out.set 3 (.bool true)
        simpa using this
      · exact touch_grown (only_set (World.grownBy.refl _ _) 3 (.bool true)) (by simp)
    · by_cases f1 : f = -1
      · subst f1
        have W1 := hid (H1.out (by trivial) (by rw [← HF.out]; omega) w (by
          have e : burnt D.fuse = D.fuse := by unfold burnt; rw [← HF.out]; decide
          rw [e]; exact HD.out) (Touch.refl _ _) rfl)
        go_wp2_with fail
        refine W1.out.mono ?_
        rintro x w1 ⟨rfl, hq⟩
        go_wp2_with fail
        go_ret
        exact ⟨_, rfl, hq⟩
      · have hw : IntKind.i64.wrap (f - 1) = f - 1 := by simp [IntKind.wrap, IntKind.bits, IntKind.signed]; omega
        have W1 := hid (H1.out (by trivial) (by rw [← HF.out]; omega) (w.setCell ⟨d, 2, none⟩ (.int .i64 (f - 1))) (by
          refine HD.out.set (touch_grown (only_set (World.grownBy.refl _ _) 2 _) (by simp)) ?_
          have e : burnt D.fuse = f - 1 := by unfold burnt; rw [← HF.out, if_pos (by omega)]
          rw [e]
          have := HB.out.set 2 (.int .i64 (f - 1))
          simpa using this) (touch_grown (only_set (World.grownBy.refl _ _) 2 _) (by simp)) (by simp))
        go_wp2_with fail
        refine W1.out.mono ?_
        rintro x w1 ⟨rfl, hq⟩
        go_wp2_with fail
        go_ret
        exact ⟨_, rfl, hq⟩
  · go_wp2_with fail
    go_ret
    exact ⟨_, rfl, HE.out e0⟩
end
end Go.Proofs.Ytkadljomimpnjaa
