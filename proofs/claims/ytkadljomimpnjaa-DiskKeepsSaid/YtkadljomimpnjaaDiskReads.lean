/-
  Contracts of what a disk tells: room, power, sizes, what is used; of the fuse; of a new disk.
-/
import Derived.Test.YtkadljomimpnjaaDiskBase
import Derived.Carry
namespace Go.Proofs.Ytkadljomimpnjaa
open Go.RowKit Go.Maps Go.Shelf Dsk

theorem enters (f : Nat) (h : ∃ fn : Func, Try.prog.funcs[f]? = some fn ∧ (fn.name == "runtime.NumGoroutine") = false ∧ fn.body.isSome = true) : ∀ args W, (callFunc f args).run Try.prog W = .ok (.enter f args) W := by
  obtain ⟨fn, h1, h2, h3⟩ := h
  obtain ⟨c, hc⟩ := Option.isSome_iff_exists.1 h3
  exact enters_of h1 h2 hc
section
variable {w : World} {d M : Nat} {Dm : DataW Unit} {gb : Nm → Nat} {hb : Nm → Option Nat} {F : List Nat} {D : Dk}
theorem room_m (h : DM w d M Dm gb hb F D) : Calls Try.prog 21 #[ptr d] w fun e w' => e = .returned (.int .i64 D.size) ∧ Below w.heap.size w w' := by
  have W1 := hid (unmade_any h)
  have hc := h.blk.cell 1
  simp at hc
  clear h
  go_enter Try.func21, Try.ntmps21
  go_wp2_with fail
  refine W1.out.mono ?_
  rintro e w1 ⟨rfl, rfl⟩
  go_wp2_with fail
  go_ret
  exact ⟨rfl, Below.refl _ _⟩
theorem off_m (h : DM w d M Dm gb hb F D) : Calls Try.prog 14 #[ptr d] w fun e w' => e = .returned (.bool D.off) ∧ Below w.heap.size w w' := by
  have W1 := hid (unmade_any h)
  have hc := h.blk.cell 3
  simp at hc
  clear h
  go_enter Try.func14, Try.ntmps14
  go_wp2_with fail
  refine W1.out.mono ?_
  rintro e w1 ⟨rfl, rfl⟩
  go_wp2_with fail
  go_ret
  exact ⟨rfl, Below.refl _ _⟩
theorem fuse_m (h : DM w d M Dm gb hb F D) (k : Int) : Calls Try.prog 10 #[ptr d, .int .i64 k] w fun e w' => e = .returned (.int .i64 (dFuse D k).1) ∧ DM w' d M Dm gb hb F (dFuse D k).2 ∧ Touch w w' [d] := by
  have W1 := hid (unmade_any h)
  have hc := h.blk.cell 2
  have hfz := h.blk.frozen 2
  simp at hc
  have HD := hid h
  clear h
  go_enter Try.func10, Try.ntmps10
  go_wp2_with fail
  refine W1.out.mono ?_
  rintro e w1 ⟨rfl, rfl⟩
  by_cases hk : k < -1
  · go_wp2_with fail
    go_ret
    unfold dFuse
    rw [if_pos hk]
    exact ⟨rfl, HD.out, Touch.refl _ _⟩
  · go_wp2_with fail
    go_ret
    unfold dFuse
    rw [if_neg (by omega)]
    have ht : Touch w1 (w1.setCell ⟨d, 2, none⟩ (.int .i64 k)) [d] := touch_grown (only_set (World.grownBy.refl _ _) 2 _) (by simp)
    refine ⟨rfl, HD.out.set ht ?_, ht⟩
    have := HD.out.blk.set 2 (.int .i64 k)
    simpa using this
def NewPost (w : World) (size : Int) (e : Ending) (w' : World) : Prop := Below w.heap.size w w' ∧
    (((size < 0 ∨ 1099511627776 < size) ∧ e = .returned (.tuple #[.pointer none, .int .i64 2])) ∨
      (0 ≤ size ∧ size ≤ 1099511627776 ∧ ∃ d F, e = .returned (.tuple #[ptr d, .int .i64 0]) ∧ DAt w' d F ⟨size, [], -1, false⟩ ∧ ∀ b ∈ F, w.heap.size ≤ b))
theorem new_m (w : World) (size : Int) : Calls Try.prog 9 #[.int .i64 size] w fun e w' => NewPost w size e w' := by
  have hmm := @run_makeMap Try.prog
  go_enter Try.func9, Try.ntmps9
  by_cases h1 : size < 0
  · go_wp2
    go_ret2
    exact ⟨Below.refl _ _, .inl ⟨.inl h1, rfl⟩⟩
  · by_cases h2 : 1099511627776 < size
    · go_wp2
      go_ret2
      exact ⟨Below.refl _ _, .inl ⟨.inr h2, rfl⟩⟩
    · go_wp2
      go_ret2
      have hb1 : Below w.heap.size w (w.alloc (.map #[] 0)) := (Below.refl _ w).alloc (Nat.le_refl _) _
      refine ⟨hb1.alloc (by simp) _, .inr ⟨by omega, by omega, w.heap.size + 1, [w.heap.size + 1, w.heap.size], by simp [ptr], ?_, by simp⟩⟩
      refine ⟨w.heap.size, .map [], fun _ => 0, fun _ => none, ?_, (World.ownsMap_made w Try.prog 9 ptrElem).alloc _, fun n => rfl, (fun n f hn => by cases hn), (fun n m _ hn => by cases hn), ⟨by simp, by simp, fun n f hn => by cases hn⟩, by simp; omega⟩
      have := Blk.new (w.alloc (.map #[] 0)) 61 #[.map (some w.heap.size), .int .i64 size, .int .i64 (-1), .bool false]
      simpa using this
theorem told_m (h : DM w d M Dm gb hb F D) (n : Nm) (hl : n.length ≤ 1000) (fn : Nat) (hent : ∀ args W, (callFunc fn args).run Try.prog W = .ok (.enter fn args) W) (t : Fil → Int)
    (ht : ∀ f, get D.fs n = some f → Calls Try.prog fn #[ptr (gb n)] w fun e w' => e = .returned (.int .i64 (t f)) ∧ w' = w) :
    Calls Try.prog 46 #[ptr d, S n, .func (.func fn) #[] #[]] w fun e w' => e = .returned (.int .i64 (match get D.fs n with | some f => t f | none => -1)) ∧ Below w.heap.size w w' := by
  have W1 := hid (unmade_any h)
  have hc := h.blk.cell 0
  simp at hc
  have hlk := h.look n hl true
  clear h
  generalize S n = s at *
  generalize gb n = g at *
  cases hg : Dsk.get D.fs n with
  | none =>
    have h1 := hlk.2 hg
    rw [if_pos rfl] at h1
    clear hlk ht
    go_enter Try.func46, Try.ntmps46
    go_wp2_with fail
    refine W1.out.mono ?_
    rintro e w1 ⟨rfl, rfl⟩
    go_wp2_with fail
    go_ret
    exact ⟨rfl, Below.refl _ _⟩
  | some f =>
    have h1 := hlk.1 f hg
    rw [if_pos rfl] at h1
    have W2 := hid (ht f hg)
    clear hlk ht
    show Calls _ _ _ _ fun e w' => e = .returned (.int .i64 (t f)) ∧ _
    generalize t f = z at *
    go_enter Try.func46, Try.ntmps46
    go_wp2_with fail
    refine W1.out.mono ?_
    rintro e w1 ⟨rfl, rfl⟩
    go_wp2_with fail
    refine W2.out.mono ?_
    rintro e w1 ⟨rfl, rfl⟩
    go_wp2_with fail
    go_ret
    exact ⟨rfl, Below.refl _ _⟩
theorem size_m (h : DM w d M Dm gb hb F D) (n : Nm) (hl : n.length ≤ 1000) : Calls Try.prog 18 #[ptr d, S n] w fun e w' => e = .returned (.int .i64 (dSize D n)) ∧ Below w.heap.size w w' := by
  have W1 := hid (told_m h n hl 47 (enters_of Try.func47 (by kernel_rfl) rfl) (fun f => (f.b.length : Int)) (by
    intro f hf
    obtain ⟨A, cap, hblk, _, _⟩ := (h.at_ n f hf).2
    have hc := hblk.cell 0
    simp at hc
    generalize f.b.length = z at *
    generalize gb n = g at *
    clear h hf hblk
    go_enter Try.func47, Try.ntmps47
    go_wp2_with fail
    go_ret
    exact ⟨rfl, rfl⟩))
  clear h
  have e0 : dSize D n = (match Dsk.get D.fs n with | some f => (f.b.length : Int) | none => -1) := rfl
  rw [← e0] at W1
  clear e0
  generalize dSize D n = z at *
  generalize S n = s at *
  go_enter Try.func18, Try.ntmps18
  go_wp2_with fail
  refine W1.out.mono ?_
  rintro e w1 ⟨rfl, hb⟩
  go_wp2_with fail
  go_ret
  exact ⟨rfl, hb⟩
theorem synced_m (h : DM w d M Dm gb hb F D) (n : Nm) (hl : n.length ≤ 1000) : Calls Try.prog 19 #[ptr d, S n] w fun e w' => e = .returned (.int .i64 (dSynced D n)) ∧ Below w.heap.size w w' := by
  have W1 := hid (told_m h n hl 48 (enters_of Try.func48 (by kernel_rfl) rfl) (fun f => (f.s : Int)) (by
    intro f hf
    obtain ⟨A, cap, hblk, _, _⟩ := (h.at_ n f hf).2
    have hc := hblk.cell 1
    simp at hc
    generalize gb n = g at *
    clear h hf hblk
    go_enter Try.func48, Try.ntmps48
    go_wp2_with fail
    go_ret
    exact ⟨rfl, rfl⟩))
  clear h
  have e0 : dSynced D n = (match Dsk.get D.fs n with | some f => (f.s : Int) | none => -1) := rfl
  rw [← e0] at W1
  clear e0
  generalize dSynced D n = z at *
  generalize S n = s at *
  go_enter Try.func19, Try.ntmps19
  go_wp2_with fail
  refine W1.out.mono ?_
  rintro e w1 ⟨rfl, hb⟩
  go_wp2_with fail
  go_ret
  exact ⟨rfl, hb⟩
end
end Go.Proofs.Ytkadljomimpnjaa
