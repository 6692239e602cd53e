/-
  A disk that nobody made: what its calls answer.
-/
import Derived.Test.YtkadljomimpnjaaLives6
namespace Go.Proofs.Ytkadljomimpnjaa
open Go.RowKit Go.Maps Dsk
theorem unmade_nil (w : World) : Calls Try.prog 33 #[.pointer none] w fun e w' => e = .returned (.bool true) ∧ w' = w := by
  go_enter Try.func33, Try.ntmps33
  go_wp2
  go_ret
  exact ⟨rfl, rfl⟩
theorem refusal_nil (A : Option Addr) (k c : Nat) (w : World) : Calls Try.prog 34 #[.pointer none, .slice A k c] w fun e w' => e = .returned (.int .i64 1) ∧ w' = w := by
  go_enter Try.func34, Try.ntmps34
  go_wp2_with fail
  refine (unmade_nil w).mono ?_
  rintro e w' ⟨rfl, rfl⟩
  go_wp2
  go_ret
  exact ⟨rfl, rfl⟩
theorem operate_nil (f : Nat) (bd cap : Array Value) (w : World) : Calls Try.prog 35 #[.pointer none, .int .i64 1, .func (.func f) bd cap] w fun e w' => e = .returned (.int .i64 1) ∧ w' = w := by
  go_enter Try.func35, Try.ntmps35
  go_wp2
  go_ret
  exact ⟨rfl, rfl⟩
theorem told_nil (s : ByteArray) (f : Nat) (cap : Array Value) (w : World) : Calls Try.prog 46 #[.pointer none, .string s, .func (.func f) cap #[]] w fun e w' => e = .returned (.int .i64 (-1)) ∧ w' = w := by
  go_enter Try.func46, Try.ntmps46
  go_wp2_with fail
  refine (unmade_nil w).mono ?_
  rintro e w' ⟨rfl, rfl⟩
  go_wp2
  go_ret
  exact ⟨rfl, rfl⟩
theorem fuse_nil (k : Int) (w : World) : Calls Try.prog 10 #[.pointer none, .int .i64 k] w fun e w' => e = .returned (.int .i64 1) ∧ Below w.heap.size w w' := by
  go_enter Try.func10, Try.ntmps10
  go_wp2_with fail
  refine (unmade_nil w).mono ?_
  rintro e w' ⟨rfl, rfl⟩
  go_wp2
  go_ret
  exact ⟨rfl, Below.refl _ _⟩
theorem crash_nil (A : Option Addr) (n c : Nat) (w : World) : Calls Try.prog 15 #[.pointer none, .slice A n c] w fun e w' => e = .returned (.int .i64 1) ∧ Below w.heap.size w w' := by
  go_enter Try.func15, Try.ntmps15
  go_wp2_with fail
  refine (unmade_nil w).mono ?_
  rintro e w' ⟨rfl, rfl⟩
  go_wp2
  go_ret
  exact ⟨rfl, Below.refl _ _⟩
theorem names_nil (w : World) : Calls Try.prog 23 #[.pointer none] w fun e w' => e = .returned (.slice none 0 0) ∧ Below w.heap.size w w' := by
  go_enter Try.func23, Try.ntmps23
  go_wp2_with fail
  refine (unmade_nil w).mono ?_
  rintro e w' ⟨rfl, rfl⟩
  go_wp2
  go_ret
  exact ⟨rfl, Below.refl _ _⟩
theorem used_nil (w : World) : Calls Try.prog 20 #[.pointer none] w fun e w' => e = .returned (.int .i64 0) ∧ Below w.heap.size w w' := by
  go_enter Try.func20, Try.ntmps20
  go_wp2_with fail
  refine (unmade_nil w).mono ?_
  rintro e w' ⟨rfl, rfl⟩
  go_wp2
  go_ret
  exact ⟨rfl, Below.refl _ _⟩
theorem room_nil (w : World) : Calls Try.prog 21 #[.pointer none] w fun e w' => e = .returned (.int .i64 0) ∧ Below w.heap.size w w' := by
  go_enter Try.func21, Try.ntmps21
  go_wp2_with fail
  refine (unmade_nil w).mono ?_
  rintro e w' ⟨rfl, rfl⟩
  go_wp2
  go_ret
  exact ⟨rfl, Below.refl _ _⟩
theorem off_nil (w : World) : Calls Try.prog 14 #[.pointer none] w fun e w' => e = .returned (.bool false) ∧ Below w.heap.size w w' := by
  go_enter Try.func14, Try.ntmps14
  go_wp2_with fail
  refine (unmade_nil w).mono ?_
  rintro e w' ⟨rfl, rfl⟩
  go_wp2
  go_ret
  exact ⟨rfl, Below.refl _ _⟩
theorem clone_nil (w : World) : Calls Try.prog 27 #[.pointer none] w fun e w' => e = .returned (.pointer none) ∧ Below w.heap.size w w' := by
  go_enter Try.func27, Try.ntmps27
  go_wp2_with fail
  refine (unmade_nil w).mono ?_
  rintro e w' ⟨rfl, rfl⟩
  go_wp2
  go_ret
  exact ⟨rfl, Below.refl _ _⟩
theorem size_nil (s : ByteArray) (w : World) : Calls Try.prog 18 #[.pointer none, .string s] w fun e w' => e = .returned (.int .i64 (-1)) ∧ Below w.heap.size w w' := by
  go_enter Try.func18, Try.ntmps18
  go_wp2_with fail
  refine (told_nil s _ _ w).mono ?_
  rintro e w' ⟨rfl, rfl⟩
  go_wp2
  go_ret
  exact ⟨rfl, Below.refl _ _⟩
theorem synced_nil (s : ByteArray) (w : World) : Calls Try.prog 19 #[.pointer none, .string s] w fun e w' => e = .returned (.int .i64 (-1)) ∧ Below w.heap.size w w' := by
  go_enter Try.func19, Try.ntmps19
  go_wp2_with fail
  refine (told_nil s _ _ w).mono ?_
  rintro e w' ⟨rfl, rfl⟩
  go_wp2
  go_ret
  exact ⟨rfl, Below.refl _ _⟩
theorem same_nil (w : World) : Calls Try.prog 28 #[.pointer none, .pointer none] w fun e w' => e = .returned (.bool true) ∧ Below w.heap.size w w' := by
  have U1 := hid (unmade_nil w)
  go_enter Try.func28, Try.ntmps28
  go_wp2_with fail
  refine U1.out.mono ?_
  rintro e w' ⟨rfl, rfl⟩
  go_wp2_with fail
  refine U1.out.mono ?_
  rintro e w'' ⟨rfl, rfl⟩
  go_wp2_with fail
  refine U1.out.mono ?_
  rintro e w3 ⟨rfl, rfl⟩
  go_wp2
  go_ret
  exact ⟨rfl, Below.refl _ _⟩
set_option maxHeartbeats 1000000 in
set_option maxRecDepth 20000 in
theorem find_nilx (w : World) (n : Nm) (A : Option Addr) (k c base : Nat) (l : List Nm) (hk : k ≤ 900) (hown : w.ownsRow base 9 1 (.slice A k c) k (Ss l)) (hbase : base ≤ w.heap.size) :
    Calls Try.prog 38 #[.pointer none, S n, .slice A k c] w fun e w' => e = .returned (.tuple #[.pointer none, .int .i64 1]) ∧ Touch w w' (A.map (·.block)).toList := by
  obtain ⟨i0, hi, hz0, hz1, hz2⟩ := info_parts infoS
  obtain ⟨sb, hsb⟩ : ∃ sb, S n = .string sb := ⟨_, rfl⟩
  have HSB := hid hsb
  have HR : Hid (Row (w.alloc (.cells #[.string sb] 9)) w.heap.size (w.heap.size + 1) (some ⟨w.heap.size, 0, none⟩) 1 (Ss [n])) := hid (by rw [← hsb]; exact row_one w 9 (S n))
  have HO := hid (hown.alloc (.cells #[.string sb] 9))
  rw [hsb]
  clear hsb
  go_enter Try.func38, Try.ntmps38
  go_wp2_with (at_builtin; go_loud (refine wpList_append_row _ rfl _ _ 40 rfl base 9 i0 (.string ⟨#[]⟩) 16 Try.underlying40 hi hz0 hz1 hz2 rfl (.slice A k c) k (Ss l) rfl HO.out w.heap.size (w.heap.size + 1) (some ⟨w.heap.size, 0, none⟩) 1 1 rfl (fun e => by cases e) (Ss [n]) HR.out (Ss_one _) (by unfold maxLen; omega) (by omega) (by simp; omega) ?_); intro v' w1 hown1 hgrow hblk)
  obtain ⟨A', c', rfl, _, _⟩ := own_shape hown1
  have ht1 : Touch w w1 (A.map (·.block)).toList := by
    have ha : Touch w (w.alloc (.cells #[.string sb] 9)) (A.map (·.block)).toList := touch_below ((Below.refl _ w).alloc (Nat.le_refl _) _) _
    refine ha.then (touch_grown (F := (A.map (·.block)).toList) hgrow (fun g hg => ?_)) (fun _ _ h => h)
    cases A with
    | none => cases hg
    | some a => simpa [Value.ownBlock] using hg.symm
  have HT := hid ht1
  clear hown1 hgrow hblk ht1
  go_wp2_with fail
  refine (refusal_nil A' _ c' w1).mono ?_
  rintro e w2 ⟨rfl, rfl⟩
  go_wp2
  go_ret2
  exact ⟨rfl, HT.out⟩
theorem find_nil0 (n : Nm) (w : World) : Calls Try.prog 38 #[.pointer none, S n, .slice none 0 0] w fun e w' => e = .returned (.tuple #[.pointer none, .int .i64 1]) ∧ Below w.heap.size w w' :=
  (find_nilx w n none 0 0 w.heap.size [] (by omega) (World.ownsRow_nil _ _ _ _) (Nat.le_refl _)).mono fun e w' ⟨h1, h2⟩ => ⟨h1, h2.below (Nat.le_refl _) (fun i hi => by cases hi)⟩
theorem read_nil (n : Nm) (w : World) : Calls Try.prog 13 #[.pointer none, S n] w fun e w' => e = .returned (.tuple #[.slice none 0 0, .int .i64 1]) ∧ Below w.heap.size w w' := by
  have FN : Hid (∀ W : World, Calls Try.prog 38 #[.pointer none, S n, .slice none 0 0] W fun e w' => e = .returned (.tuple #[.pointer none, .int .i64 1]) ∧ Below W.heap.size W w') := hid fun W => find_nil0 n W
  generalize S n = s at *
  go_enter Try.func13, Try.ntmps13
  go_wp2_with fail
  refine (FN.out _).mono ?_
  rintro e w1 ⟨rfl, hb1⟩
  go_wp2
  go_ret2
  exact ⟨rfl, hb1⟩
theorem under1 {w w1 : World} {o : Obj} (h : Below (w.alloc o).heap.size (w.alloc o) w1) : Below w.heap.size w w1 := ((Below.refl _ w).alloc (Nat.le_refl _) o).trans (h.mono (by simp))
theorem sync_nil (n : Nm) (w : World) : Calls Try.prog 12 #[.pointer none, S n] w fun e w' => e = .returned (.int .i64 1) ∧ Below w.heap.size w w' := by
  have FN : Hid (∀ W : World, Calls Try.prog 38 #[.pointer none, S n, .slice none 0 0] W fun e w' => e = .returned (.tuple #[.pointer none, .int .i64 1]) ∧ Below W.heap.size W w') := hid fun W => find_nil0 n W
  generalize hs : S n = s at *
  clear hs
  go_enter Try.func12, Try.ntmps12
  go_wp2_with fail
  refine (FN.out _).mono ?_
  rintro e w1 ⟨rfl, hb1⟩
  go_wp2_with fail
  refine (operate_nil _ _ _ _).mono ?_
  rintro e w2 ⟨rfl, rfl⟩
  go_wp2
  go_ret
  exact ⟨rfl, hb1.alloc hb1.size _⟩
theorem cut_nil (n : Nm) (j : Int) (w : World) : Calls Try.prog 17 #[.pointer none, S n, .int .i64 j] w fun e w' => e = .returned (.int .i64 1) ∧ Below w.heap.size w w' := by
  have FN : Hid (∀ W : World, Calls Try.prog 38 #[.pointer none, S n, .slice none 0 0] W fun e w' => e = .returned (.tuple #[.pointer none, .int .i64 1]) ∧ Below W.heap.size W w') := hid fun W => find_nil0 n W
  generalize hs : S n = s at *
  clear hs
  go_enter Try.func17, Try.ntmps17
  go_wp2_with fail
  refine (FN.out _).mono ?_
  rintro e w1 ⟨rfl, hb1⟩
  have hb2 := under1 hb1
  go_wp2_with fail
  go_quiet (fail)
  go_wp2_with fail
  refine (operate_nil _ _ _ _).mono ?_
  rintro e w2 ⟨rfl, rfl⟩
  go_wp2
  go_ret
  exact ⟨rfl, below_drewN (hb2.alloc hb2.size _) _⟩
theorem delete_nil (n : Nm) (w : World) : Calls Try.prog 32 #[.pointer none, S n] w fun e w' => e = .returned (.int .i64 1) ∧ Below w.heap.size w w' := by
  have FN : Hid (∀ W : World, Calls Try.prog 38 #[.pointer none, S n, .slice none 0 0] W fun e w' => e = .returned (.tuple #[.pointer none, .int .i64 1]) ∧ Below W.heap.size W w') := hid fun W => find_nil0 n W
  obtain ⟨sb, hsb⟩ : ∃ sb, S n = .string sb := ⟨_, rfl⟩
  obtain ⟨w2, hw2⟩ : ∃ w2, w2 = (w.alloc (.cells #[.pointer none] 23)).alloc (.cells #[.string sb] 9) := ⟨_, rfl⟩
  have hb2 : Below w.heap.size w w2 := by rw [hw2]; exact ((Below.refl _ w).alloc (Nat.le_refl _) _).alloc (by simp) _
  have hs2 : w2.heap.size = w.heap.size + 2 := by rw [hw2]; simp
  have k0 : w2.cell? ⟨w.heap.size, 0, none⟩ = some (.pointer none) := by
    rw [hw2]
    exact (Blk.new w 23 #[.pointer none]).alloc _ |>.cell 0
  rw [hsb] at FN ⊢
  have HW2 := hid hw2
  have HB2 := hid hb2
  have HS2 := hid hs2
  clear hsb hw2 hb2 hs2
  go_enter Try.func32, Try.ntmps32
  go_wp2_with fail
  rw [← HW2.out]
  refine (FN.out _).mono ?_
  rintro e w3 ⟨rfl, hb3⟩
  have c0 := (hb3.cell (p := ⟨w.heap.size, 0, none⟩) (by have := HS2.out; show w.heap.size < _; omega)).trans k0
  have HB3 := hid (HB2.out.trans (hb3.mono (by have := HS2.out; omega)))
  clear hb3 k0
  go_wp2_with fail
  refine (operate_nil _ _ _ _).mono ?_
  rintro e w4 ⟨rfl, rfl⟩
  go_wp2
  go_ret
  exact ⟨rfl, HB3.out⟩
theorem append_nil (n : Nm) (A : Option Addr) (len cap : Nat) (w : World) : Calls Try.prog 11 #[.pointer none, S n, .slice A len cap] w fun e w' => e = .returned (.int .i64 1) ∧ Below w.heap.size w w' := by
  obtain ⟨sb, hsb⟩ : ∃ sb, S n = .string sb := ⟨_, rfl⟩
  rw [hsb]
  obtain ⟨w4, hw4⟩ : ∃ w4, w4 = ((((w.alloc (.cells #[.pointer none] 23)).alloc (.cells #[.string sb] 9)).alloc (.cells #[.slice A len cap] 29)).alloc (.cells #[.string sb] 9)) := ⟨_, rfl⟩
  have hb4 : Below w.heap.size w w4 := by
    rw [hw4]
    exact ((((Below.refl _ w).alloc (Nat.le_refl _) _).alloc (by simp) _).alloc (by simp; omega) _).alloc (by simp; omega) _
  have k0 : w4.cell? ⟨w.heap.size, 0, none⟩ = some (.pointer none) := by
    rw [hw4]
    exact (((Blk.new w 23 #[.pointer none]).alloc _).alloc _).alloc _ |>.cell 0
  have k2 : w4.cell? ⟨w.heap.size + 1 + 1, 0, none⟩ = some (.slice A len cap) := by
    rw [hw4]
    have := (Blk.new ((w.alloc (.cells #[.pointer none] 23)).alloc (.cells #[.string sb] 9)) 29 #[.slice A len cap]).alloc (.cells #[.string sb] 9) |>.cell 0
    simpa using this
  have HW4 := hid hw4
  have HB4 := hid hb4
  clear hsb hw4 hb4
  go_enter Try.func11, Try.ntmps11
  go_wp2_with fail
  rw [← HW4.out]
  refine (refusal_nil _ _ _ _).mono ?_
  rintro e w5 ⟨rfl, rfl⟩
  go_wp2_with fail
  go_quiet (fail)
  go_wp2_with fail
  refine (operate_nil _ _ _ _).mono ?_
  rintro e w6 ⟨rfl, rfl⟩
  go_wp2
  go_ret
  exact ⟨rfl, below_drewN HB4.out _⟩
theorem rename_nil (n m : Nm) (w : World) : Calls Try.prog 16 #[.pointer none, S n, S m] w fun e w' => e = .returned (.int .i64 1) ∧ Below w.heap.size w w' := by
  obtain ⟨sb, hsb⟩ : ∃ sb, S n = .string sb := ⟨_, rfl⟩
  obtain ⟨sm, hsm⟩ : ∃ sm, S m = .string sm := ⟨_, rfl⟩
  obtain ⟨w3, hw3⟩ : ∃ w3, w3 = ((w.alloc (.cells #[.pointer none] 23)).alloc (.cells #[.string sb] 9)).alloc (.cells #[.string sm] 9) := ⟨_, rfl⟩
  obtain ⟨w4, hw4⟩ : ∃ w4, w4 = w3.alloc (.cells #[.string sm] 9) := ⟨_, rfl⟩
  have hs3 : w3.heap.size = w.heap.size + 3 := by rw [hw3]; simp
  have hb3 : Below w.heap.size w w3 := by rw [hw3]; exact (((Below.refl _ w).alloc (Nat.le_refl _) _).alloc (by simp) _).alloc (by simp; omega) _
  have hb4 : Below w.heap.size w w4 := by rw [hw4]; exact hb3.alloc (by omega) _
  have hs4 : w4.heap.size = w.heap.size + 4 := by rw [hw4]; simp; omega
  have k0 : w4.cell? ⟨w.heap.size, 0, none⟩ = some (.pointer none) := by
    rw [hw4, hw3]
    exact (((Blk.new w 23 #[.pointer none]).alloc _).alloc _).alloc _ |>.cell 0
  have hown : w4.ownsRow (w.heap.size + 3) 9 1 (.slice (some ⟨w.heap.size + 1 + 1 + 1, 0, none⟩) 1 1) 1 (Ss [m]) := by
    have h1 := own_lit w3 9 [.string sm] (by unfold maxLen; simp)
    rw [← hw4, hs3] at h1
    rw [← hsm] at h1
    exact h1
  have W1 := hid (find_nilx w4 n (some ⟨w.heap.size + 1 + 1 + 1, 0, none⟩) 1 1 (w.heap.size + 3) [m] (by omega) hown (by omega))
  rw [hsb] at W1 ⊢
  rw [hsm]
  have HW4 := hid hw4
  have HW3 := hid hw3
  have HB4 := hid hb4
  have HS4 := hid hs4
  clear hsb hsm hw3 hw4 hb3 hb4 hs3 hs4 hown
  go_enter Try.func16, Try.ntmps16
  go_wp2_with fail
  rw [← HW3.out, ← HW4.out]
  refine W1.out.mono ?_
  rintro e w5 ⟨rfl, ht5⟩
  have c0 := (ht5.cell (p := ⟨w.heap.size, 0, none⟩) (by have := HS4.out; show w.heap.size < _; omega) (by simp; omega)).trans k0
  have HB5 := hid (HB4.out.trans (ht5.below (B := w.heap.size) (by have := HS4.out; omega) (by simp; omega)))
  have hlt : w.heap.size < w5.heap.size := by have := HS4.out; have := ht5.size; omega
  have f0 : (w5.alloc (.cells #[.pointer none] 64)).cell? ⟨w.heap.size, 0, none⟩ = some (.pointer none) := (World.cell?_alloc_lt w5 _ ⟨w.heap.size, 0, none⟩ hlt).trans c0
  clear ht5 k0
  go_wp2_with fail
  go_quiet (fail)
  go_wp2_with fail
  refine (operate_nil _ _ _ _).mono ?_
  rintro e w6 ⟨rfl, rfl⟩
  go_wp2
  go_ret
  exact ⟨rfl, below_drewN (HB5.out.alloc HB5.out.size _) _⟩
end Go.Proofs.Ytkadljomimpnjaa
