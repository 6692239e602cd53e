/-
  Contracts of the program's own helpers of a disk: whether it was made, what is wrong with names, the fuse, finding a file.
  Contracts of what a disk tells: room, power, sizes, what is used; of the fuse; of a new disk.
  Contracts: finding a file, how many bytes are used, reading a file.
  Contracts: how many bytes are used (a range over the map, in whatever order), reading a file.
-/
import Derived.Test.YtpckloafdlkefaaGreatFiles
import Derived.Test.YtpckloafdlkefaaGreatIndexFunc
import Derived.Deep.RegionHeld3
import Derived.OwnWalk
import Derived.Laws.Cover3
import Derived.Carry
import Derived.Test.YtpckloafdlkefaaGreatKit
namespace Go.Proofs.YtpckloafdlkefaaGreat
set_option maxRecDepth 40000
open Go.RowKit Go.Maps Go.Shelf Dsk

theorem eql_map_nil (w : World) (m : Option Nat) : (binOp .eql 68 (.map m) (.map none)).run Tryz.prog w = .ok (.bool m.isNone) w := by
  simp only [binOp]
  simp [run_equal_map_nil w 68 _ _ m Tryz.underlying68]
section
variable {w : World} {d M : Nat} {Dm : DataW Unit} {gb : Nm → Nat} {hb : Nm → Option Nat} {F : List Nat} {D : Dk}
theorem unmade_any (h : DM w d M Dm gb hb F D) : Calls Tryz.prog 41 #[ptr d] w fun e w' => e = .returned (.bool false) ∧ w' = w := by
  have hc := h.blk.cell 0
  simp at hc
  clear h
  have heq := eql_map_nil w (some M)
  go_enter Tryz.func41, Tryz.ntmps41
  go_wp2_with fail
  go_ret
  exact ⟨rfl, rfl⟩
def wrong (D : Dk) (l : List Nm) : Int := if D.off then 9 else if l.all okN then 0 else 2
theorem refusal_any (h : DM w d M Dm gb hb F D) (A : Option Addr) (k c lo up : Nat) (l : List Nm) (hl : ∀ n ∈ l, n.length ≤ 1000) (hR : Row w lo up A k (Ss l)) (hup : up ≤ w.heap.size) (hk : k ≤ 1000) :
    Calls Tryz.prog 88 #[ptr d, .slice A k c] w fun e w' => e = .returned (.int .i64 (wrong D l)) ∧ Below w.heap.size w w' := by
  have W1 := hid (unmade_any h)
  have W2 := hid (allnames_any A k c lo up l hl w hR hup hk)
  have hc := h.blk.cell 3
  simp at hc
  have HW : Hid (wrong D l = if D.off then 9 else if l.all okN then 0 else 2) := hid rfl
  clear h hR
  generalize wrong D l = r at *
  generalize D.off = off at *
  generalize l.all okN = q at *
  go_enter Tryz.func88, Tryz.ntmps88
  go_wp2_with fail
  refine W1.out.mono ?_
  rintro e w1 ⟨rfl, rfl⟩
  cases off with
  | true =>
    go_wp2_with fail
    go_ret
    exact ⟨by rw [HW.out]; rfl, Below.refl _ _⟩
  | false =>
    go_wp2_with fail
    refine W2.out.mono ?_
    rintro e w1 ⟨rfl, hb⟩
    cases q with
    | true =>
      go_wp2_with fail
      go_ret
      exact ⟨by rw [HW.out]; rfl, hb⟩
    | false =>
      go_wp2_with fail
      go_ret
      exact ⟨by rw [HW.out]; rfl, hb⟩
def burnt (f : Int) : Int := if 0 < f then f - 1 else f
set_option maxHeartbeats 800000 in
theorem operate_any (h : DM w d M Dm gb hb F D) (hf : -1 ≤ D.fuse ∧ D.fuse ≤ 9223372036854775807) (e : Int) (fn : Nat) (cap : Array Value) (hent : ∀ args W, (callFunc fn args).run Tryz.prog W = .ok (.enter fn args) W) (Q : Int → World → Prop)
    (he : e ≠ 0 → Q e w)
    (h0 : e = 0 → D.fuse = 0 → ∀ w1, DM w1 d M Dm gb hb F { D with off := true } → Touch w w1 [d] → w1.heap.size = w.heap.size → Q 9 w1)
    (h1 : e = 0 → D.fuse ≠ 0 → ∀ w1, DM w1 d M Dm gb hb F { D with fuse := burnt D.fuse } → Touch w w1 [d] → w1.heap.size = w.heap.size → Calls Tryz.prog fn cap w1 fun x w' => x = .returned (.tuple #[]) ∧ Q 0 w') :
    Calls Tryz.prog 77 #[ptr d, .int .i64 e, .func (.func fn) #[] cap] w fun x w' => ∃ y, x = .returned (.int .i64 y) ∧ Q y w' := by
  have hc := h.blk.cell 2
  have hfz := h.blk.frozen 2
  have hfz3 := h.blk.frozen 3
  have hc3 := h.blk.cell 3
  simp at hc hc3
  have HB := hid h.blk
  have HD := hid h
  have HE := hid he
  have H0 := hid h0
  have H1 := hid h1
  clear h he h0 h1
  obtain ⟨f, hfe⟩ : ∃ f, f = D.fuse := ⟨_, rfl⟩
  rw [← hfe] at hc hf
  have HF := hid hfe
  clear hfe
  go_enter Tryz.func77, Tryz.ntmps77
  by_cases e0 : e = 0
  · subst e0
    by_cases f0 : f = 0
    · subst f0
      go_wp2_with fail
      go_ret
      refine ⟨_, rfl, H0.out trivial HF.out.symm _ (HD.out.set ?_ ?_) ?_ (by simp)⟩
      · exact touch_grown (only_set (World.grownBy.refl _ _) 3 (.bool true)) (by simp)
      · have := HB.out.set 3 (.bool true)
        simpa using this
      · exact touch_grown (only_set (World.grownBy.refl _ _) 3 (.bool true)) (by simp)
    · by_cases f1 : f = -1
      · subst f1
        have W1 := hid (H1.out (by trivial) (by rw [← HF.out]; omega) w (by
          have e : burnt D.fuse = D.fuse := by unfold burnt; rw [← HF.out]; decide
          rw [e]; exact HD.out) (Touch.refl _ _) rfl)
        go_wp2_with fail
        refine W1.out.mono ?_
        rintro x w1 ⟨rfl, hq⟩
        go_wp2_with fail
        go_ret
        exact ⟨_, rfl, hq⟩
      · have hw : IntKind.i64.wrap (f - 1) = f - 1 := by simp [IntKind.wrap, IntKind.bits, IntKind.signed]; omega
        have W1 := hid (H1.out (by trivial) (by rw [← HF.out]; omega) (w.setCell ⟨d, 2, none⟩ (.int .i64 (f - 1))) (by
          refine HD.out.set (touch_grown (only_set (World.grownBy.refl _ _) 2 _) (by simp)) ?_
          have e : burnt D.fuse = f - 1 := by unfold burnt; rw [← HF.out, if_pos (by omega)]
          rw [e]
          have := HB.out.set 2 (.int .i64 (f - 1))
          simpa using this) (touch_grown (only_set (World.grownBy.refl _ _) 2 _) (by simp)) (by simp))
        go_wp2_with fail
        refine W1.out.mono ?_
        rintro x w1 ⟨rfl, hq⟩
        go_wp2_with fail
        go_ret
        exact ⟨_, rfl, hq⟩
  · go_wp2_with fail
    go_ret
    exact ⟨_, rfl, HE.out e0⟩
end
end Go.Proofs.YtpckloafdlkefaaGreat
namespace Go.Proofs.YtpckloafdlkefaaGreat
set_option maxRecDepth 40000
open Go.RowKit Go.Maps Go.Shelf Dsk

theorem enters (f : Nat) (h : ∃ fn : Func, Tryz.prog.funcs[f]? = some fn ∧ (fn.name == "runtime.NumGoroutine") = false ∧ fn.body.isSome = true) : ∀ args W, (callFunc f args).run Tryz.prog W = .ok (.enter f args) W := by
  obtain ⟨fn, h1, h2, h3⟩ := h
  obtain ⟨c, hc⟩ := Option.isSome_iff_exists.1 h3
  exact enters_of h1 h2 hc
section
variable {w : World} {d M : Nat} {Dm : DataW Unit} {gb : Nm → Nat} {hb : Nm → Option Nat} {F : List Nat} {D : Dk}
theorem room_m (h : DM w d M Dm gb hb F D) : Calls Tryz.prog 64 #[ptr d] w fun e w' => e = .returned (.int .i64 D.size) ∧ Below w.heap.size w w' := by
  have W1 := hid (unmade_any h)
  have hc := h.blk.cell 1
  simp at hc
  clear h
  go_enter Tryz.func64, Tryz.ntmps64
  go_wp2_with fail
  refine W1.out.mono ?_
  rintro e w1 ⟨rfl, rfl⟩
  go_wp2_with fail
  go_ret
  exact ⟨rfl, Below.refl _ _⟩
theorem off_m (h : DM w d M Dm gb hb F D) : Calls Tryz.prog 65 #[ptr d] w fun e w' => e = .returned (.bool D.off) ∧ Below w.heap.size w w' := by
  have W1 := hid (unmade_any h)
  have hc := h.blk.cell 3
  simp at hc
  clear h
  go_enter Tryz.func65, Tryz.ntmps65
  go_wp2_with fail
  refine W1.out.mono ?_
  rintro e w1 ⟨rfl, rfl⟩
  go_wp2_with fail
  go_ret
  exact ⟨rfl, Below.refl _ _⟩
theorem fuse_m (h : DM w d M Dm gb hb F D) (k : Int) : Calls Tryz.prog 15 #[ptr d, .int .i64 k] w fun e w' => e = .returned (.int .i64 (dFuse D k).1) ∧ DM w' d M Dm gb hb F (dFuse D k).2 ∧ Touch w w' [d] := by
  have W1 := hid (unmade_any h)
  have hc := h.blk.cell 2
  have hfz := h.blk.frozen 2
  simp at hc
  have HD := hid h
  clear h
  go_enter Tryz.func15, Tryz.ntmps15
  go_wp2_with fail
  refine W1.out.mono ?_
  rintro e w1 ⟨rfl, rfl⟩
  by_cases hk : k < -1
  · go_wp2_with fail
    go_ret
    unfold dFuse
    rw [if_pos hk]
    exact ⟨rfl, HD.out, Touch.refl _ _⟩
  · go_wp2_with fail
    go_ret
    unfold dFuse
    rw [if_neg (by omega)]
    have ht : Touch w1 (w1.setCell ⟨d, 2, none⟩ (.int .i64 k)) [d] := touch_grown (only_set (World.grownBy.refl _ _) 2 _) (by simp)
    refine ⟨rfl, HD.out.set ht ?_, ht⟩
    have := HD.out.blk.set 2 (.int .i64 k)
    simpa using this
def NewPost (w : World) (size : Int) (e : Ending) (w' : World) : Prop := Below w.heap.size w w' ∧
    (((size < 0 ∨ 1099511627776 < size) ∧ e = .returned (.tuple #[.pointer none, .int .i64 2])) ∨
      (0 ≤ size ∧ size ≤ 1099511627776 ∧ ∃ d F, e = .returned (.tuple #[ptr d, .int .i64 0]) ∧ DAt w' d F ⟨size, [], -1, false⟩ ∧ ∀ b ∈ F, w.heap.size ≤ b))
theorem new_m (w : World) (size : Int) : Calls Tryz.prog 7 #[.int .i64 size] w fun e w' => NewPost w size e w' := by
  have hmm := @run_makeMap Tryz.prog
  go_enter Tryz.func7, Tryz.ntmps7
  by_cases h1 : size < 0
  · go_wp2
    go_ret2
    exact ⟨Below.refl _ _, .inl ⟨.inl h1, rfl⟩⟩
  · by_cases h2 : 1099511627776 < size
    · go_wp2
      go_ret2
      exact ⟨Below.refl _ _, .inl ⟨.inr h2, rfl⟩⟩
    · go_wp2
      go_ret2
      have hb1 : Below w.heap.size w (w.alloc (.map #[] 0)) := (Below.refl _ w).alloc (Nat.le_refl _) _
      refine ⟨hb1.alloc (by simp) _, .inr ⟨by omega, by omega, w.heap.size + 1, [w.heap.size + 1, w.heap.size], by simp [ptr], ?_, by simp⟩⟩
      refine ⟨w.heap.size, .map [], fun _ => 0, fun _ => none, ?_, (World.ownsMap_made w Tryz.prog 9 ptrElem).alloc _, fun n => rfl, (fun n f hn => by cases hn), (fun n m _ hn => by cases hn), ⟨by simp, by simp, fun n f hn => by cases hn⟩, by simp; omega⟩
      have := Blk.new (w.alloc (.map #[] 0)) 70 #[.map (some w.heap.size), .int .i64 size, .int .i64 (-1), .bool false]
      simpa using this
theorem told_m (h : DM w d M Dm gb hb F D) (n : Nm) (hl : n.length ≤ 1000) (fn : Nat) (hent : ∀ args W, (callFunc fn args).run Tryz.prog W = .ok (.enter fn args) W) (t : Fil → Int)
    (ht : ∀ f, get D.fs n = some f → Calls Tryz.prog fn #[ptr (gb n)] w fun e w' => e = .returned (.int .i64 (t f)) ∧ w' = w) :
    Calls Tryz.prog 83 #[ptr d, S n, .func (.func fn) #[] #[]] w fun e w' => e = .returned (.int .i64 (match get D.fs n with | some f => t f | none => -1)) ∧ Below w.heap.size w w' := by
  have W1 := hid (unmade_any h)
  have hc := h.blk.cell 0
  simp at hc
  have hlk := h.look n hl true
  clear h
  generalize S n = s at *
  generalize gb n = g at *
  cases hg : Dsk.get D.fs n with
  | none =>
    have h1 := hlk.2 hg
    rw [if_pos rfl] at h1
    clear hlk ht
    go_enter Tryz.func83, Tryz.ntmps83
    go_wp2_with fail
    refine W1.out.mono ?_
    rintro e w1 ⟨rfl, rfl⟩
    go_wp2_with fail
    go_ret
    exact ⟨rfl, Below.refl _ _⟩
  | some f =>
    have h1 := hlk.1 f hg
    rw [if_pos rfl] at h1
    have W2 := hid (ht f hg)
    clear hlk ht
    show Calls _ _ _ _ fun e w' => e = .returned (.int .i64 (t f)) ∧ _
    generalize t f = z at *
    go_enter Tryz.func83, Tryz.ntmps83
    go_wp2_with fail
    refine W1.out.mono ?_
    rintro e w1 ⟨rfl, rfl⟩
    go_wp2_with fail
    refine W2.out.mono ?_
    rintro e w1 ⟨rfl, rfl⟩
    go_wp2_with fail
    go_ret
    exact ⟨rfl, Below.refl _ _⟩
theorem size_m (h : DM w d M Dm gb hb F D) (n : Nm) (hl : n.length ≤ 1000) : Calls Tryz.prog 39 #[ptr d, S n] w fun e w' => e = .returned (.int .i64 (dSize D n)) ∧ Below w.heap.size w w' := by
  have W1 := hid (told_m h n hl 84 (enters_of Tryz.func84 (by kernel_rfl) rfl) (fun f => (f.b.length : Int)) (by
    intro f hf
    obtain ⟨A, cap, hblk, _, _⟩ := (h.at_ n f hf).2
    have hc := hblk.cell 0
    simp at hc
    generalize f.b.length = z at *
    generalize gb n = g at *
    clear h hf hblk
    go_enter Tryz.func84, Tryz.ntmps84
    go_wp2_with fail
    go_ret
    exact ⟨rfl, rfl⟩))
  clear h
  have e0 : dSize D n = (match Dsk.get D.fs n with | some f => (f.b.length : Int) | none => -1) := rfl
  rw [← e0] at W1
  clear e0
  generalize dSize D n = z at *
  generalize S n = s at *
  go_enter Tryz.func39, Tryz.ntmps39
  go_wp2_with fail
  refine W1.out.mono ?_
  rintro e w1 ⟨rfl, hb⟩
  go_wp2_with fail
  go_ret
  exact ⟨rfl, hb⟩
theorem synced_m (h : DM w d M Dm gb hb F D) (n : Nm) (hl : n.length ≤ 1000) : Calls Tryz.prog 68 #[ptr d, S n] w fun e w' => e = .returned (.int .i64 (dSynced D n)) ∧ Below w.heap.size w w' := by
  have W1 := hid (told_m h n hl 99 (enters_of Tryz.func99 (by kernel_rfl) rfl) (fun f => (f.s : Int)) (by
    intro f hf
    obtain ⟨A, cap, hblk, _, _⟩ := (h.at_ n f hf).2
    have hc := hblk.cell 1
    simp at hc
    generalize gb n = g at *
    clear h hf hblk
    go_enter Tryz.func99, Tryz.ntmps99
    go_wp2_with fail
    go_ret
    exact ⟨rfl, rfl⟩))
  clear h
  have e0 : dSynced D n = (match Dsk.get D.fs n with | some f => (f.s : Int) | none => -1) := rfl
  rw [← e0] at W1
  clear e0
  generalize dSynced D n = z at *
  generalize S n = s at *
  go_enter Tryz.func68, Tryz.ntmps68
  go_wp2_with fail
  refine W1.out.mono ?_
  rintro e w1 ⟨rfl, hb⟩
  go_wp2_with fail
  go_ret
  exact ⟨rfl, hb⟩
end
end Go.Proofs.YtpckloafdlkefaaGreat
namespace Go.Proofs.YtpckloafdlkefaaGreat
set_option maxRecDepth 40000
open Go.RowKit Go.Maps Go.Shelf Dsk

theorem infoS : (Tryz.prog.info? 9).map (fun i => (i.zero, i.size, i.bytes)) = some (some (.string ⟨#[]⟩), 1, 16) := by kernel_rfl
theorem Ss_one (l : List Nm) : ∀ u ∈ Ss l, u.oneCell' = true := by
  intro u hu
  simp only [Ss, List.mem_map] at hu
  obtain ⟨n, _, rfl⟩ := hu
  rfl
def found (D : Dk) (l : List Nm) (n : Nm) : Int := if wrong D (l ++ [n]) ≠ 0 then wrong D (l ++ [n]) else if get D.fs n = none then 6 else 0
def fptr (g : Nat) (r : Int) : Value := if r = 0 then ptr g else .pointer none
theorem found_ready (D : Dk) (n : Nm) : found D [] n = ready D n := by
  unfold found ready wrong
  simp only [List.nil_append, List.all_cons, List.all_nil, Bool.and_true]
  cases D.off <;> cases okN n <;> simp
section
variable {w : World} {d M : Nat} {Dm : DataW Unit} {gb : Nm → Nat} {hb : Nm → Option Nat} {F : List Nat} {D : Dk}
set_option maxHeartbeats 1000000 in
set_option maxRecDepth 20000 in
theorem find_any (h : DM w d M Dm gb hb F D) (n : Nm) (hl : n.length ≤ 1000) (A : Option Addr) (k c base : Nat) (l : List Nm) (hll : ∀ m ∈ l, m.length ≤ 1000) (hk : k ≤ 900) (hown : w.ownsRow base 9 1 (.slice A k c) k (Ss l)) (hbase : base ≤ w.heap.size) (hF : ∀ g, A.map (·.block) = some g → g ∉ F) :
    Calls Tryz.prog 71 #[ptr d, S n, .slice A k c] w fun e w' => e = .returned (.tuple #[fptr (gb n) (found D l n), .int .i64 (found D l n)]) ∧ Touch w w' (A.map (·.block)).toList := by
  obtain ⟨i0, hi, hz0, hz1, hz2⟩ := info_parts infoS
  have HD := hid h
  obtain ⟨sb, hsb⟩ : ∃ sb, S n = .string sb := ⟨_, rfl⟩
  have HSB := hid hsb
  have HR : Hid (Row (w.alloc (.cells #[.string sb] 9)) w.heap.size (w.heap.size + 1) (some ⟨w.heap.size, 0, none⟩) 1 (Ss [n])) := hid (by rw [← hsb]; exact row_one w 9 (S n))
  have HO := hid (hown.alloc (.cells #[.string sb] 9))
  rw [hsb]
  clear h hsb
  go_enter Tryz.func71, Tryz.ntmps71
  go_wp2_with (at_builtin; go_loud (refine wpList_append_row _ rfl _ _ 83 rfl base 9 i0 (.string ⟨#[]⟩) 16 Tryz.underlying83 hi hz0 hz1 hz2 rfl (.slice A k c) k (Ss l) rfl HO.out w.heap.size (w.heap.size + 1) (some ⟨w.heap.size, 0, none⟩) 1 1 rfl (fun e => by cases e) (Ss [n]) HR.out (Ss_one _) (by unfold maxLen; omega) (by omega) (by simp; omega) ?_); intro v' w1 hown1 hgrow hblk)
  obtain ⟨A', c', rfl, _, _⟩ := own_shape hown1
  have e1 : Ss l ++ Ss [n] = Ss (l ++ [n]) := by simp [Ss]
  rw [e1] at hown1
  have ht1 : Touch w w1 (A.map (·.block)).toList := by
    have ha : Touch w (w.alloc (.cells #[.string sb] 9)) (A.map (·.block)).toList := touch_below ((Below.refl _ w).alloc (Nat.le_refl _) _) _
    refine ha.then (touch_grown (F := (A.map (·.block)).toList) hgrow (fun g hg => ?_)) (fun _ _ h => h)
    cases A with
    | none => cases hg
    | some a => simpa [Value.ownBlock] using hg.symm
  have hD1 : DM w1 d M Dm gb hb F D := HD.out.touch ht1 (fun b hb hm => hF b (by simpa using hm) hb)
  have W2 := hid (refusal_any hD1 A' (k + 1) c' base w1.heap.size (l ++ [n]) (by
    intro m hm
    rcases List.mem_append.1 hm with hm | hm
    · exact hll m hm
    · rw [List.mem_singleton.1 hm]; exact hl) (Row.of_own hown1) (Nat.le_refl _) (by omega))
  have hc := hD1.blk.cell 0
  simp at hc
  have HT := hid ht1
  have HD1 := hid hD1
  clear hown1 hgrow hblk ht1 hD1
  have HF : Hid (found D l n = if wrong D (l ++ [n]) ≠ 0 then wrong D (l ++ [n]) else if get D.fs n = none then 6 else 0) := hid rfl
  generalize wrong D (l ++ [n]) = r1 at *
  generalize hgg : gb n = g
  have HG := hid hgg
  clear hgg
  go_wp2_with fail
  refine W2.out.mono ?_
  rintro e w2 ⟨rfl, hb2⟩
  have hc2 := (hb2.cell (p := ⟨d, 0, none⟩) HD1.out.blk.lt).trans hc
  have hlk := (HD1.out.below hb2).look n hl true
  rw [HSB.out, HG.out] at hlk
  have HT2 := hid (HT.out.then (touch_below hb2 []) (fun _ _ h => by cases h))
  by_cases h0 : r1 = 0
  · subst h0
    cases hg : Dsk.get D.fs n with
    | none =>
      have h1 := hlk.2 hg
      rw [if_pos rfl] at h1
      clear hlk
      go_wp2_with fail
      go_ret2
      refine ⟨?_, HT2.out⟩
      rw [HF.out, hg]
      rfl
    | some f =>
      have h1 := hlk.1 f hg
      rw [if_pos rfl] at h1
      clear hlk
      go_wp2_with fail
      go_ret2
      refine ⟨?_, HT2.out⟩
      rw [HF.out, hg, HG.out]
      rfl
  · clear hlk
    go_wp2_with fail
    go_ret2
    refine ⟨?_, HT2.out⟩
    rw [HF.out, if_pos h0]
    unfold fptr
    rw [if_neg h0]
    rfl
end
end Go.Proofs.YtpckloafdlkefaaGreat
namespace Go.Proofs.YtpckloafdlkefaaGreat
set_option maxRecDepth 40000
open Go.RowKit Go.Maps Go.Shelf Dsk

/-- The bytes of those files that a range is through with. -/
def usedBy (left : Lit → Bool) : Fs → Nat
  | [] => 0
  | (n, f) :: r => (if left (.string n) then 0 else f.b.length) + usedBy left r
theorem usedBy_le (left : Lit → Bool) (fs : Fs) : usedBy left fs ≤ used fs := by
  induction fs with
  | nil => exact Nat.le_refl _
  | cons x r ih => obtain ⟨n, f⟩ := x; simp only [usedBy, used]; split <;> omega
theorem usedBy_all {left : Lit → Bool} {fs : Fs} (h : ∀ kl, left kl = false) : usedBy left fs = used fs := by
  induction fs with
  | nil => rfl
  | cons x r ih => obtain ⟨n, f⟩ := x; simp only [usedBy, used, h]; rw [ih]; simp
theorem usedBy_none {left : Lit → Bool} {fs : Fs} (h : ∀ n f, (n, f) ∈ fs → left (.string n) = true) : usedBy left fs = 0 := by
  induction fs with
  | nil => rfl
  | cons x r ih =>
    obtain ⟨n, f⟩ := x
    simp only [usedBy]
    rw [h n f List.mem_cons_self, ih fun m g hm => h m g (List.mem_cons_of_mem _ hm)]
    rfl
theorem same_key (n m : Nm) : (Lit.string m).sameKey (.string n) = decide (m = n) := by
  by_cases h : m = n
  · subst h; simp [Lit.sameKey]
  · rw [sameKey_ne (nm_ne h)]; simp [h]
theorem usedBy_far {left : Lit → Bool} {fs : Fs} {n : Nm} (h : ∀ x ∈ fs, x.1 ≠ n) : usedBy (fun z => left z && !z.sameKey (.string n)) fs = usedBy left fs := by
  induction fs with
  | nil => rfl
  | cons x r ih =>
    obtain ⟨m, f⟩ := x
    have hm : m ≠ n := h (m, f) List.mem_cons_self
    simp only [usedBy, same_key, decide_eq_false hm, Bool.not_false, Bool.and_true]
    rw [← ih fun y hy => h y (List.mem_cons_of_mem _ hy)]
theorem usedBy_step {left : Lit → Bool} {fs : Fs} (hr : Rises fs) {n : Nm} {f : Fil} (hn : Dsk.get fs n = some f) (hl : left (.string n) = true) : usedBy (fun z => left z && !z.sameKey (.string n)) fs = usedBy left fs + f.b.length := by
  induction fs with
  | nil => cases hn
  | cons x r ih =>
    obtain ⟨m, g⟩ := x
    simp only [Dsk.get] at hn
    by_cases e : m = n
    · subst e
      rw [if_pos rfl] at hn
      injection hn with hn
      subst hn
      have h2 := usedBy_far (left := left) (fs := r) (n := m) (fun y hy e => by have := hr.1 y hy; rw [e, nlt_irrefl] at this; cases this)
      simp only [usedBy]
      rw [h2]
      simp [same_key, hl]
      omega
    · rw [if_neg e] at hn
      simp only [usedBy]
      rw [ih hr.2 hn]
      simp only [same_key, decide_eq_false e, Bool.not_false, Bool.and_true]
      omega
def mkP (o : Option Nat) : Value := .pointer (o.map fun g => ⟨g, 0, none⟩)
theorem inv_key : ∀ key kl, keyOf Tryz.prog 9 key = some kl → ∃ n : Nm, key = S n := fun key kl h => by
  obtain ⟨x, rfl, _, _⟩ := keyOf_str Tryz.underlying9 h
  exact ⟨x, rfl⟩
theorem key_lit {n : Nm} {kl : Lit} (h : keyOf Tryz.prog 9 (S n) = some kl) : kl = .string n := by
  obtain ⟨x, e, rfl, _⟩ := keyOf_str Tryz.underlying9 h
  have : n = x := by simpa [S] using e
  rw [this]
theorem inv_ptr : ∀ v y, ptrElem v = some y → ∃ c, v = mkP c := fun v y h => by
  rcases ptr_inv h with ⟨rfl, _⟩ | ⟨g, rfl, _⟩
  · exact ⟨none, rfl⟩
  · exact ⟨some g, rfl⟩
section
variable {w : World} {d M : Nat} {Dm : DataW Unit} {gb : Nm → Nat} {hb : Nm → Option Nat} {F : List Nat} {D : Dk}
/-- What comes next of a range over the files. -/
theorem came (h : DM w d M Dm gb hb F D) {n : Nm} {c : Option Nat} {kl : Lit} {y : DataW Unit × List MemPlace} (hk : keyOf Tryz.prog 9 (S n) = some kl) (hh : Maps.has Dm kl = true) (hy : ptrElem (mkP c) = some y) (hat : ∀ zd, Dm.atKey kl zd = y.1) :
    kl = .string n ∧ ∃ f, get D.fs n = some f ∧ mkP c = ptr (gb n) := by
  obtain rfl := key_lit hk
  refine ⟨rfl, ?_⟩
  rw [h.has] at hh
  obtain ⟨f, hf⟩ := Option.isSome_iff_exists.1 hh
  refine ⟨f, hf, ?_⟩
  have h1 := (h.at_ n f hf).1 (.lit (.int .i64 0))
  rw [hat] at h1
  obtain ⟨y1, y2⟩ := y
  simp only at h1
  subst h1
  exact ptr_is hy
set_option maxHeartbeats 1000000 in
set_option maxRecDepth 20000 in
theorem used_m (h : DM w d M Dm gb hb F D) (hw : Whole D) : Calls Tryz.prog 62 #[ptr d] w fun e w' => e = .returned (.int .i64 (Dsk.used D.fs : Int)) ∧ Below w.heap.size w w' := by
  have W1 := hid (unmade_any h)
  have hc := h.blk.cell 0
  simp at hc
  have HD := hid h
  have HW := hid hw
  have hown := h.map
  clear h hw
  go_enter Tryz.func62, Tryz.ntmps62
  go_wp2_with fail
  refine W1.out.mono ?_
  rintro e w1 ⟨rfl, rfl⟩
  go_wp2_with (first | (at_range; refine wpList_range_own _ rfl _ 68 rfl 9 85 keyedS Tryz.underlying68 _ M D.fs.length _ rfl hown ?_; intro w0 hrg0 hg0 hs0) | go_in)
  go_frame
  go_loopw [3, 5] (fun x _ wr => ∃ (left : Lit → Bool) (cnt : Nat), wr.ranges Tryz.prog 9 ptrElem M w1.heap.size D.fs.length Dm left cnt ∧ Below w1.heap.size w1 wr ∧ (∀ kl, left kl = true → Maps.has Dm kl = true) ∧ x = .int .i64 (usedBy left D.fs : Int)) (fun _ _ wr => wr.rangeLeft M w1.heap.size)
  case atStart =>
    refine ⟨_, _, hrg0, below_of_only hg0 (Nat.le_refl _) (fun g hg => by cases hg), fun _ h => h, ?_⟩
    rw [usedBy_none]
    · rfl
    · intro n f hm
      rw [HD.out.has, get_of_mem HW.out.rises hm]; rfl
  case round =>
    obtain ⟨left, cnt, hrg, hbl, hlh, rfl⟩ := hrel
    have HL := hid hlh
    have HB := hid hbl
    clear hlh hbl
    have HU := hid (usedBy_le left D.fs)
    go_wp2_with (first | (at_next; refine wpList_next_ranges _ rfl _ rfl 9 keyedS ptrElem S mkP inv_key inv_ptr M w1.heap.size D.fs.length Dm left cnt rfl hrg ?_ ?_) | go_in)
    · intro _ hl0
      go_wp2
      go_ret
      exact ⟨by rw [usedBy_all hl0]; rfl, HB.out⟩
    · intro n c kl y1 y2 w2 cnt2 hkey hlk hy hat hrg2 hlt hg2 hs2 hen
      have HD2 := HD.out.below HB.out
      obtain ⟨hkl, f, hf, hcp⟩ := came HD2 hkey (HL.out kl hlk) hy hat
      subst hkl
      rw [hcp] at hen ⊢
      have hb2 : Below w1.heap.size w1 w2 := HB.out.grown hg2 (by have := HB.out.size; omega) (fun g hg => by injection hg with hg; omega)
      obtain ⟨A, cap, hblk, hrow, _⟩ := ((HD.out.below hb2).at_ n f hf).2
      have hcell := hblk.cell 0
      simp at hcell
      have HS := hid (usedBy_step HW.out.rises hf hlk)
      have HU2 := hid (usedBy_le (fun z => left z && !z.sameKey (.string n)) D.fs)
      have hroom := HW.out.room
      have htop := HW.out.top
      have hsum : IntKind.i64.wrap ((usedBy left D.fs : Int) + (f.b.length : Int)) = (usedBy left D.fs : Int) + (f.b.length : Int) := by
        have h1 := HS.out
        have h2 := HU2.out
        simp [IntKind.wrap, IntKind.bits, IntKind.signed]; omega
      have HRG := hid hrg2
      have HEQ : Hid (w2.rangeLeft M w1.heap.size < wr.rangeLeft M w1.heap.size) := hid (by rw [hrg2.left_eq, hrg.left_eq]; omega)
      clear hrg2 hrg hroom htop hrow hblk hat hy hkey
      generalize f.b.length = fl at *
      generalize gb n = g at *
      go_wp2
      go_roundw
      case rel => exact ⟨_, _, HRG.out, hb2, fun kl h => HL.out kl (by simp at h; exact h.1), by rw [HS.out]; simp⟩
      case measure => exact HEQ.out
end
end Go.Proofs.YtpckloafdlkefaaGreat
