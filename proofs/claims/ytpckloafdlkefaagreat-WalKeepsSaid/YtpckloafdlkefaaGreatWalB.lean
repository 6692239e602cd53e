/-
  A log in memory: its block beside its disk; contracts of wal's unmade, refusal, Next, Broken, Size.
  Contracts of wal's operate, write, Append, Reset, Skip, Size.
  Contracts of wal's Append, Reset, Skip, Size: what they answer, and what they leave of the log and its disk.
  Contracts of wal's Reset and Skip.
  Contract of wal's Open.
  A log that a law made: what its calls leave, on a disk that holds nothing else and never wants for power.
  Chapter 8's example, asked ahead of each law.
-/
import Derived.Test.YtpckloafdlkefaaGreatWalA
import Derived.Test.YtpckloafdlkefaaGreatDiskD
import Derived.Defers
import Derived.Test.YtpckloafdlkefaaGreatConcat
namespace Go.Proofs.YtpckloafdlkefaaGreat
set_option maxRecDepth 40000
open Go.RowKit Go.Joins Go.Maps Dsk Regs

def logN : Nm := [108, 111, 103]
theorem S_log : Value.string ⟨#[108, 111, 103]⟩ = S logN := rfl
theorem log_len : logN.length ≤ 1000 := by decide
theorem log_ok : okN logN = true := by decide
/-- The log's block. -/
def WB (w : World) (g d : Nat) (nx : Nat) (br : Bool) : Prop := Blk w g 77 #[ptr d, .int .u64 (nx : Int), .bool br]
section
variable {w : World} {g d nx : Nat} {br : Bool}
theorem WB.c0 (h : WB w g d nx br) : w.cell? ⟨g, 0, none⟩ = some (ptr d) := by have := Blk.cell h 0; simpa using this
theorem WB.c1 (h : WB w g d nx br) : w.cell? ⟨g, 1, none⟩ = some (.int .u64 (nx : Int)) := by have := Blk.cell h 1; simpa using this
theorem WB.c2 (h : WB w g d nx br) : w.cell? ⟨g, 2, none⟩ = some (.bool br) := by have := Blk.cell h 2; simpa using this
theorem eql_ptr (W : World) (g : Nat) : (binOp .eql 29 (ptr g) (.pointer none)).run Tryz.prog W = .ok (.bool false) W := by kernel_rfl
theorem eql_ptrd (W : World) (g : Nat) : (binOp .eql 25 (ptr g) (.pointer none)).run Tryz.prog W = .ok (.bool false) W := by kernel_rfl
theorem unmade_w (h : WB w g d nx br) : Calls Tryz.prog 34 #[ptr g] w fun e w' => e = .returned (.bool false) ∧ w' = w := by
  have hc := h.c0
  have e1 := eql_ptr w g
  have e2 := eql_ptrd w d
  clear h
  go_enter Tryz.func34, Tryz.ntmps34
  go_wp2_with fail
  go_ret
  exact ⟨rfl, rfl⟩
theorem unmade_nilw (w : World) : Calls Tryz.prog 34 #[.pointer none] w fun e w' => e = .returned (.bool true) ∧ w' = w := by
  go_enter Tryz.func34, Tryz.ntmps34
  go_wp2_with fail
  go_ret
  exact ⟨rfl, rfl⟩
def refW (br : Bool) : Int := if br then 10 else 0
theorem refusal_w (h : WB w g d nx br) : Calls Tryz.prog 35 #[ptr g] w fun e w' => e = .returned (.int .i64 (refW br)) ∧ w' = w := by
  have U1 := hid (unmade_w h)
  have hc := h.c2
  clear h
  cases br
  all_goals
    go_enter Tryz.func35, Tryz.ntmps35
    go_wp2_with fail
    refine U1.out.mono ?_
    rintro e w' ⟨rfl, rfl⟩
    go_wp2
    go_ret
    exact ⟨rfl, rfl⟩
theorem refusal_nilw (w : World) : Calls Tryz.prog 35 #[.pointer none] w fun e w' => e = .returned (.int .i64 1) ∧ w' = w := by
  have U1 := hid (unmade_nilw w)
  go_enter Tryz.func35, Tryz.ntmps35
  go_wp2_with fail
  refine U1.out.mono ?_
  rintro e w' ⟨rfl, rfl⟩
  go_wp2
  go_ret
  exact ⟨rfl, rfl⟩
theorem next_w (h : WB w g d nx br) : Calls Tryz.prog 11 #[ptr g] w fun e w' => e = .returned (.int .u64 (nx : Int)) ∧ w' = w := by
  have U1 := hid (unmade_w h)
  have hc := h.c1
  clear h
  go_enter Tryz.func11, Tryz.ntmps11
  go_wp2_with fail
  refine U1.out.mono ?_
  rintro e w' ⟨rfl, rfl⟩
  go_wp2
  go_ret
  exact ⟨rfl, rfl⟩
theorem next_nilw (w : World) : Calls Tryz.prog 11 #[.pointer none] w fun e w' => e = .returned (.int .u64 0) ∧ w' = w := by
  have U1 := hid (unmade_nilw w)
  go_enter Tryz.func11, Tryz.ntmps11
  go_wp2_with fail
  refine U1.out.mono ?_
  rintro e w' ⟨rfl, rfl⟩
  go_wp2
  go_ret
  exact ⟨rfl, rfl⟩
theorem broken_w (h : WB w g d nx br) : Calls Tryz.prog 10 #[ptr g] w fun e w' => e = .returned (.bool br) ∧ w' = w := by
  have U1 := hid (unmade_w h)
  have hc := h.c2
  clear h
  cases br
  all_goals
    go_enter Tryz.func10, Tryz.ntmps10
    go_wp2_with fail
    refine U1.out.mono ?_
    rintro e w' ⟨rfl, rfl⟩
    go_wp2
    go_ret
    exact ⟨rfl, rfl⟩
theorem broken_nilw (w : World) : Calls Tryz.prog 10 #[.pointer none] w fun e w' => e = .returned (.bool false) ∧ w' = w := by
  have U1 := hid (unmade_nilw w)
  go_enter Tryz.func10, Tryz.ntmps10
  go_wp2_with fail
  refine U1.out.mono ?_
  rintro e w' ⟨rfl, rfl⟩
  go_wp2
  go_ret
  exact ⟨rfl, rfl⟩
def wSize (D : Dk) : Nat := (file D logN).b.length
theorem size_nilw (w : World) : Calls Tryz.prog 30 #[.pointer none] w fun e w' => e = .returned (.int .i64 0) ∧ w' = w := by
  have U1 := hid (unmade_nilw w)
  go_enter Tryz.func30, Tryz.ntmps30
  go_wp2_with fail
  refine U1.out.mono ?_
  rintro e w' ⟨rfl, rfl⟩
  go_wp2
  go_ret
  exact ⟨rfl, rfl⟩
theorem reset_nilw (w : World) : Calls Tryz.prog 14 #[.pointer none] w fun e w' => e = .returned (.int .i64 1) ∧ Below w.heap.size w w' := by
  have U1 := hid (refusal_nilw (w.alloc (.cells #[.pointer none] 29)))
  go_enter Tryz.func14, Tryz.ntmps14
  go_wp2_with fail
  refine U1.out.mono ?_
  rintro e w' ⟨rfl, rfl⟩
  go_wp2
  go_ret
  exact ⟨rfl, (Below.refl _ w).alloc (Nat.le_refl _) _⟩
theorem append_nilw (w : World) (A : Option Addr) (n c : Nat) : Calls Tryz.prog 12 #[.pointer none, .slice A n c] w fun e w' => e = .returned (.tuple #[.int .u64 0, .int .i64 1]) ∧ Below w.heap.size w w' := by
  have U1 := hid (refusal_nilw ((w.alloc (.cells #[.pointer none] 29)).alloc (.cells #[.slice A n c] 33)))
  go_enter Tryz.func12, Tryz.ntmps12
  go_wp2_with fail
  refine U1.out.mono ?_
  rintro e w' ⟨rfl, rfl⟩
  go_wp2
  go_ret2
  exact ⟨rfl, ((Below.refl _ w).alloc (Nat.le_refl _) _).alloc (by simp) _⟩
end
end Go.Proofs.YtpckloafdlkefaaGreat
namespace Go.Proofs.YtpckloafdlkefaaGreat
set_option maxRecDepth 40000
open Go.RowKit Go.Joins Go.Maps Dsk Regs

section
variable {w : World} {g d nx : Nat} {F : List Nat} {D : Dk} {k : Nat}
/-- What the deferred closure leaves: broken, unless nothing or only room was wanting. -/
def breaks (r : Int) : Bool := decide (r ≠ 0 ∧ r ≠ 7)
theorem breaks_zero : breaks 0 = false := rfl
/-- What an operation of the log leaves. -/
def WDid (w : World) (g d nx : Nat) (F : List Nat) (r : Int × Dk) (e : Ending) (w' : World) : Prop :=
  e = .returned (.int .i64 r.1) ∧ WB w' g d nx (breaks r.1) ∧ ∃ F', DAt w' d F' r.2 ∧ Touch w w' (g :: F) ∧ ∀ b ∈ F', b ∈ F ∨ w.heap.size ≤ b
/-- The deferred closure. -/
theorem defer_w {W : World} {t x : Nat} {r : Int} (hr : W.cell? ⟨t, 0, none⟩ = some (.int .i64 r)) (hx : W.cell? ⟨x, 0, none⟩ = some (ptr g)) (hB : WB W g d nx false) :
    CallsD Tryz.prog 79 #[.pointer (some ⟨t, 0, none⟩), .pointer (some ⟨x, 0, none⟩)] .returning W fun e u' W' => u' = .returning ∧ (e = .returned (.tuple #[]) ∧ WB W' g d nx (breaks r) ∧ Touch W W' [g]) := by
  have h2 := hB.c2
  have f2 : W.frozen? ⟨g, 2, none⟩ = false := Blk.frozen hB 2
  have hs : WB (W.setCell ⟨g, 2, none⟩ (.bool true)) g d nx true := Blk.set hB 2 (.bool true)
  have ht : Touch W (W.setCell ⟨g, 2, none⟩ (.bool true)) [g] := touch_grown (only_set (World.grownBy.refl W (some g)) 2 (.bool true)) (fun i hi => by injection hi with hi; subst hi; exact List.mem_singleton.2 rfl)
  have HS := hid hs
  have HT := hid ht
  have HBB := hid hB
  clear hs ht hB
  by_cases h0 : r = 0
  · subst h0
    go_enter_d Tryz.func79, Tryz.ntmps79
    go_wp2
    go_end0
    exact ⟨rfl, HBB.out, Touch.refl _ _⟩
  · have e0 : (r != 0) = true := by simpa using h0
    by_cases h7 : r = 7
    · subst h7
      go_enter_d Tryz.func79, Tryz.ntmps79
      go_wp2
      go_end0
      exact ⟨rfl, HBB.out, Touch.refl _ _⟩
    · have e7 : (r != 7) = true := by simpa using h7
      have hb : breaks r = true := by unfold breaks; simp [h0, h7]
      rw [hb]
      go_enter_d Tryz.func79, Tryz.ntmps79
      go_wp2
      go_end0
      exact ⟨rfl, HS.out, HT.out⟩
set_option maxHeartbeats 2000000 in
theorem operate_w (hB : WB w g d nx false) (hD : DAt w d F D) (hg : g ∉ F) (fn : Nat) (cap : Array Value) (hent : ∀ args W, (callFunc fn args).run Tryz.prog W = .ok (.enter fn args) W) (res : Int × Dk)
    (hdo : ∀ w1, Below w.heap.size w w1 → Calls Tryz.prog fn cap w1 (Did0 w1 d F res)) :
    Calls Tryz.prog 36 #[ptr g, .func (.func fn) #[] cap] w (WDid w g d nx F res) := by
  have hmf : ∀ (fn : Fn) (first cap : Array Value) (w : World), (Instr.makeFunc fn first cap).run Tryz.prog w = .ok (.func fn first cap) w := fun _ _ _ _ => rfl
  obtain ⟨w1, hw1⟩ : ∃ w1, w1 = (w.alloc (.cells #[ptr g] 29)).alloc (.cells #[.int .i64 0] 26) := ⟨_, rfl⟩
  have hb1 : Below w.heap.size w w1 := by rw [hw1]; exact ((Below.refl _ w).alloc (Nat.le_refl _) _).alloc (by simp) _
  have hs1 : w1.heap.size = w.heap.size + 1 + 1 := by rw [hw1]; simp
  have K1 : Blk w1 w.heap.size 29 #[ptr g] := by rw [hw1]; exact (Blk.new w _ _).alloc _
  have K2 : Blk w1 (w.heap.size + 1) 26 #[.int .i64 0] := by rw [hw1]; have := Blk.new (w.alloc (.cells #[ptr g] 29)) 26 #[.int .i64 0]; rwa [World.size_alloc] at this
  have DO := hid (hdo w1 hb1)
  have HW1 := hid hw1
  have hlt := hD.lt
  have hgl := Blk.lt hB
  have KEEP : Hid (∀ W, Touch w1 W F → Blk W w.heap.size 29 #[ptr g] ∧ Blk W (w.heap.size + 1) 26 #[.int .i64 0] ∧ WB W g d nx false) := hid fun W hW =>
    ⟨K1.touch hW (fun h => by have := hlt _ h; omega), K2.touch hW (fun h => by have := hlt _ h; omega), Blk.touch (Blk.below hB hb1 hgl) hW hg⟩
  have HB1 := hid hb1
  have HS1 := hid hs1
  have HLT := hid hlt
  have HG := hid hg
  clear hdo hw1 K1 K2 hB hD hlt hb1 hs1 hg
  go_enter_defers Tryz.func36, Tryz.ntmps36
  go_wp2_with fail
  rw [← HW1.out]
  refine DO.out.mono ?_
  rintro e w2 ⟨rfl, F', hD2, hT2, hF2⟩
  obtain ⟨k1, k2, k3⟩ := KEEP.out w2 hT2
  have c2 : w2.cell? ⟨w.heap.size + 1, 0, none⟩ = some (.int .i64 0) := by have := k2.cell 0; simpa using this
  have f2 := k2.frozen 0
  go_wp2
  obtain ⟨w3, hw3⟩ : ∃ w3, w3 = w2.setCell ⟨w.heap.size + 1, 0, none⟩ (.int .i64 res.1) := ⟨_, rfl⟩
  have hs12 : w1.heap.size ≤ w2.heap.size := hT2.size
  have hgw := HLT.out
  have hs1 := HS1.out
  have T23 : Touch w2 w3 [w.heap.size + 1] := by rw [hw3]; exact touch_grown (only_set (World.grownBy.refl w2 (some (w.heap.size + 1))) 0 _) (fun i hi => by injection hi with hi; subst hi; exact List.mem_singleton.2 rfl)
  have k1' : Blk w3 w.heap.size 29 #[ptr g] := k1.touch T23 (by simp)
  have k2' : Blk w3 (w.heap.size + 1) 26 #[.int .i64 res.1] := by rw [hw3]; have := k2.set 0 (.int .i64 res.1); simpa using this
  have k3' : WB w3 g d nx false := Blk.touch k3 T23 (by simp; omega)
  rw [← hw3]
  have r3 : w3.cell? ⟨w.heap.size + 1, 0, none⟩ = some (.int .i64 res.1) := by have := k2'.cell 0; simpa using this
  have x3 : w3.cell? ⟨w.heap.size, 0, none⟩ = some (ptr g) := by have := k1'.cell 0; simpa using this
  refine leaves_cons (f := 79) (args := #[.pointer (some ⟨w.heap.size + 1, 0, none⟩), .pointer (some ⟨w.heap.size, 0, none⟩)]) (by simp) (by simp [go_sem]) ?_
  refine (defer_w r3 x3 k3').mono ?_
  rintro e u' w4 ⟨rfl, rfl, hWB, hT4⟩
  have k2'' := k2'.touch hT4 (by simp; omega)
  have r4 : w4.cell? ⟨w.heap.size + 1, 0, none⟩ = some (.int .i64 res.1) := by have := k2''.cell 0; simpa using this
  have hD4 : DAt w4 d F' res.2 := (hD2.touch T23 (fun b hb hm => by
    rw [List.mem_singleton] at hm
    rcases hF2 b hb with h | h
    · have := hgw b h; omega
    · omega)).touch hT4 (fun b hb hm => by
    rw [List.mem_singleton] at hm
    subst hm
    rcases hF2 b hb with h | h
    · exact HG.out h
    · omega)
  have T04 : Touch w w4 (g :: F) := (((touch_below HB1.out (g :: F)).then hT2 (fun i _ hi => List.mem_cons_of_mem _ hi)).then T23 (fun i hi hm => by rw [List.mem_singleton] at hm; omega)).then hT4 (fun i _ hm => by rw [List.mem_singleton] at hm; subst hm; exact List.mem_cons_self)
  have fin : WDid w g d nx F res (.returned (.int .i64 res.1)) w4 := ⟨rfl, hWB, F', hD4, T04, fun b hb => (hF2 b hb).imp id (fun h => by omega)⟩
  simp [Leaves, settle, results, Tryz.results36, go_sem, r4]
  exact fin
/-- What write does: the record appended, and synced. -/
def wWrite (D : Dk) (nx : Nat) (b : List UInt8) : Int × Dk := if (dAppend D logN (frm (pay (nx, b)))).1 ≠ 0 then dAppend D logN (frm (pay (nx, b))) else dSync (dAppend D logN (frm (pay (nx, b)))).2 logN
theorem did_later {w1 w' : World} {r : Int × Dk} {e : Ending} (h : Did0 w1 d F r e w') (hb : Below w.heap.size w w1) : Did0 w d F r e w' := by
  obtain ⟨he, F', hd, ht, hF⟩ := h
  exact ⟨he, F', hd, (touch_below hb F).then ht (fun i _ hi => hi), fun b hb' => (hF b hb').imp id (Nat.le_trans hb.size)⟩
set_option maxHeartbeats 4000000 in
theorem write_w (hB : WB w g d nx false) (hD : DAt w d F D) (f : Fit D k) (hk : k < 90000) (hg : g ∉ F) (A : Option Addr) (n c H : Nat) (body : List UInt8) (harg : Arg w F H A n c (U body)) (hn : n ≤ 200000) (hnx : nx ≤ 4611686018427387904) :
    Calls Tryz.prog 38 #[ptr g, .slice A n c] w (Did0 w d F (wWrite D nx body)) := by
  obtain ⟨lo, hR, hH, hFa, hA, hnc, hcm⟩ := harg
  have P0 := put_any none 0 0 0 0 [] (nx : Int) 8 w Row.empty (fun _ => rfl) (Nat.zero_le _) (by omega) (by omega)
  rw [show clampN 8 = 8 from rfl, List.nil_append] at P0
  have P1 := hid P0
  have hc0 := hB.c0
  have hc1 := hB.c1
  have RB : Hid (∀ W, Below w.heap.size w W → Row W lo H A n (U body)) := hid fun W hW => hR.below hW hH
  have KB : Hid (∀ W, Below w.heap.size w W → WB W g d nx false) := hid fun W hW => Blk.below hB hW (Blk.lt hB)
  have DB : Hid (∀ W, Below w.heap.size w W → DAt W d F D) := hid fun W hW => hD.below hW
  have hbl : body.length = n := by have := hR.len; rwa [U_len] at this
  have HLT := hid hD.lt
  have HA := hid hA
  have HG := hid hg
  have HFit := hid f
  have HBL := hid hbl
  have HGL := hid (Blk.lt hB)
  clear P0 hR hB hD hA hg hFa hbl f
  go_enter Tryz.func38, Tryz.ntmps38
  go_wp2_with fail
  refine P1.out.mono ?_
  rintro e w1 ⟨A1, n1, c1, rfl, hl1, hA1, hown1, hb1⟩
  have hn1 : n1 = 8 := by have := hl1.out; rw [putB_len] at this; exact this.symm
  subst hn1
  obtain ⟨w2, hw2⟩ : ∃ w2, w2 = w1.alloc (.cells #[.slice A1 8 c1, .slice A n c] 33) := ⟨_, rfl⟩
  have hb2 : Below w1.heap.size w1 w2 := by rw [hw2]; exact (Below.refl _ w1).alloc (Nat.le_refl _) _
  have HB2 := hid (hb1.trans (hb2.mono hb1.size))
  have CA := hid (concat_any w1.heap.size 33 A1 A 8 c1 n c w.heap.size w1.heap.size lo H (putB (nx : Int) 8) body w2 (by rw [hw2]; exact Blk.new w1 _ _) ((Row.of_own hown1).below hb2 (Nat.le_refl _)) (RB.out w2 HB2.out) hA1.out HA.out hb2.size (Nat.le_trans hH HB2.out.size) (by omega) (by omega))
  have HW2 := hid hw2
  clear hown1 hb1 hb2 hw2 hl1 hc0 hc1 P1
  go_wp2_with fail
  rw [← HW2.out]
  refine CA.out.mono ?_
  rintro e w3 ⟨A3, n3, c3, rfl, hl3, hA3, hown3, hb3⟩
  have hn3 : n3 = 8 + n := by have := hl3.out; rw [List.length_append, putB_len, HBL.out] at this; exact this.symm
  subst hn3
  have HB3 := hid (HB2.out.trans (hb3.mono HB2.out.size))
  have BY := hid (bytes7_any A3 (8 + n) c3 w2.heap.size w3.heap.size (pay (nx, body)) w3 (Row.of_own hown3) hA3.out (Nat.le_refl _) (by omega))
  have hz3 := HB3.out.size
  clear hown3 hb3 CA
  go_wp2_with fail
  refine BY.out.mono ?_
  rintro e w4 ⟨A4, n4, c4, rfl, hl4, hA4, hown4, hb4⟩
  have HB4 := hid (HB3.out.trans (hb4.mono HB3.out.size))
  have kb4 := KB.out w4 HB4.out
  have c04 := kb4.c0
  have AP := hid (at_append (DB.out w4 HB4.out) HFit.out (by omega) logN log_len _ A4 n4 c4 (frm (pay (nx, body))) (own_arg hown4 (fun b hb => by have := HLT.out b hb; omega)))
  clear hown4 hb4 BY hl4 kb4
  go_wp2_with fail
  rw [S_log]
  refine AP.out.mono ?_
  intro e w5 hd5
  obtain ⟨r, hr⟩ : ∃ r, r = dAppend D logN (frm (pay (nx, body))) := ⟨_, rfl⟩
  have hwr : wWrite D nx body = if r.1 ≠ 0 then r else dSync r.2 logN := by rw [hr]; rfl
  rw [← hr] at hd5
  have hd5' := did_later hd5 HB4.out
  obtain ⟨rfl, F5, hD5, hT5, hF5⟩ := hd5
  have hfit5 : Fit r.2 (k + 1) := by rw [hr]; exact act_fit HFit.out (.app logN (frm (pay (nx, body)))) trivial
  clear hr AP
  by_cases h0 : r.1 = 0
  case neg =>
    rw [if_pos h0] at hwr
    have HWR := hid hwr
    clear hwr
    have e0 : (r.1 == 0) = false := by simpa using h0
    have HD5 := hid hd5'
    clear hd5' hD5 hT5 hF5
    go_wp2
    go_ret
    rw [HWR.out]
    exact HD5.out
  case pos =>
    rw [if_neg (by simp [h0])] at hwr
    have HWR := hid hwr
    clear hwr
    rw [h0]
    have c05 : w5.cell? ⟨g, 0, none⟩ = some (ptr d) := WB.c0 (Blk.touch (KB.out w4 HB4.out) hT5 HG.out)
    have SY := hid (at_sync hD5 hfit5 logN log_len)
    have HT5 := hid hT5
    have HF5 := hid hF5
    clear hd5' hD5 hT5 hF5 h0
    go_wp2_with fail
    rw [S_log]
    refine SY.out.mono ?_
    rintro e w6 ⟨rfl, F6, hD6, hT6, hF6⟩
    have fin : Did0 w d F (dSync r.2 logN) (.returned (.int .i64 (dSync r.2 logN).1)) w6 := ⟨rfl, F6, hD6, ((touch_below HB4.out F).then HT5.out (fun i _ hi => hi)).then hT6 (fun i hi hm => by
      rcases HF5.out i hm with h | h
      · exact h
      · have := HB4.out.size; omega), fun b hb => by
      rcases hF6 b hb with h | h
      · rcases HF5.out b h with h | h
        · exact .inl h
        · exact .inr (Nat.le_trans HB4.out.size h)
      · exact .inr (Nat.le_trans (Nat.le_trans HB4.out.size HT5.out.size) h)⟩
    have FIN := hid fin
    clear fin hD6 hT6 hF6
    go_wp2
    go_ret
    rw [HWR.out]
    exact FIN.out
end
end Go.Proofs.YtpckloafdlkefaaGreat
namespace Go.Proofs.YtpckloafdlkefaaGreat
set_option maxRecDepth 40000
open Go.RowKit Go.Joins Go.Maps Dsk Regs

/-- A log: its disk, its next Seq, whether it is broken. -/
structure WS where
  D : Dk
  nx : Nat
  br : Bool
def wApp (s : WS) (b : List UInt8) : Int × Nat × WS :=
  if s.br then (10, 0, s) else if 4611686018427387904 < s.nx then (11, 0, s)
  else ((wWrite s.D s.nx b).1, if (wWrite s.D s.nx b).1 = 0 then s.nx else 0, ⟨(wWrite s.D s.nx b).2, if (wWrite s.D s.nx b).1 = 0 then s.nx + 1 else s.nx, breaks (wWrite s.D s.nx b).1⟩)
def wReset (s : WS) : Int × WS :=
  if s.br then (10, s) else if get s.D.fs logN = none then (0, s) else ((dCut s.D logN 0).1, ⟨(dCut s.D logN 0).2, s.nx, breaks (dCut s.D logN 0).1⟩)
def wSkip (s : WS) (q : Nat) : Int × WS :=
  if s.br then (10, s) else if 0 < wSize s.D then (10, s) else if q < 1 ∨ 4611686018427387904 < q then (2, s) else (0, ⟨s.D, max s.nx q, s.br⟩)
structure LogAt (w : World) (g d : Nat) (F : List Nat) (s : WS) : Prop where
  blk : WB w g d s.nx s.br
  at_ : DAt w d F s.D
  off : g ∉ F
/-- What an operation leaves. -/
def LDid (w : World) (g d : Nat) (F : List Nat) (s : WS) (w' : World) : Prop :=
  ∃ F', LogAt w' g d F' s ∧ Touch w w' (g :: F) ∧ ∀ b ∈ F', b ∈ F ∨ w.heap.size ≤ b
/-- What Append answers and leaves. -/
def AppPost (w : World) (g d : Nat) (F : List Nat) (r : Int × Nat × WS) (e : Ending) (w' : World) : Prop := e = .returned (.tuple #[.int .u64 (r.2.1 : Int), .int .i64 r.1]) ∧ LDid w g d F r.2.2 w'
/-- What an operation that answers an error alone leaves. -/
def ErrPost (w : World) (g d : Nat) (F : List Nat) (r : Int × WS) (e : Ending) (w' : World) : Prop := e = .returned (.int .i64 r.1) ∧ LDid w g d F r.2 w'
section
variable {w : World} {g d : Nat} {F : List Nat} {s : WS} {k : Nat}
theorem LogAt.below {w' : World} (h : LogAt w g d F s) (hb : Below w.heap.size w w') : LogAt w' g d F s := ⟨Blk.below h.blk hb (Blk.lt h.blk), h.at_.below hb, h.off⟩
theorem LDid.same {w' : World} (h : LogAt w g d F s) (hb : Below w.heap.size w w') : LDid w g d F s w' := ⟨F, h.below hb, touch_below hb _, fun _ h => .inl h⟩
theorem ldid_later {w1 w' : World} (h : LDid w1 g d F s w') (hb : Below w.heap.size w w1) : LDid w g d F s w' := by
  obtain ⟨F', hd, ht, hF⟩ := h
  exact ⟨F', hd, (touch_below hb _).then ht (fun i _ hi => hi), fun b hb' => (hF b hb').imp id (Nat.le_trans hb.size)⟩
theorem wdid_ldid {w' : World} {nx : Nat} {res : Int × Dk} {e : Ending} (h : WDid w g d nx F res e w') (hg : g ∉ F) (hgl : g < w.heap.size) : e = .returned (.int .i64 res.1) ∧ LDid w g d F ⟨res.2, nx, breaks res.1⟩ w' := by
  obtain ⟨he, hB, F', hD, hT, hF⟩ := h
  exact ⟨he, F', ⟨hB, hD, fun hm => by rcases hF g hm with h | h; exact hg h; omega⟩, hT, hF⟩
theorem append1_w (hL : LogAt w g d F s) (hbr : s.br = false) (f : Fit s.D k) (hk : k < 90000) (A : Option Addr) (n c H : Nat) (body : List UInt8) (harg : Arg w F H A n c (U body)) (hn : n ≤ 200000) (hnx : s.nx ≤ 4611686018427387904) {x y : Nat} (hx : Blk w x 29 #[ptr g]) (hy : Blk w y 33 #[.slice A n c]) :
    Calls Tryz.prog 37 #[.pointer (some ⟨x, 0, none⟩), .pointer (some ⟨y, 0, none⟩)] w (Did0 w d F (wWrite s.D s.nx body)) := by
  have cx : w.cell? ⟨x, 0, none⟩ = some (ptr g) := by have := hx.cell 0; simpa using this
  have cy : w.cell? ⟨y, 0, none⟩ = some (.slice A n c) := by have := hy.cell 0; simpa using this
  have WR := hid (write_w (by have := hL.blk; rwa [hbr] at this) hL.at_ f hk hL.off A n c H body harg hn hnx)
  clear hx hy hL f harg
  go_enter Tryz.func37, Tryz.ntmps37
  go_wp2_with fail
  refine WR.out.mono ?_
  intro e w1 hd
  have HD := hid hd
  obtain ⟨rfl, _⟩ := hd
  go_wp2
  go_ret
  exact HD.out
theorem Arg.below {w' : World} {H : Nat} {A : Option Addr} {n c : Nat} {xs : List Value} (h : Arg w F H A n c xs) (hb : Below w.heap.size w w') : Arg w' F H A n c xs := by
  obtain ⟨lo, h1, h2, h3⟩ := h
  exact ⟨lo, h1.below hb h2, Nat.le_trans h2 hb.size, h3⟩
set_option maxHeartbeats 4000000 in
theorem append_w (hL : LogAt w g d F s) (f : Fit s.D k) (hk : k < 90000) (A : Option Addr) (n c H : Nat) (body : List UInt8) (harg : Arg w F H A n c (U body)) (hn : n ≤ 200000) (hnx : s.nx ≤ 4611686018427387905) :
    Calls Tryz.prog 12 #[ptr g, .slice A n c] w (AppPost w g d F (wApp s body)) := by
  have hmf : ∀ (fn : Fn) (first cap : Array Value) (w : World), (Instr.makeFunc fn first cap).run Tryz.prog w = .ok (.func fn first cap) w := fun _ _ _ _ => rfl
  obtain ⟨w1, hw1⟩ : ∃ w1, w1 = (w.alloc (.cells #[ptr g] 29)).alloc (.cells #[.slice A n c] 33) := ⟨_, rfl⟩
  have hb1 : Below w.heap.size w w1 := by rw [hw1]; exact ((Below.refl _ w).alloc (Nat.le_refl _) _).alloc (by simp) _
  have K1 : Blk w1 w.heap.size 29 #[ptr g] := by rw [hw1]; exact (Blk.new w _ _).alloc _
  have K2 : Blk w1 (w.heap.size + 1) 33 #[.slice A n c] := by rw [hw1]; have := Blk.new (w.alloc (.cells #[ptr g] 29)) 33 #[.slice A n c]; rwa [World.size_alloc] at this
  have c1 : w1.cell? ⟨w.heap.size, 0, none⟩ = some (ptr g) := by have := K1.cell 0; simpa using this
  have c2 : w1.cell? ⟨w.heap.size + 1, 0, none⟩ = some (.slice A n c) := by have := K2.cell 0; simpa using this
  have hL1 := hL.below hb1
  have RF := hid (refusal_w hL1.blk)
  have n1 := hL1.blk.c1
  have HL1 := hid hL1
  have HL := hid hL
  have HW1 := hid hw1
  have HB1 := hid hb1
  have HFit := hid f
  have HARG := hid (harg.below hb1)
  have HK1 := hid K1
  have HK2 := hid K2
  clear hw1 hL1 hL hb1 f harg K1 K2
  cases hbr : s.br
  case true =>
    rw [hbr] at RF
    have e1 : wApp s body = (10, 0, s) := by unfold wApp; rw [if_pos hbr]
    rw [e1]
    clear e1 hbr
    go_enter Tryz.func12, Tryz.ntmps12
    go_wp2_with fail
    rw [← HW1.out]
    refine RF.out.mono ?_
    rintro e w2 ⟨rfl, rfl⟩
    have hne : (refW true != 0) = true := by decide
    go_wp2
    go_ret2
    exact ⟨rfl, LDid.same HL.out HB1.out⟩
  case false =>
    rw [hbr] at RF
    obtain ⟨q, hq⟩ : ∃ q, q = s.nx := ⟨_, rfl⟩
    rw [← hq] at n1 hnx
    have HBR := hid hbr
    have HQ := hid hq
    have hne : (refW false != 0) = false := by decide
    clear hbr hq
    by_cases hbig : 4611686018427387904 < q
    · have e1 : wApp s body = (11, 0, s) := by unfold wApp; rw [if_neg (by simp [HBR.out]), if_pos (by rw [← HQ.out]; exact hbig)]
      rw [e1]
      clear e1
      go_enter Tryz.func12, Tryz.ntmps12
      go_wp2_with fail
      rw [← HW1.out]
      refine RF.out.mono ?_
      rintro e w2 ⟨rfl, rfl⟩
      go_wp2
      go_ret2
      exact ⟨rfl, LDid.same HL.out HB1.out⟩
    · obtain ⟨r, hr⟩ : ∃ r, r = wWrite s.D s.nx body := ⟨_, rfl⟩
      have e1 : Hid (wApp s body = (r.1, if r.1 = 0 then s.nx else 0, ⟨r.2, if r.1 = 0 then s.nx + 1 else s.nx, breaks r.1⟩)) := hid <| by unfold wApp; rw [if_neg (by simp [HBR.out]), if_neg (by rw [← HQ.out]; exact hbig), ← hr]
      have OP := operate_w (w := w1) (by have := HL1.out.blk; rwa [HBR.out] at this) HL1.out.at_ HL1.out.off 37 #[.pointer (some ⟨w.heap.size, 0, none⟩), .pointer (some ⟨w.heap.size + 1, 0, none⟩)] (enters_of Tryz.func37 (by kernel_rfl) rfl) (wWrite s.D s.nx body) (fun w2 hb2 => append1_w (HL1.out.below hb2) HBR.out HFit.out hk A n c H body (HARG.out.below hb2) hn (by rw [← HQ.out]; omega) (Blk.below HK1.out hb2 (Blk.lt HK1.out)) (Blk.below HK2.out hb2 (Blk.lt HK2.out)))
      rw [← hr] at OP
      have OP2 := hid OP
      clear OP hr
      go_enter Tryz.func12, Tryz.ntmps12
      go_wp2_with fail
      rw [← HW1.out]
      refine RF.out.mono ?_
      rintro e w2 ⟨rfl, rfl⟩
      go_wp2_with fail
      refine OP2.out.mono ?_
      intro e w3 hd
      obtain ⟨rfl, F3, hL3, hT3, hF3⟩ := wdid_ldid hd HL1.out.off (Blk.lt HL1.out.blk)
      have x3 : w3.cell? ⟨w.heap.size, 0, none⟩ = some (ptr g) := by
        have hlt := HL.out.at_.lt
        have hgl := Blk.lt HL.out.blk
        have := (HK1.out.touch hT3 (by
          intro hm
          rcases List.mem_cons.1 hm with h | h
          · omega
          · have := hlt _ h; omega)).cell 0
        simpa using this
      have HX : Hid (LDid w g d F ⟨r.2, s.nx, breaks r.1⟩ w3) := hid (ldid_later ⟨F3, hL3, hT3, hF3⟩ HB1.out)
      have HL3 := hid hL3
      have HT3 := hid hT3
      have HF3 := hid hF3
      clear hd hL3 hT3 hF3 OP2
      by_cases h0 : r.1 = 0
      case neg =>
        have e0 : (r.1 != 0) = true := by simpa using h0
        have E1 : Hid ((if r.1 = 0 then s.nx else 0) = 0 ∧ (if r.1 = 0 then s.nx + 1 else s.nx) = s.nx) := hid ⟨if_neg h0, if_neg h0⟩
        clear h0
        go_wp2
        go_ret2
        rw [e1.out, E1.out.1, E1.out.2]
        exact ⟨rfl, HX.out⟩
      case pos =>
        have E1 : Hid ((if r.1 = 0 then s.nx else 0) = q ∧ (if r.1 = 0 then s.nx + 1 else s.nx) = q + 1 ∧ r.1 = 0) := hid ⟨by rw [if_pos h0]; exact HQ.out.symm, by rw [if_pos h0, HQ.out], h0⟩
        have b3 := HL3.out.blk
        rw [h0, ← HQ.out] at b3
        have n3 : w3.cell? ⟨g, 1, none⟩ = some (.int .u64 (q : Int)) := WB.c1 b3
        have f3 : w3.frozen? ⟨g, 1, none⟩ = false := Blk.frozen b3 1
        have b4 : WB (w3.setCell ⟨g, 1, none⟩ (.int .u64 ((q : Int) + 1))) g d (q + 1) false := Blk.set b3 1 (.int .u64 ((q : Int) + 1))
        have T4 : Touch w3 (w3.setCell ⟨g, 1, none⟩ (.int .u64 ((q : Int) + 1))) (g :: F3) := touch_grown (only_set (World.grownBy.refl w3 (some g)) 1 _) (fun i hi => by injection hi with hi; subst hi; exact List.mem_cons_self)
        have D4 : DAt (w3.setCell ⟨g, 1, none⟩ (.int .u64 ((q : Int) + 1))) d F3 r.2 := HL3.out.at_.touch (touch_grown (F := [g]) (only_set (World.grownBy.refl w3 (some g)) 1 _) (fun i hi => by injection hi with hi; subst hi; exact List.mem_singleton.2 rfl)) (fun b hb hm => by rw [List.mem_singleton] at hm; subst hm; exact HL3.out.off hb)
        have fin : LDid w g d F ⟨r.2, q + 1, breaks r.1⟩ (w3.setCell ⟨g, 1, none⟩ (.int .u64 ((q : Int) + 1))) := by
          rw [h0]
          refine ldid_later ⟨F3, ⟨b4, D4, HL3.out.off⟩, HT3.out.then T4 (fun i hi hm => ?_), HF3.out⟩ HB1.out
          rcases List.mem_cons.1 hm with h | h
          · rw [h]; exact List.mem_cons_self
          · rcases HF3.out i h with h | h
            · exact List.mem_cons_of_mem _ h
            · omega
        have FIN := hid fin
        have hs3 : q ≤ 4611686018427387904 := by omega
        clear b3 b4 T4 D4 fin
        rw [h0]
        clear h0
        go_wp2
        go_ret2
        rw [e1.out, E1.out.1, E1.out.2.1]
        exact ⟨by rw [E1.out.2.2]; rfl, FIN.out⟩
theorem dsize_log (D : Dk) : dSize D logN = if get D.fs logN = none then -1 else (wSize D : Int) := by
  unfold dSize wSize file
  cases get D.fs logN <;> simp
theorem size_w (hL : LogAt w g d F s) (hw : (wSize s.D : Int) ≤ 9223372036854775807) : Calls Tryz.prog 30 #[ptr g] w fun e w' => e = .returned (.int .i64 (wSize s.D : Int)) ∧ Below w.heap.size w w' := by
  have U1 := hid (unmade_w hL.blk)
  have hc := hL.blk.c0
  have SZ := at_size hL.at_ logN log_len
  rw [dsize_log] at SZ
  obtain ⟨z, hz⟩ : ∃ z, z = (if get s.D.fs logN = none then -1 else (wSize s.D : Int)) := ⟨_, rfl⟩
  have hzz : Hid ((wSize s.D : Int) = max z 0) := hid (by
    rw [hz]
    split
    · rename_i h
      have : wSize s.D = 0 := by unfold wSize; rw [file_none h]; rfl
      rw [this]; decide
    · omega)
  rw [← hz] at SZ
  have SZ2 := hid SZ
  clear SZ hz hL hw
  by_cases h0 : z < 0
  · have hm : Hid (max z 0 = 0) := hid (by omega)
    go_enter Tryz.func30, Tryz.ntmps30
    go_wp2_with fail
    refine U1.out.mono ?_
    rintro e w' ⟨rfl, rfl⟩
    go_wp2_with fail
    rw [S_log]
    refine SZ2.out.mono ?_
    rintro e w2 ⟨rfl, hb2⟩
    have HB2 := hid hb2
    go_wp2
    go_ret
    rw [hzz.out, hm.out]
    exact ⟨rfl, HB2.out⟩
  · have hm : Hid (max z 0 = z) := hid (by omega)
    go_enter Tryz.func30, Tryz.ntmps30
    go_wp2_with fail
    refine U1.out.mono ?_
    rintro e w' ⟨rfl, rfl⟩
    go_wp2_with fail
    rw [S_log]
    refine SZ2.out.mono ?_
    rintro e w2 ⟨rfl, hb2⟩
    have HB2 := hid hb2
    go_wp2
    go_ret
    rw [hzz.out, hm.out]
    exact ⟨rfl, HB2.out⟩
end
end Go.Proofs.YtpckloafdlkefaaGreat
namespace Go.Proofs.YtpckloafdlkefaaGreat
set_option maxRecDepth 40000
open Go.RowKit Go.Joins Go.Maps Dsk Regs

section
variable {w : World} {g d : Nat} {F : List Nat} {s : WS} {k : Nat}
theorem reset1_w (hL : LogAt w g d F s) (f : Fit s.D k) {x : Nat} (hx : Blk w x 29 #[ptr g]) :
    Calls Tryz.prog 40 #[.pointer (some ⟨x, 0, none⟩)] w (Did0 w d F (dCut s.D logN 0)) := by
  have cx : w.cell? ⟨x, 0, none⟩ = some (ptr g) := by have := hx.cell 0; simpa using this
  have c0 := hL.blk.c0
  have CU := hid (at_cut hL.at_ f logN 0 log_len)
  clear hx hL f
  go_enter Tryz.func40, Tryz.ntmps40
  go_wp2_with fail
  rw [S_log]
  refine CU.out.mono ?_
  intro e w1 hd
  have HD := hid hd
  obtain ⟨rfl, _⟩ := hd
  go_wp2
  go_ret
  exact HD.out
set_option maxHeartbeats 4000000 in
theorem reset_w (hL : LogAt w g d F s) (f : Fit s.D k) :
    Calls Tryz.prog 14 #[ptr g] w (ErrPost w g d F (wReset s)) := by
  have hmf : ∀ (fn : Fn) (first cap : Array Value) (w : World), (Instr.makeFunc fn first cap).run Tryz.prog w = .ok (.func fn first cap) w := fun _ _ _ _ => rfl
  obtain ⟨w1, hw1⟩ : ∃ w1, w1 = w.alloc (.cells #[ptr g] 29) := ⟨_, rfl⟩
  have hb1 : Below w.heap.size w w1 := by rw [hw1]; exact (Below.refl _ w).alloc (Nat.le_refl _) _
  have K1 : Blk w1 w.heap.size 29 #[ptr g] := by rw [hw1]; exact Blk.new w _ _
  have c1 : w1.cell? ⟨w.heap.size, 0, none⟩ = some (ptr g) := by have := K1.cell 0; simpa using this
  have hL1 := hL.below hb1
  have RF := hid (refusal_w hL1.blk)
  have n0 := hL1.blk.c0
  have HL1 := hid hL1
  have HL := hid hL
  have HW1 := hid hw1
  have HB1 := hid hb1
  have HFit := hid f
  have HK1 := hid K1
  have hgl := Blk.lt hL.blk
  have HLT := hid hL.at_.lt
  clear hw1 hL1 hL hb1 f K1
  cases hbr : s.br
  case true =>
    rw [hbr] at RF
    have e1 : Hid (wReset s = (10, s)) := hid (by unfold wReset; rw [if_pos hbr])
    clear hbr
    go_enter Tryz.func14, Tryz.ntmps14
    go_wp2_with fail
    rw [← HW1.out]
    refine RF.out.mono ?_
    rintro e w2 ⟨rfl, rfl⟩
    have hne : (refW true != 0) = true := by decide
    go_wp2
    go_ret
    rw [e1.out]
    exact ⟨rfl, LDid.same HL.out HB1.out⟩
  case false =>
    rw [hbr] at RF
    have HBR := hid hbr
    have hne : (refW false != 0) = false := by decide
    have SZ := at_size HL1.out.at_ logN log_len
    rw [dsize_log] at SZ
    clear hbr
    by_cases hno : get s.D.fs logN = none
    · rw [if_pos hno] at SZ
      have SZ2 := hid SZ
      have e1 : Hid (wReset s = (0, s)) := hid (by unfold wReset; rw [if_neg (by simp [HBR.out]), if_pos hno])
      clear SZ hno
      go_enter Tryz.func14, Tryz.ntmps14
      go_wp2_with fail
      rw [← HW1.out]
      refine RF.out.mono ?_
      rintro e w2 ⟨rfl, rfl⟩
      go_wp2_with fail
      rw [S_log]
      refine SZ2.out.mono ?_
      rintro e w3 ⟨rfl, hb3⟩
      have HB3 := hid (HB1.out.trans (hb3.mono HB1.out.size))
      clear hb3
      go_wp2
      go_ret
      rw [e1.out]
      exact ⟨rfl, LDid.same HL.out HB3.out⟩
    · rw [if_neg hno] at SZ
      have SZ2 := hid SZ
      obtain ⟨r, hr⟩ : ∃ r, r = dCut s.D logN 0 := ⟨_, rfl⟩
      have e1 : Hid (wReset s = (r.1, ⟨r.2, s.nx, breaks r.1⟩)) := hid (by unfold wReset; rw [if_neg (by simp [HBR.out]), if_neg hno, ← hr])
      have hge : ¬ ((wSize s.D : Int) < 0) := by omega
      have OP : Hid (∀ w3, Below w1.heap.size w1 w3 → Calls Tryz.prog 36 #[ptr g, .func (.func 40) #[] #[.pointer (some ⟨w.heap.size, 0, none⟩)]] w3 (WDid w3 g d s.nx F r)) := hid fun w3 hb3 => by
        have L3 := HL1.out.below hb3
        have := operate_w (w := w3) (by have := L3.blk; rwa [HBR.out] at this) L3.at_ L3.off 40 #[.pointer (some ⟨w.heap.size, 0, none⟩)] (enters_of Tryz.func40 (by kernel_rfl) rfl) (dCut s.D logN 0) (fun w4 hb4 => reset1_w (L3.below hb4) HFit.out (Blk.below (Blk.below HK1.out hb3 (Blk.lt HK1.out)) hb4 (Blk.lt (Blk.below HK1.out hb3 (Blk.lt HK1.out)))))
        rwa [← hr] at this
      generalize (wSize s.D : Int) = z at SZ2 hge
      clear SZ hno hr
      go_enter Tryz.func14, Tryz.ntmps14
      go_wp2_with fail
      rw [← HW1.out]
      refine RF.out.mono ?_
      rintro e w2 ⟨rfl, rfl⟩
      go_wp2_with fail
      rw [S_log]
      refine SZ2.out.mono ?_
      rintro e w3 ⟨rfl, hb3⟩
      have x3 : w3.cell? ⟨w.heap.size, 0, none⟩ = some (ptr g) := (hb3.cell (p := ⟨w.heap.size, 0, none⟩) (Blk.lt HK1.out)).trans c1
      have HB3 := hid (HB1.out.trans (hb3.mono HB1.out.size))
      have OP3 := hid (OP.out w3 hb3)
      clear hb3 OP
      go_wp2_with fail
      refine OP3.out.mono ?_
      intro e w4 hd
      obtain ⟨rfl, hX⟩ := wdid_ldid hd HL1.out.off (by have := HB3.out.size; omega)
      have HX := hid (ldid_later hX HB3.out)
      clear hd hX OP3
      go_wp2
      go_ret
      rw [e1.out]
      exact ⟨rfl, HX.out⟩
end
end Go.Proofs.YtpckloafdlkefaaGreat
namespace Go.Proofs.YtpckloafdlkefaaGreat
set_option maxRecDepth 40000
open Go.RowKit Go.Joins Go.Maps Dsk Regs

/-- Records that lie in memory, bodies and all, in blocks of [lo, hi). -/
def RL (w : World) (lo hi : Nat) (v : Value) (xs : List RP) : Prop :=
  ∃ A c, v = .slice A xs.length c ∧ Row w lo hi A (xs.length * 2) (RCs xs) ∧ (A = none → c = 0) ∧ xs.length ≤ c ∧ c ≤ maxLen ∧ ∀ x ∈ xs, Bod w lo hi x
section
variable {w w' : World} {lo hi : Nat} {v : Value} {xs : List RP}
theorem RL.below (h : RL w lo hi v xs) {B : Nat} (hb : Below B w w') (hB : hi ≤ B) : RL w' lo hi v xs := by
  obtain ⟨A, c, e, hr, h1, h2, h3, h4⟩ := h
  exact ⟨A, c, e, hr.below hb hB, h1, h2, h3, fun x hx => (h4 x hx).below hb hB⟩
theorem RL.touch {F : List Nat} (h : RL w lo hi v xs) (ht : Touch w w' F) (hhi : hi ≤ w.heap.size) (hF : ∀ i ∈ F, i < lo ∨ hi ≤ i) : RL w' lo hi v xs := by
  obtain ⟨A, c, e, hr, h1, h2, h3, h4⟩ := h
  exact ⟨A, c, e, hr.touch ht hhi hF, h1, h2, h3, fun x hx => ⟨(h4 x hx).1.touch ht hhi hF, (h4 x hx).2⟩⟩
theorem RL.wide {lo' hi' : Nat} (h : RL w lo hi v xs) (h1 : lo' ≤ lo) (h2 : hi ≤ hi') : RL w lo' hi' v xs := by
  obtain ⟨A, c, e, hr, g1, g2, g3, g4⟩ := h
  exact ⟨A, c, e, hr.wide h1 h2, g1, g2, g3, fun x hx => (g4 x hx).wide h1 h2⟩
theorem rl_own {base : Nat} (h : w.ownsRow base 44 2 v xs.length (RCs xs)) (hb : ∀ x ∈ xs, Bod w base w.heap.size x) : RL w base w.heap.size v xs := by
  obtain ⟨A, c, rfl, h1, h2, h3, hg⟩ := own_shape_two h
  refine ⟨A, c, rfl, ⟨RCs_len xs, fun hn => ?_⟩, h1, h2, h3, hb⟩
  obtain ⟨g, rfl⟩ := hg (by omega)
  have hl := h.lt g rfl
  exact ⟨g, 0, rfl, hl.1, hl.2, fun j u hu => by
    have := h.cells (g := g) rfl j u hu
    rw [addr_add, Nat.zero_add] at this
    rw [Nat.zero_add]
    exact this⟩
/-- The cells of a record. -/
theorem RL.at_ (h : RL w lo hi v xs) {j : Nat} {x : RP} (hx : xs[j]? = some x) : ∃ b off c, v = .slice (some ⟨b, off, none⟩) xs.length c ∧ lo ≤ b ∧ b < hi ∧ w.cell? ⟨b, off + j * 2, none⟩ = some (.int .u64 (x.s : Int)) ∧ w.cell? ⟨b, off + (j * 2 + 1), none⟩ = some x.v ∧ xs.length ≤ c ∧ c ≤ maxLen ∧ Bod w lo hi x := by
  obtain ⟨A, c, rfl, hr, h1, h2, h3, h4⟩ := h
  have hj : j < xs.length := (List.getElem?_eq_some_iff.1 hx).1
  obtain ⟨b, off, rfl, hb1, hb2, hc⟩ := hr.2 (by omega)
  obtain ⟨e1, e2⟩ := RCs_get hx
  exact ⟨b, off, c, rfl, hb1, hb2, hc _ _ e1, hc _ _ e2, h2, h3, h4 x (List.mem_of_getElem? hx)⟩
theorem RL.shape (h : RL w lo hi v xs) : ∃ A c, v = .slice A xs.length c ∧ (A = none → c = 0) ∧ xs.length ≤ c ∧ c ≤ maxLen := by
  obtain ⟨A, c, e, hr, h1, h2, h3, h4⟩ := h
  exact ⟨A, c, e, h1, h2, h3⟩
end
def nextOf (rs : List Rec) : Nat := (nxt none rs).getD 1
theorem nextOf_nil : nextOf [] = 1 := rfl
theorem nextOf_snoc (rs : List Rec) (r : Rec) : nextOf (rs ++ [r]) = r.1 + 1 := by unfold nextOf; rw [nxt_snoc]; rfl
theorem nextOf_at {rs : List Rec} {j : Nat} {r : Rec} (h : rs[j]? = some r) (hl : rs.length = j + 1) : nextOf rs = r.1 + 1 := by
  have e : rs = rs.take j ++ [r] := by
    have h2 := take_next h
    rw [← h2, List.take_of_length_le (by omega)]
  rw [e, nextOf_snoc]
theorem chain_top {nx : Option Nat} {rs : List Rec} (h : Chain nx rs) : ∀ r ∈ rs, r.1 ≤ 4611686018427387904 := by
  induction rs generalizing nx with
  | nil => intro r hr; cases hr
  | cons q rs ih =>
    intro r hr
    rcases List.mem_cons.1 hr with rfl | hr
    · exact h.2.1
    · exact ih h.2.2.2 r hr
theorem ready_log (D : Dk) : ready D logN = 9 ∨ ready D logN = 6 ∨ ready D logN = 0 := by
  unfold ready
  rw [log_ok]
  split
  · exact .inl rfl
  · split
    · rename_i h; cases h
    · split
      · exact .inr (.inl rfl)
      · exact .inr (.inr rfl)
theorem dread_log {D : Dk} (h : ready D logN ≠ 9) : dRead D logN = (file D logN).b := by
  rcases ready_log D with h1 | h1 | h1
  · exact absurd h1 h
  · have hn : get D.fs logN = none := by
      unfold ready at h1
      rw [log_ok] at h1
      split at h1
      · cases h1
      · split at h1
        · cases h1
        · split at h1
          · assumption
          · cases h1
    unfold dRead
    rw [h1, if_neg (by decide), file_none hn]
  · unfold dRead; rw [if_pos h1]
/-- What Open does to the disk, where it reads the records rs. -/
def opn (D : Dk) (rs : List Rec) : Int × Dk := if (logB rs).length < (file D logN).b.length then dCut D logN ((logB rs).length : Int) else (0, D)
/-- The row of records that Open answers is the caller's own. -/
def OpenOwn (w w' : World) (m : Nat) (v : Value) (xs : List RP) : Prop := w'.ownsRow w.heap.size 44 2 v xs.length (RCs xs) ∧ ∃ b, b ≤ m ∧ (∀ x ∈ xs, Bod w' w.heap.size b x) ∧ ∀ e, v.ownBlock = some e → b ≤ e ∧ e < m
theorem OpenOwn.touch {w w1 w' : World} {m : Nat} {v : Value} {xs : List RP} {F : List Nat} (h : OpenOwn w w1 m v xs) (ht : Touch w1 w' F) (hm : m ≤ w1.heap.size) (hF : ∀ i ∈ F, i < w.heap.size ∨ m ≤ i) : OpenOwn w w' m v xs := by
  obtain ⟨h1, b, h2, h3, h4⟩ := h
  exact ⟨own_touched h1 ht (fun e he hi => by have h5 := hF e hi; have h6 := h4 e he; have h7 := (h1.lt e he).1; omega), b, h2, fun x hx => ⟨(h3 x hx).1.touch ht (Nat.le_trans h2 hm) (fun i hi => (hF i hi).imp id (fun h => Nat.le_trans h2 h)), (h3 x hx).2⟩, h4⟩
theorem OpenOwn.below {w w1 w' : World} {m : Nat} {v : Value} {xs : List RP} (h : OpenOwn w w1 m v xs) (hb : Below w1.heap.size w1 w') (hm : m ≤ w1.heap.size) : OpenOwn w w' m v xs := h.touch (touch_below hb []) hm (fun _ hi => by cases hi)
def OpenOk (w : World) (d : Nat) (F : List Nat) (rs : List Rec) (D' : Dk) (e : Ending) (w' : World) : Prop :=
  ∃ g F' v xs m, e = .returned (.tuple #[ptr g, v, .int .i64 0]) ∧ Hid (xs.map RP.r = rs) ∧ Hid (RL w' w.heap.size m v xs) ∧ w.heap.size ≤ m ∧ m ≤ g ∧ LogAt w' g d F' ⟨D', nextOf rs, false⟩ ∧ Touch w w' F ∧ (∀ b ∈ F', b ∈ F ∨ m ≤ b) ∧ Hid (OpenOwn w w' m v xs)
def OpenTo (w : World) (d : Nat) (F : List Nat) (D : Dk) (rs : List Rec) (e : Ending) (w' : World) : Prop :=
  ((opn D rs).1 ≠ 0 ∧ e = .returned (.tuple #[.pointer none, .slice none 0 0, .int .i64 (opn D rs).1]) ∧ ∃ F', DAt w' d F' (opn D rs).2 ∧ Touch w w' F ∧ ∀ b ∈ F', b ∈ F ∨ w.heap.size ≤ b) ∨
  ((opn D rs).1 = 0 ∧ OpenOk w d F rs (opn D rs).2 e w')
def OpenPost (w : World) (d : Nat) (F : List Nat) (D : Dk) (e : Ending) (w' : World) : Prop :=
  (ready D logN = 9 ∧ e = .returned (.tuple #[.pointer none, .slice none 0 0, .int .i64 9]) ∧ DAt w' d F D ∧ Below w.heap.size w w') ∨
  (ready D logN ≠ 9 ∧ ∃ rs, WScans (file D logN).b rs ∧ OpenTo w d F D rs e w')
set_option maxHeartbeats 8000000 in
theorem open_w {w : World} {d : Nat} {F : List Nat} {D : Dk} {k : Nat} (hD : DAt w d F D) (f : Fit D k) (hb : (file D logN).b.length ≤ 300000) : Calls Tryz.prog 8 #[ptr d] w (OpenPost w d F D) := by
  have RD := hid (at_read hD f logN log_len)
  have HD := hid hD
  have HFit := hid f
  have HB := hid hb
  obtain ⟨q, hq⟩ : ∃ q, q = ready D logN := ⟨_, rfl⟩
  have h3 := ready_log D
  rw [← hq] at RD h3
  have HQ := hid hq
  clear hD f hb hq
  rcases h3 with rfl | h3
  · go_enter Tryz.func8, Tryz.ntmps8
    go_wp2_with fail
    rw [S_log]
    refine RD.out.mono ?_
    rintro e w1 ⟨v, rfl, A, n, c, rfl, hR, hA, hnc, hcm, hb1⟩
    have HB1 := hid hb1
    clear hR hb1
    go_wp2
    go_ret3
    exact .inl ⟨HQ.out.symm, rfl, HD.out.below HB1.out, HB1.out⟩
  · have hq9 : ready D logN ≠ 9 := by rw [← HQ.out]; omega
    have HQ9 := hid hq9
    have HDR := hid (dread_log hq9)
    clear hq9
    rcases h3 with rfl | rfl
    all_goals
      go_enter Tryz.func8, Tryz.ntmps8
      go_wp2_with fail
      rw [S_log]
      refine RD.out.mono ?_
      rintro e w1 ⟨v, rfl, A, n, c, rfl, hR, hA, hnc, hcm, hb1⟩
      rw [HDR.out] at hR
      have hbl : (file D logN).b.length = n := by have := hR.len; rwa [U_len] at this
      have HBL := hid hbl
      have SC := hid (wscan_kept A n c w.heap.size w1.heap.size (file D logN).b w1 hR hA (Nat.le_refl _) ⟨hnc, hcm⟩ (by have := HB.out; omega))
      have HB1 := hid hb1
      have hn3 : n ≤ 300000 := by have := HB.out; omega
      clear hR hb1 hbl RD
      go_wp2_with fail
      refine SC.out.mono ?_
      rintro e w2 ⟨xs, v2, rfl, hX, hown, hbod, hb2⟩
      have HOW : Hid (OpenOwn w w2 w2.heap.size v2 xs) := hid (by
        obtain ⟨bm, h1, h2, h3⟩ := hbod.out
        have ho := ownsRow_le hown HB1.out.size
        exact ⟨ho, bm, h1, fun x hx => (h2 x hx).wide HB1.out.size (Nat.le_refl _), fun e he => ⟨h3 e he, (ho.lt e he).2⟩⟩)
      have HRL := hid (rl_own (ownsRow_le hown HB1.out.size) (fun x hx => by obtain ⟨bm, h1, h2, h3⟩ := hbod.out; exact (h2 x hx).wide HB1.out.size h1))
      have HB2 := hid (HB1.out.trans (hb2.mono HB1.out.size))
      obtain ⟨A2, c2, rfl, hA2, hc2, hc2'⟩ := HRL.out.shape
      obtain ⟨z, hz⟩ : ∃ z, z = (logB (xs.map RP.r)).length := ⟨_, rfl⟩
      rw [← hz]
      have hchain := wscans_chain hX.out
      have HCH := hid (chain_top hchain)
      have hrl : (xs.map RP.r).length = xs.length := List.length_map _
      have OPN : Hid (opn D (xs.map RP.r) = if z < n then dCut D logN (z : Int) else (0, D)) := hid (by unfold opn; rw [← hz, HBL.out])
      have HX := hid hX.out
      have hz3 : z ≤ 300000 := by
        have := (wscans_first hX.out).2.1
        rw [← hz, HBL.out] at this
        omega
      have HZ2 := hid hb2.size
      clear hX hown hbod hb2 hz hchain SC hA2
      rcases Nat.lt_or_ge z n with hcut | hcut
      case' inl =>
        have CU := hid (at_cut (HD.out.below HB2.out) HFit.out logN (z : Int) log_len)
        obtain ⟨r, hr⟩ : ∃ r, r = dCut D logN (z : Int) := ⟨_, rfl⟩
        rw [← hr] at CU
        have hop : opn D (xs.map RP.r) = r := by rw [OPN.out, if_pos hcut, hr]
        have HOP := hid hop
        clear hr hop OPN
        go_wp2_with fail
        rw [S_log]
        refine CU.out.mono ?_
        rintro e w3 ⟨rfl, F3, hD3, hT3, hF3⟩
        have HT3 := hid ((touch_below HB2.out F).then hT3 (fun i _ hi => hi))
        have HD3 := hid hD3
        have HF3 : Hid (∀ b ∈ F3, b ∈ F ∨ w2.heap.size ≤ b) := hid hF3
        have HRL3 := hid (HRL.out.touch hT3 (Nat.le_refl _) (fun i hi => .inl (HD.out.lt i hi)))
        have HOW3 := hid (HOW.out.touch hT3 (Nat.le_refl _) (fun i hi => .inl (HD.out.lt i hi)))
        have HS3 : Hid (w2.heap.size ≤ w3.heap.size) := hid hT3.size
        clear CU hD3 hT3 hF3
        by_cases h0 : r.1 = 0
        case neg =>
          have e0 : (r.1 != 0) = true := by simpa using h0
          have HN := hid h0
          clear h0
          go_wp2
          go_ret3
          refine .inr ⟨HQ9.out, _, HX.out, .inl ?_⟩
          rw [HOP.out]
          exact ⟨HN.out, rfl, F3, HD3.out, HT3.out, fun b hb => (HF3.out b hb).imp id (fun h => Nat.le_trans HB2.out.size h)⟩
        obtain ⟨D3, rfl⟩ : ∃ D3, r = (0, D3) := ⟨r.2, by rw [← h0]⟩
        clear h0
      case' inr =>
        obtain ⟨w3, hw3⟩ : ∃ w3, w3 = w2 := ⟨_, rfl⟩
        obtain ⟨D3, hD3⟩ : ∃ D3, D3 = D := ⟨_, rfl⟩
        obtain ⟨F3, hF3⟩ : ∃ F3, F3 = F := ⟨_, rfl⟩
        have HOP : Hid (opn D (xs.map RP.r) = (0, D3)) := hid (by rw [OPN.out, if_neg (by omega), hD3])
        have HT3 : Hid (Touch w w3 F) := hid (by rw [hw3]; exact touch_below HB2.out F)
        have HD3 : Hid (DAt w3 d F3 D3) := hid (by rw [hw3, hD3, hF3]; exact HD.out.below HB2.out)
        have HF3 : Hid (∀ b ∈ F3, b ∈ F ∨ w2.heap.size ≤ b) := hid (by rw [hF3]; exact fun b hb => .inl hb)
        have HRL3 : Hid (RL w3 w.heap.size w2.heap.size (.slice A2 xs.length c2) xs) := hid (by rw [hw3]; exact HRL.out)
        have HOW3 : Hid (OpenOwn w w3 w2.heap.size (.slice A2 xs.length c2) xs) := hid (by rw [hw3]; exact HOW.out)
        have HS3 : Hid (w2.heap.size ≤ w3.heap.size) := hid (by rw [hw3]; exact Nat.le_refl _)
        rw [← hw3]
        clear hw3 hD3 hF3 OPN
      all_goals
        obtain ⟨w4, hw4⟩ : ∃ w4, w4 = w3.alloc (.cells #[ptr d, .int .u64 1, .bool false] 77) := ⟨_, rfl⟩
        have hb4 : Below w3.heap.size w3 w4 := by rw [hw4]; exact (Below.refl _ _).alloc (Nat.le_refl _) _
        have K4 : WB w4 w3.heap.size d 1 false := by rw [hw4]; exact Blk.new w3 _ _
        have HRL4 := hid (HRL3.out.below hb4 HS3.out)
        have HOW4 := hid (HOW3.out.below hb4 HS3.out)
        have HD4 := hid (HD3.out.below hb4)
        have HT4 := hid (HT3.out.then (touch_below hb4 F) (fun i _ hi => hi))
        have HLT := hid HD3.out.lt
        have HW4 := hid hw4
        have HK4 := hid K4
        clear hw4 hb4 K4
        rcases Nat.eq_zero_or_pos xs.length with hx0 | hx0
        · have hxn : xs = [] := List.eq_nil_of_length_eq_zero hx0
          have FIN : OpenOk w d F (xs.map RP.r) D3 (.returned (.tuple #[ptr w3.heap.size, .slice A2 xs.length c2, .int .i64 0])) w4 := ⟨w3.heap.size, F3, _, xs, w2.heap.size, rfl, hid rfl, HRL4, HB2.out.size, HS3.out, ⟨by rw [hxn]; exact HK4.out, HD4.out, fun h => by have := HLT.out _ h; omega⟩, HT4.out, HF3.out, HOW4⟩
          have HFIN := hid FIN
          clear FIN hxn
          rw [hx0] at HFIN
          rw [hx0]
          go_wp2_with fail
          rw [← HW4.out]
          go_wp2
          go_ret3
          refine .inr ⟨HQ9.out, _, HX.out, .inr ?_⟩
          rw [HOP.out]
          exact ⟨rfl, HFIN.out⟩
        · obtain ⟨j, hj⟩ : ∃ j, xs.length = j + 1 := ⟨xs.length - 1, by omega⟩
          obtain ⟨x, hx⟩ : ∃ x, xs[j]? = some x := ⟨xs[j]'(by omega), List.getElem?_eq_getElem _⟩
          obtain ⟨bb, off, cc, hv, hb1', hb2', hc0, hc1, _, _, _⟩ := HRL4.out.at_ hx
          injection hv with hv1 _ hv3
          subst hv1 hv3
          have hxs : x.s ≤ 4611686018427387904 := HCH.out x.r (List.mem_map_of_mem (List.mem_of_getElem? hx))
          have hne : bb < w3.heap.size := by have := HS3.out; omega
          have hc3 := hc0
          rw [HW4.out, World.cell?_alloc_lt _ _ _ hne] at hc3
          have hjb : (j : Int) ≤ 9223372036854775806 := by unfold maxLen at hc2'; omega
          have hnx : nextOf (xs.map RP.r) = x.s + 1 := nextOf_at (r := x.r) (by rw [List.getElem?_map, hx]; rfl) (by rw [List.length_map]; exact hj)
          have hb5 : Below w3.heap.size w3 (w3.alloc (.cells #[ptr d, .int .u64 ((x.s : Int) + 1), .bool false] 77)) := (Below.refl _ _).alloc (Nat.le_refl _) _
          have FIN : OpenOk w d F (xs.map RP.r) D3 (.returned (.tuple #[ptr w3.heap.size, .slice (some ⟨bb, off, none⟩) xs.length c2, .int .i64 0])) (w3.alloc (.cells #[ptr d, .int .u64 ((x.s : Int) + 1), .bool false] 77)) := ⟨w3.heap.size, F3, _, xs, w2.heap.size, rfl, hid rfl, hid (HRL3.out.below hb5 HS3.out), HB2.out.size, HS3.out, ⟨by rw [hnx]; exact Blk.new w3 _ _, HD3.out.below hb5, fun h => by have := HLT.out _ h; omega⟩, HT3.out.then (touch_below hb5 F) (fun i _ hi => hi), HF3.out, hid (HOW3.out.below hb5 HS3.out)⟩
          have HFIN := hid FIN
          clear FIN hb5 hnx hx hc1 hc0
          rw [hj] at HFIN
          rw [hj]
          go_wp2
          go_ret3
          refine .inr ⟨HQ9.out, _, HX.out, .inr ?_⟩
          rw [HOP.out]
          exact ⟨rfl, HFIN.out⟩
theorem open_nil (w : World) : Calls Tryz.prog 8 #[.pointer none] w fun e w' => e = .returned (.tuple #[.pointer none, .slice none 0 0, .int .i64 1]) ∧ Below w.heap.size w w' := by
  have RN := hid (read_nil logN w)
  go_enter Tryz.func8, Tryz.ntmps8
  go_wp2_with fail
  rw [S_log]
  refine RN.out.mono ?_
  rintro e w1 ⟨rfl, hb1⟩
  have HB1 := hid hb1
  clear hb1
  go_wp2
  go_ret3
  exact ⟨rfl, HB1.out⟩
end Go.Proofs.YtpckloafdlkefaaGreat
namespace Go.Proofs.YtpckloafdlkefaaGreat
set_option maxRecDepth 40000
open Go.RowKit Go.Joins Go.Maps Dsk Regs

def LD (size : Int) (c : List UInt8) : Dk := ⟨size, [(logN, ⟨c, c.length⟩)], -1, false⟩
def ND (size : Int) : Dk := ⟨size, [], -1, false⟩
theorem used_in {fs : Fs} {x : Nm × Fil} (h : x ∈ fs) : x.2.b.length ≤ used fs := by
  induction fs with
  | nil => cases h
  | cons y r ih =>
    rcases List.mem_cons.1 h with rfl | h
    · simp [used]
    · have := ih h; simp only [used]; omega
section
variable {size : Int} {c : List UInt8}
theorem get_LD : Dsk.get (LD size c).fs logN = some ⟨c, c.length⟩ := by simp [LD, Dsk.get]
theorem file_LD : file (LD size c) logN = ⟨c, c.length⟩ := by unfold file; rw [get_LD]; rfl
theorem wSize_LD : wSize (LD size c) = c.length := by unfold wSize; rw [file_LD]
theorem wSize_ND : wSize (ND size) = 0 := rfl
theorem ready_LD : ready (LD size c) logN = 0 := by unfold ready; rw [log_ok, get_LD]; simp [LD]
theorem ready_ND : ready (ND size) logN = 6 := by unfold ready; rw [log_ok]; simp [ND, Dsk.get]
theorem put_LD (f : Fil) : put (LD size c).fs logN f = [(logN, f)] := by
  simp [LD, put, nlt_irrefl]
theorem used_LD : used (LD size c).fs = c.length := by simp [LD, used]
theorem burn_LD (fs : Fs) : burn (LD size c) fs = (0, ⟨size, fs, -1, false⟩) := by simp [burn, LD]
theorem sync_one (c : List UInt8) (s : Nat) : dSync ⟨size, [(logN, ⟨c, s⟩)], -1, false⟩ logN = (0, LD size c) := by
  have hg : Dsk.get [(logN, (⟨c, s⟩ : Fil))] logN = some ⟨c, s⟩ := by simp [Dsk.get]
  have hr : ready ⟨size, [(logN, ⟨c, s⟩)], -1, false⟩ logN = 0 := by unfold ready; rw [log_ok]; simp [Dsk.get]
  unfold dSync
  rw [hr, if_neg (by decide)]
  unfold file
  rw [hg]
  simp [burn, put, nlt_irrefl, LD]
theorem append_LD (b : List UInt8) (h : (c.length : Int) + b.length ≤ size) : dAppend (LD size c) logN b = (0, ⟨size, [(logN, ⟨c ++ b, c.length⟩)], -1, false⟩) := by
  unfold dAppend
  rw [if_neg (by simp [LD]), log_ok, if_neg (by decide), used_LD, if_neg (by show ¬ size < _; omega), file_LD, put_LD, burn_LD]
theorem append_full (b : List UInt8) (h : size < (c.length : Int) + b.length) : dAppend (LD size c) logN b = (7, LD size c) := by
  unfold dAppend
  rw [if_neg (by simp [LD]), log_ok, if_neg (by decide), used_LD, if_pos (by show size < _; omega)]
theorem append_ND (b : List UInt8) (h : (b.length : Int) ≤ size) : dAppend (ND size) logN b = (0, ⟨size, [(logN, ⟨b, 0⟩)], -1, false⟩) := by
  unfold dAppend
  rw [if_neg (by simp [ND]), log_ok, if_neg (by decide), if_neg (by simp [ND, used]; omega)]
  simp [burn, ND, put, file, Dsk.get]
theorem rec_len (nx : Nat) (b : List UInt8) : (frm (pay (nx, b))).length = 16 + b.length := by rw [frm_len, pay_len]; show 8 + b.length + 8 = _; omega
theorem write_LD (nx : Nat) (b : List UInt8) (h : (c.length : Int) + (16 + b.length) ≤ size) : wWrite (LD size c) nx b = (0, LD size (c ++ frm (pay (nx, b)))) := by
  have e := append_LD (size := size) (c := c) (frm (pay (nx, b))) (by rw [rec_len]; omega)
  unfold wWrite
  rw [e, if_neg (by simp), sync_one]
theorem write_full (nx : Nat) (b : List UInt8) (h : size < (c.length : Int) + (16 + b.length)) : wWrite (LD size c) nx b = (7, LD size c) := by
  have e := append_full (size := size) (c := c) (frm (pay (nx, b))) (by rw [rec_len]; omega)
  unfold wWrite
  rw [e, if_pos (by simp)]
theorem write_ND (nx : Nat) (b : List UInt8) (h : (16 + b.length : Int) ≤ size) : wWrite (ND size) nx b = (0, LD size (frm (pay (nx, b)))) := by
  have e := append_ND (size := size) (frm (pay (nx, b))) (by rw [rec_len]; omega)
  unfold wWrite
  rw [e, if_neg (by simp), sync_one]
theorem cut_LD (k : Nat) (h : k ≤ c.length) : dCut (LD size c) logN (k : Int) = (0, LD size (c.take k)) := by
  unfold dCut
  rw [ready_LD, if_neg (by decide), file_LD, if_neg (by simp only; omega), put_LD, burn_LD, Int.toNat_natCast]
  simp [LD, List.length_take, h]
theorem opn_LD {rs : List Rec} (h : WScans c rs) : opn (LD size c) rs = (0, LD size (logB rs)) := by
  obtain ⟨h1, h2, _⟩ := wscans_first h
  unfold opn
  rw [file_LD]
  by_cases hc : (logB rs).length < c.length
  · rw [if_pos hc, cut_LD _ h2, h1]
  · rw [if_neg hc]
    rw [List.take_of_length_le (by omega)] at h1
    rw [← h1]
theorem app_LD (nx : Nat) (b : List UInt8) (hnx : nx ≤ 4611686018427387904) (h : (c.length : Int) + (16 + b.length) ≤ size) : wApp ⟨LD size c, nx, false⟩ b = (0, nx, ⟨LD size (c ++ frm (pay (nx, b))), nx + 1, false⟩) := by
  unfold wApp
  rw [if_neg (by simp), if_neg (by show ¬ _ < nx; omega), write_LD _ _ h]
  rfl
theorem app_full (nx : Nat) (b : List UInt8) (hnx : nx ≤ 4611686018427387904) (h : size < (c.length : Int) + (16 + b.length)) : wApp ⟨LD size c, nx, false⟩ b = (7, 0, ⟨LD size c, nx, false⟩) := by
  unfold wApp
  rw [if_neg (by simp), if_neg (by show ¬ _ < nx; omega), write_full _ _ h]
  rfl
theorem app_ND (nx : Nat) (b : List UInt8) (hnx : nx ≤ 4611686018427387904) (h : (16 + b.length : Int) ≤ size) : wApp ⟨ND size, nx, false⟩ b = (0, nx, ⟨LD size (frm (pay (nx, b))), nx + 1, false⟩) := by
  unfold wApp
  rw [if_neg (by simp), if_neg (by show ¬ _ < nx; omega), write_ND _ _ h]
  rfl
theorem reset_LD (nx : Nat) : wReset ⟨LD size c, nx, false⟩ = (0, ⟨LD size [], nx, false⟩) := by
  have e := cut_LD (size := size) (c := c) 0 (Nat.zero_le _)
  rw [List.take_zero] at e
  unfold wReset
  rw [if_neg (by simp), if_neg (by rw [get_LD]; simp)]
  rw [show ((0 : Nat) : Int) = 0 from rfl] at e
  rw [e]
  rfl
end
theorem write_fit {D : Dk} {k : Nat} (f : Fit D k) (nx : Nat) (b : List UInt8) : Fit (wWrite D nx b).2 (k + 2) := by
  have h1 : Fit (dAppend D logN (frm (pay (nx, b)))).2 (k + 1) := act_fit f (.app logN (frm (pay (nx, b)))) trivial
  unfold wWrite
  split
  · exact h1.mono (by omega)
  · exact act_fit h1 (.syn logN) trivial
theorem app_fit {s : WS} {k : Nat} (f : Fit s.D k) (b : List UInt8) : Fit (wApp s b).2.2.D (k + 2) := by
  unfold wApp
  split
  · exact f.mono (by omega)
  · split
    · exact f.mono (by omega)
    · exact write_fit f s.nx b
theorem reset_fit {s : WS} {k : Nat} (f : Fit s.D k) : Fit (wReset s).2.D (k + 1) := by
  unfold wReset
  split
  · exact f.mono (by omega)
  · split
    · exact f.mono (by omega)
    · exact act_fit f (.cut logN 0) trivial
theorem skip_fit {s : WS} {k : Nat} (f : Fit s.D k) (q : Nat) : Fit (wSkip s q).2.D k := by
  unfold wSkip
  split
  · exact f
  · split
    · exact f
    · split <;> exact f
theorem opn_fit {D : Dk} {k : Nat} (f : Fit D k) (rs : List Rec) : Fit (opn D rs).2 (k + 1) := by
  unfold opn
  split
  · exact act_fit f (.cut logN _) trivial
  · exact f.mono (by omega)
structure LLog (w W : World) (g d : Nat) (F : List Nat) (s : WS) (k : Nat) : Prop where
  log : LogAt W g d F s
  fit : Fit s.D k
  new : ∀ b ∈ F, w.heap.size ≤ b
  newg : w.heap.size ≤ g
  below : Below w.heap.size w W
def LNext (w W : World) (g d : Nat) (F : List Nat) (s : WS) (k : Nat) (W' : World) : Prop := ∃ F', LLog w W' g d F' s k ∧ Touch W W' (g :: F) ∧ ∀ b ∈ F', b ∈ F ∨ W.heap.size ≤ b
section
variable {w W W' : World} {g d : Nat} {F : List Nat} {s s2 : WS} {k k2 : Nat}
theorem LLog.then (L : LLog w W g d F s k) (hb : Below W.heap.size W W') : LLog w W' g d F s k := ⟨L.log.below hb, L.fit, L.new, L.newg, L.below.trans (hb.mono L.below.size)⟩
theorem LLog.did (L : LLog w W g d F s k) (h : LDid W g d F s2 W') (hf : Fit s2.D k2) : LNext w W g d F s2 k2 W' := by
  obtain ⟨F', hl, ht, hF⟩ := h
  refine ⟨F', ⟨hl, hf, fun b hb => ?_, L.newg, L.below.trans (ht.below L.below.size (fun i hi => ?_))⟩, ht, hF⟩
  · rcases hF b hb with h | h
    · exact L.new b h
    · exact Nat.le_trans L.below.size h
  · rcases List.mem_cons.1 hi with h | h
    · rw [h]; exact L.newg
    · exact L.new i h
theorem LLog.append (L : LLog w W g d F s k) (hk : k < 90000) (hnx : s.nx ≤ 4611686018427387905) (A : Option Addr) (n c H : Nat) (body : List UInt8) (harg : Arg W F H A n c (U body)) (hn : n ≤ 200000) :
    Calls Tryz.prog 12 #[ptr g, .slice A n c] W fun e W' => e = .returned (.tuple #[.int .u64 ((wApp s body).2.1 : Int), .int .i64 (wApp s body).1]) ∧ LNext w W g d F (wApp s body).2.2 (k + 2) W' :=
  (append_w L.log L.fit hk A n c H body harg hn hnx).mono fun _ _ ⟨h1, h2⟩ => ⟨h1, L.did h2 (app_fit L.fit body)⟩
theorem LLog.reset (L : LLog w W g d F s k) :
    Calls Tryz.prog 14 #[ptr g] W fun e W' => e = .returned (.int .i64 (wReset s).1) ∧ LNext w W g d F (wReset s).2 (k + 1) W' :=
  (reset_w L.log L.fit).mono fun _ _ ⟨h1, h2⟩ => ⟨h1, L.did h2 (reset_fit L.fit)⟩
theorem wsize_le (f : Fit s.D k) : (wSize s.D : Int) ≤ 1099511627776 := by
  unfold wSize file
  cases h : Dsk.get s.D.fs logN with
  | none => simp
  | some x =>
    have h1 := f.whole
    have h2 := used_in (get_mem h)
    have h3 := h1.room
    have h4 := h1.top
    simp only [Option.getD_some]
    simp only at h2
    omega
theorem LLog.size (L : LLog w W g d F s k) : Calls Tryz.prog 30 #[ptr g] W fun e w' => e = .returned (.int .i64 (wSize s.D : Int)) ∧ Below W.heap.size W w' := size_w L.log (by have := wsize_le L.fit; omega)
end
end Go.Proofs.YtpckloafdlkefaaGreat
namespace Go.Proofs.YtpckloafdlkefaaGreat
set_option maxRecDepth 40000
open Go.RowKit Go.Joins Go.Maps Dsk Regs

/-- A log on a disk that was just made. -/
theorem open_new {w W : World} {d : Nat} {F : List Nat} {size : Int} (L : Live w W d F (ND size) 0) :
    Calls Tryz.prog 8 #[ptr d] W fun e W' => ∃ g F' A c, e = .returned (.tuple #[ptr g, .slice A 0 c, .int .i64 0]) ∧ LLog w W' g d F' ⟨ND size, 1, false⟩ 1 ∧ Touch W W' F := by
  refine (open_w L.at_ L.fit (by simp [ND, file, Dsk.get])).mono ?_
  rintro e W' (⟨h, _⟩ | ⟨_, rs, hs, ho⟩)
  · rw [ready_ND] at h; cases h
  · have hr : rs = [] := wscans_unique hs (wscans_log (rs := []) trivial (fun r hr => by cases hr))
    subst hr
    have e0 : opn (ND size) [] = (0, ND size) := by unfold opn; rw [if_neg]; simp [logB, flat, ND, file, Dsk.get]
    rcases ho with ⟨h, _⟩ | ⟨_, g, F', v, xs, m, rfl, hx, hl, hm, hg, hL, hT, hF, _⟩
    · rw [e0] at h; exact absurd rfl h
    · rw [e0] at hL
      have hxn : xs = [] := List.map_eq_nil_iff.1 hx.out
      subst hxn
      obtain ⟨A, c, rfl, _⟩ := hl.out.shape
      have hw := L.below.size
      exact ⟨g, F', A, c, rfl, ⟨hL, L.fit.mono (by omega), fun b hb => by rcases hF b hb with h | h; exact L.new b h; omega, by omega, L.below.trans (hT.below L.below.size L.new)⟩, hT⟩
theorem new_log (w : World) (size : Int) (h1 : 0 ≤ size) (h2 : size ≤ 1099511627776) : Calls Tryz.prog 7 #[.int .i64 size] w fun e w1 => ∃ d F, e = .returned (.tuple #[ptr d, .int .i64 0]) ∧ Live w w1 d F (ND size) 0 := by
  refine (new_m w size).mono ?_
  rintro e w1 ⟨hb1, h | ⟨_, _, d, F, rfl, hd, hF⟩⟩
  · omega
  · exact ⟨d, F, rfl, live_new hb1 h1 h2 hd hF⟩
theorem LLog.blk {w W : World} {g d : Nat} {F : List Nat} {s : WS} {k : Nat} (L : LLog w W g d F s k) : WB W g d s.nx s.br := L.log.blk
theorem LLog.arg {w W : World} {g d : Nat} {F : List Nat} {s : WS} {k : Nat} (L : LLog w W g d F s k) : ∀ b ∈ F, b < W.heap.size := L.log.at_.lt
set_option maxHeartbeats 2000000 in
theorem lives_any (w : World) : Calls Tryz.prog 5 #[] w fun e w' => e = .returned (.bool true) ∧ Below w.heap.size w w' := by
  have N1 := hid (new_log w 1000 (by omega) (by omega))
  have A1 : Hid (wApp ⟨ND 1000, 1, false⟩ [7] = (0, 1, ⟨LD 1000 (frm (pay (1, [7]))), 2, false⟩)) := hid (app_ND 1 [7] (by omega) (by decide))
  have A2 : Hid (wSize (LD 1000 (frm (pay (1, [7])))) = 17) := hid (by rw [wSize_LD, rec_len]; rfl)
  go_enter Tryz.func5, Tryz.ntmps5
  go_wp2_with fail
  refine N1.out.mono ?_
  rintro e w1 ⟨d, F, rfl, L1⟩
  have O1 := hid (open_new L1)
  clear N1 L1
  go_wp2_with fail
  refine O1.out.mono ?_
  rintro e w2 ⟨g, F2, A, c, rfl, L2, _⟩
  have NX2 := hid (next_w L2.blk)
  have e1 := eql_ptr w2 g
  have HL2 := hid L2
  clear O1 L2
  go_wp2_with fail
  refine NX2.out.mono ?_
  rintro e w3 ⟨rfl, rfl⟩
  have L3 := HL2.out.then (W' := w3.alloc (.cells #[.int .u8 7] 5)) ((Below.refl _ _).alloc (Nat.le_refl _) _)
  have AP := hid (L3.append (by omega) (by show (1 : Nat) ≤ _; omega) _ 1 1 _ [7] (arg_lit 5 (U [7]) _ 1 rfl rfl (by omega) HL2.out.arg) (by omega))
  rw [A1.out] at AP
  clear HL2 NX2 L3 e1
  go_wp2_with fail
  refine AP.out.mono ?_
  rintro e w4 ⟨rfl, F4, L4, _, _⟩
  have SZ := hid L4.size
  rw [show wSize (LD 1000 (frm (pay (1, [7])))) = 17 from A2.out] at SZ
  have HL4 := hid L4
  clear L4 AP
  go_wp2_with fail
  refine SZ.out.mono ?_
  rintro e w5 ⟨rfl, hb5⟩
  have L5 := HL4.out.then hb5
  have NX5 := hid (next_w L5.blk)
  have HL5 := hid L5
  clear L5 HL4 SZ hb5
  go_wp2_with fail
  refine NX5.out.mono ?_
  rintro e w6 ⟨rfl, rfl⟩
  go_wp2
  go_ret
  exact ⟨rfl, HL5.out.below⟩
end Go.Proofs.YtpckloafdlkefaaGreat
