/-
  WalKeeps in plain words: what is known of a log's file whatever was done, and what a crash leaves of it.
-/
import Derived.Test.YtpckloafdlkefaaGreatCutsMath
import Derived.Test.YtpckloafdlkefaaGreatWalB
namespace Go.Proofs.YtpckloafdlkefaaGreat
set_option maxRecDepth 40000
open Dsk Regs

/-- The records that are there for sure, the body that is under way, the log. -/
structure Holds (hv : List Rec) (un : Option (List UInt8)) (s : WS) : Prop where
  chain : Chain none hv
  short : ∀ r ∈ hv, r.2.length ≤ 33554424
  next : nxt none hv = none ∨ nxt none hv = some s.nx
  low : 1 ≤ s.nx
  file : (s.D.fs = [] ∧ hv = []) ∨ ∃ f : Fil, s.D.fs = [(logN, f)] ∧ f.s = (logB hv).length ∧ (f.b = logB hv ∨ ∃ b, un = some b ∧ b.length ≤ 33554424 ∧ f.b = logB hv ++ frm (pay (s.nx, b)))
  up : s.br = false → s.D.off = false ∧ un = none
theorem get_one (f : Fil) : Dsk.get [(logN, f)] logN = some f := by simp [Dsk.get]
theorem put_one (f f' : Fil) : put [(logN, f)] logN f' = [(logN, f')] := by simp [put, nlt_irrefl]
theorem put_none (f : Fil) : put [] logN f = [(logN, f)] := rfl
theorem get_nil : Dsk.get [] logN = none := rfl
/-- An operation that has no other error: done, or the power is gone and nothing is changed. -/
theorem burn_two (D : Dk) (fs : Fs) : ((burn D fs).1 = 0 ∧ (burn D fs).2.fs = fs ∧ (burn D fs).2.off = D.off ∧ (burn D fs).2.size = D.size) ∨ ((burn D fs).1 = 9 ∧ (burn D fs).2.fs = D.fs ∧ (burn D fs).2.off = true ∧ (burn D fs).2.size = D.size) := by
  unfold burn
  split
  · exact .inr ⟨rfl, rfl, rfl, rfl⟩
  · exact .inl ⟨rfl, rfl, rfl, rfl⟩
theorem holds_fuse {hv : List Rec} {un : Option (List UInt8)} {s : WS} (h : Holds hv un s) (k : Int) : Holds hv un ⟨(dFuse s.D k).2, s.nx, s.br⟩ := by
  have e : (dFuse s.D k).2.fs = s.D.fs ∧ (dFuse s.D k).2.off = s.D.off := by unfold dFuse; split <;> exact ⟨rfl, rfl⟩
  exact ⟨h.chain, h.short, h.next, h.low, by rw [e.1]; exact h.file, fun hb => by rw [e.2]; exact h.up hb⟩
/-- The one file of a log that is not broken. -/
theorem holds_file {hv : List Rec} {s : WS} (h : Holds hv none s) : (s.D.fs = [] ∧ hv = []) ∨ s.D.fs = [(logN, ⟨logB hv, (logB hv).length⟩)] := by
  rcases h.file with h1 | ⟨f, h1, h2, h3⟩
  · exact .inl h1
  · rcases h3 with h3 | ⟨b, h3, _⟩
    · right
      obtain ⟨fb, fs⟩ := f
      simp only at h2 h3
      rw [h1, h2, h3]
    · cases h3
theorem dcut_one {D : Dk} {f : Fil} (ho : D.off = false) (hf : D.fs = [(logN, f)]) {k : Nat} (hk : k ≤ f.b.length) : dCut D logN (k : Int) = burn D [(logN, ⟨f.b.take k, k⟩)] := by
  have hr : ready D logN = 0 := by unfold ready; rw [log_ok, hf, get_one]; simp [ho]
  have hfl : Dsk.file D logN = f := by unfold Dsk.file; rw [hf, get_one]; rfl
  unfold dCut
  rw [hr, if_neg (by decide), hfl, if_neg (by omega), hf, put_one, Int.toNat_natCast]
theorem holds_reset {hv : List Rec} {s : WS} (h : Holds hv none s) (hb : s.br = false) : ((wReset s).1 = 0 → Holds [] none (wReset s).2) ∧ ((wReset s).1 ≠ 0 → (wReset s).2.br = true ∧ Holds hv none (wReset s).2) := by
  obtain ⟨ho, _⟩ := h.up hb
  rcases holds_file h with ⟨h1, h2⟩ | h1
  · have e : wReset s = (0, s) := by unfold wReset; rw [if_neg (by simp [hb]), if_pos (by rw [h1]; rfl)]
    rw [e, ← h2]
    exact ⟨fun _ => h, fun hne => absurd rfl hne⟩
  · have hc := dcut_one ho h1 (k := 0) (Nat.zero_le _)
    have e : wReset s = ((burn s.D [(logN, ⟨[], 0⟩)]).1, ⟨(burn s.D [(logN, ⟨[], 0⟩)]).2, s.nx, breaks (burn s.D [(logN, ⟨[], 0⟩)]).1⟩) := by
      unfold wReset
      rw [if_neg (by simp [hb]), if_neg (by rw [h1, get_one]; simp), show ((0 : Int)) = ((0 : Nat) : Int) from rfl, hc]
      rfl
    rw [e]
    rcases burn_two s.D [(logN, ⟨[], 0⟩)] with ⟨e1, e2, e3, _⟩ | ⟨e1, e2, e3, _⟩
    · refine ⟨fun _ => ⟨trivial, (fun r hr => by cases hr), .inl rfl, h.low, .inr ⟨⟨[], 0⟩, e2, rfl, .inl rfl⟩, fun _ => ⟨by rw [e3]; exact ho, rfl⟩⟩, fun hne => absurd e1 hne⟩
    · refine ⟨(fun h0 => by simp only at h0; rw [e1] at h0; cases h0), fun _ => ⟨?_, h.chain, h.short, h.next, h.low, ?_, fun hbr => ?_⟩⟩
      · show breaks _ = true
        rw [e1]; decide
      · show (_ ∧ _) ∨ _
        simp only
        rw [e2]; exact h.file
      · simp only at hbr
        rw [e1] at hbr
        exact absurd hbr (by decide)
/-- What write leaves of a log that is not broken. -/
theorem dapp_one {D : Dk} {fs : Fs} {c : List UInt8} {n : Nat} (ho : D.off = false) (hf : (D.fs = [] ∧ c = [] ∧ n = 0) ∨ D.fs = [(logN, ⟨c, n⟩)]) (x : List UInt8) (hfs : fs = [(logN, ⟨c ++ x, n⟩)]) :
    (D.size < (used D.fs : Int) + x.length ∧ dAppend D logN x = (7, D)) ∨ dAppend D logN x = burn D fs := by
  have hp : put D.fs logN ⟨(Dsk.file D logN).b ++ x, (Dsk.file D logN).s⟩ = fs := by
    rcases hf with ⟨h1, h2, h3⟩ | h1
    · unfold Dsk.file; rw [h1, get_nil, hfs, h2, h3]; rfl
    · unfold Dsk.file; rw [h1, get_one, hfs]; exact put_one _ _
  unfold dAppend
  rw [if_neg (by simp [ho]), log_ok, if_neg (by decide), hp]
  split
  · rename_i h; exact .inl ⟨h, rfl⟩
  · exact .inr rfl
theorem dsync_one {D : Dk} {c : List UInt8} {n : Nat} (ho : D.off = false) (hf : D.fs = [(logN, ⟨c, n⟩)]) : dSync D logN = burn D [(logN, ⟨c, c.length⟩)] := by
  have hr : ready D logN = 0 := by unfold ready; rw [log_ok, hf, get_one]; simp [ho]
  have hfl : Dsk.file D logN = ⟨c, n⟩ := by unfold Dsk.file; rw [hf, get_one]; rfl
  unfold dSync
  rw [hr, if_neg (by decide), hfl, hf, put_one]
/-- A log's write: done, no room, or the power is gone with the file as it was or with the record behind it that is not synced. -/
theorem write_three {hv : List Rec} {s : WS} (h : Holds hv none s) (hb : s.br = false) (b : List UInt8) :
    ((wWrite s.D s.nx b).1 = 0 ∧ (wWrite s.D s.nx b).2.off = false ∧ (wWrite s.D s.nx b).2.fs = [(logN, ⟨logB hv ++ frm (pay (s.nx, b)), (logB hv ++ frm (pay (s.nx, b))).length⟩)]) ∨
    ((wWrite s.D s.nx b).1 = 7 ∧ (wWrite s.D s.nx b).2 = s.D) ∨
    ((wWrite s.D s.nx b).1 = 9 ∧ ((wWrite s.D s.nx b).2.fs = s.D.fs ∨ (wWrite s.D s.nx b).2.fs = [(logN, ⟨logB hv ++ frm (pay (s.nx, b)), (logB hv).length⟩)])) := by
  obtain ⟨ho, _⟩ := h.up hb
  have hf : (s.D.fs = [] ∧ logB hv = [] ∧ (logB hv).length = 0) ∨ s.D.fs = [(logN, ⟨logB hv, (logB hv).length⟩)] := by
    rcases holds_file h with ⟨h1, h2⟩ | h1
    · left; rw [h2]; exact ⟨h1, by simp [logB, flat], by simp [logB, flat]⟩
    · exact .inr h1
  unfold wWrite
  rcases dapp_one ho hf (frm (pay (s.nx, b))) rfl with ⟨_, e⟩ | e
  · rw [e, if_pos (by simp)]
    exact .inr (.inl ⟨rfl, rfl⟩)
  · rw [e]
    rcases burn_two s.D [(logN, ⟨logB hv ++ frm (pay (s.nx, b)), (logB hv).length⟩)] with ⟨e1, e2, e3, _⟩ | ⟨e1, e2, _, _⟩
    · rw [e1, if_neg (by simp), dsync_one (e3.trans ho) e2]
      rcases burn_two (burn s.D [(logN, ⟨logB hv ++ frm (pay (s.nx, b)), (logB hv).length⟩)]).2 [(logN, ⟨logB hv ++ frm (pay (s.nx, b)), (logB hv ++ frm (pay (s.nx, b))).length⟩)] with ⟨g1, g2, g3, _⟩ | ⟨g1, g2, _, _⟩
      · exact .inl ⟨g1, (g3.trans e3).trans ho, g2⟩
      · exact .inr (.inr ⟨g1, .inr (g2.trans e2)⟩)
    · rw [e1, if_pos (by decide)]
      exact .inr (.inr ⟨e1, .inl e2⟩)
theorem holds_append {hv : List Rec} {s : WS} (h : Holds hv none s) (hb : s.br = false) (hn : s.nx ≤ 4611686018427387904) (b : List UInt8) (hl : b.length ≤ 33554424) :
    ((wApp s b).1 = 0 ∧ (wApp s b).2.1 = s.nx ∧ (wApp s b).2.2.nx = s.nx + 1 ∧ (wApp s b).2.2.br = false ∧ Holds (hv ++ [(s.nx, b)]) none (wApp s b).2.2) ∨
    ((wApp s b).1 = 7 ∧ (wApp s b).2.2 = s) ∨
    ((wApp s b).1 = 9 ∧ (wApp s b).2.2.br = true ∧ (wApp s b).2.2.nx = s.nx ∧ Holds hv (some b) (wApp s b).2.2) := by
  have hw := write_three h hb b
  obtain ⟨r, hr⟩ : ∃ r, r = wWrite s.D s.nx b := ⟨_, rfl⟩
  have e : wApp s b = (r.1, if r.1 = 0 then s.nx else 0, ⟨r.2, if r.1 = 0 then s.nx + 1 else s.nx, breaks r.1⟩) := by
    unfold wApp; rw [if_neg (by simp [hb]), if_neg (by omega), ← hr]
  rw [← hr] at hw
  rw [e]
  rcases hw with ⟨h1, h2, h3⟩ | ⟨h1, h2⟩ | ⟨h1, h2⟩
  · left
    simp only [h1, if_true]
    have hx : logB (hv ++ [(s.nx, b)]) = logB hv ++ frm (pay (s.nx, b)) := by rw [logB_append, logB_one]
    refine ⟨trivial, trivial, trivial, rfl, chain_snoc h.chain _ h.low hn h.next, ?_, ?_, ?_, .inr ⟨_, h3, by rw [hx], .inl (by rw [hx])⟩, fun _ => ⟨h2, rfl⟩⟩
    · intro q hq
      rcases List.mem_append.1 hq with hq | hq
      · exact h.short q hq
      · rw [List.mem_singleton] at hq; rw [hq]; exact hl
    · rw [nxt_snoc]; exact .inr rfl
    · show 1 ≤ s.nx + 1; omega
  · right; left
    simp only [h1, h2]
    exact ⟨trivial, by
      obtain ⟨D, nx, br⟩ := s
      simp only at hb
      subst hb
      rfl⟩
  · right; right
    simp only [h1]
    refine ⟨trivial, rfl, rfl, h.chain, h.short, h.next, h.low, ?_, fun (hbr : breaks 9 = false) => absurd hbr (by decide)⟩
    show (r.2.fs = [] ∧ _) ∨ ∃ f : Fil, r.2.fs = _ ∧ _
    rcases h2 with h2 | h2
    · rw [h2]
      rcases h.file with g | ⟨f, g1, g2, g3⟩
      · exact .inl g
      · refine .inr ⟨f, g1, g2, ?_⟩
        rcases g3 with g3 | ⟨b', g3, _⟩
        · exact .inl g3
        · cases g3
    · exact .inr ⟨_, h2, rfl, .inr ⟨b, rfl, by omega, rfl⟩⟩
theorem nextOf_two (m : List Rec) : (nxt none m = none ∨ nxt none m = some (nextOf m)) ∧ 1 ≤ nextOf m := by
  rcases List.eq_nil_or_concat m with rfl | ⟨l, x, rfl⟩
  · exact ⟨.inl rfl, by decide⟩
  · rw [List.concat_eq_append, nextOf_snoc, nxt_snoc]
    exact ⟨.inr rfl, by omega⟩
theorem opn_up {D : Dk} {c : List UInt8} {m : List Rec} (ho : D.off = false) (hb : ∀ fs, burn D fs = (0, { D with fs := fs })) (hf : D.fs = [(logN, ⟨c, c.length⟩)]) (hw : WScans c m) :
    (opn D m).1 = 0 ∧ (opn D m).2.fs = [(logN, ⟨logB m, (logB m).length⟩)] ∧ (opn D m).2.off = false := by
  obtain ⟨h1, h2, _⟩ := wscans_first hw
  have hfl : Dsk.file D logN = ⟨c, c.length⟩ := by unfold Dsk.file; rw [hf, get_one]; rfl
  unfold opn
  rw [hfl]
  by_cases hc : (logB m).length < c.length
  · rw [if_pos hc, dcut_one ho hf h2, hb, h1]
    exact ⟨rfl, rfl, ho⟩
  · rw [if_neg hc]
    rw [List.take_of_length_le (by omega)] at h1
    rw [← h1]
    exact ⟨rfl, hf, ho⟩
/-- What a crash leaves: the records that are there for sure, perhaps the one that was under way, and no other; what Open makes of it. -/
theorem holds_crash {hv : List Rec} {un : Option (List UInt8)} {s : WS} (h : Holds hv un s) (hn : s.nx ≤ 4611686018427387904) (l : List Int) (hl : l.any (fun x => decide (x < 0)) = false) :
    ∃ m, WScans (Dsk.file (dCrash s.D l).2 logN).b m ∧ (m = hv ∨ ∃ b, un = some b ∧ m = hv ++ [(s.nx, b)]) ∧ (dCrash s.D l).1 = 0 ∧ ready (dCrash s.D l).2 logN ≠ 9 ∧ (opn (dCrash s.D l).2 m).1 = 0 ∧ Holds m none ⟨(opn (dCrash s.D l).2 m).2, nextOf m, false⟩ ∧ (Dsk.file (dCrash s.D l).2 logN).b.length ≤ (Dsk.file s.D logN).b.length := by
  have e : dCrash s.D l = (0, { size := s.D.size, fs := crashFs s.D.fs l, fuse := -1, off := false }) := by unfold dCrash; rw [if_neg (by rw [hl]; decide)]
  obtain ⟨D, hD⟩ : ∃ D, D = (dCrash s.D l).2 := ⟨_, rfl⟩
  rw [← hD]
  rw [e] at hD
  have ho : D.off = false := by rw [hD]
  have hfu : D.fuse = -1 := by rw [hD]
  have hfs : D.fs = crashFs s.D.fs l := by rw [hD]
  have h0 : (dCrash s.D l).1 = 0 := by rw [e]
  have hr9 : ready D logN ≠ 9 := by
    unfold ready
    rw [log_ok]
    simp only [ho, Bool.false_eq_true, if_false, reduceCtorEq]
    split <;> decide
  have hbn : ∀ fs, burn D fs = (0, { D with fs := fs }) := fun fs => by unfold burn; rw [if_neg (by rw [hfu]; decide), if_neg (by rw [hfu]; decide)]
  rcases h.file with ⟨g1, g2⟩ | ⟨f, g1, g2, g3⟩
  · have hfe : D.fs = [] := by rw [hfs, g1]; rfl
    have hfl : Dsk.file D logN = ⟨[], 0⟩ := by unfold Dsk.file; rw [hfe]; rfl
    have hw : WScans (Dsk.file D logN).b [] := by rw [hfl]; exact wscans_log (rs := []) trivial (fun r hr => by cases hr)
    have ho2 : opn D [] = (0, D) := by unfold opn; rw [hfl, if_neg (by simp)]
    refine ⟨[], hw, .inl g2.symm, h0, hr9, by rw [ho2], ?_⟩
    rw [ho2]
    exact ⟨⟨trivial, (fun r hr => by cases hr), .inl rfl, by show 1 ≤ nextOf []; decide, .inl ⟨hfe, rfl⟩, fun _ => ⟨ho, rfl⟩⟩, by rw [hfl]; exact Nat.zero_le _⟩
  · obtain ⟨fb, fs⟩ := f
    simp only at g2 g3
    obtain ⟨j, hj⟩ : ∃ j, j = fs + (l.headD 0).toNat % (fb.length - fs + 1) := ⟨_, rfl⟩
    have hsl : fs ≤ fb.length := by
      rcases g3 with g3 | ⟨b, _, _, g3⟩
      · rw [g2, g3]; exact Nat.le_refl _
      · rw [g2, g3, List.length_append]; omega
    have hjl : fs ≤ j ∧ j ≤ fb.length := by
      have := Nat.mod_lt (l.headD 0).toNat (show 0 < fb.length - fs + 1 by omega)
      omega
    have hfe : D.fs = [(logN, ⟨fb.take j, (fb.take j).length⟩)] := by
      rw [hfs, g1]
      show [(logN, cutFil ⟨fb, fs⟩ (l.headD 0))] = _
      unfold cutFil
      simp only
      rw [← hj, List.length_take, Nat.min_eq_left hjl.2]
    have hfl : Dsk.file D logN = ⟨fb.take j, (fb.take j).length⟩ := by unfold Dsk.file; rw [hfe, get_one]; rfl
    have key : ∃ m, WScans (fb.take j) m ∧ (m = hv ∨ ∃ b, un = some b ∧ m = hv ++ [(s.nx, b)]) := by
      rcases g3 with g3 | ⟨b, gu, gl, g3⟩
      · refine ⟨hv, ?_, .inl rfl⟩
        rw [g3] at hjl ⊢
        rw [List.take_of_length_le (by omega)]
        exact wscans_log h.chain h.short
      · rw [g3, List.take_append, List.take_of_length_le (by omega)]
        rcases Nat.lt_or_ge (j - (logB hv).length) (frm (pay (s.nx, b))).length with hlt | hge
        · exact ⟨hv, wscans_cut h.chain h.short (s.nx, b) gl hlt, .inl rfl⟩
        · refine ⟨hv ++ [(s.nx, b)], ?_, .inr ⟨b, gu, rfl⟩⟩
          rw [List.take_of_length_le hge, ← logB_one, ← logB_append]
          refine wscans_log (chain_snoc h.chain _ h.low hn h.next) (fun q hq => ?_)
          rcases List.mem_append.1 hq with hq | hq
          · exact h.short q hq
          · rw [List.mem_singleton] at hq; rw [hq]; exact gl
    obtain ⟨m, hw, hm⟩ := key
    obtain ⟨o1, o2, o3⟩ := opn_up ho hbn hfe hw
    obtain ⟨n1, n2⟩ := nextOf_two m
    refine ⟨m, by rw [hfl]; exact hw, hm, h0, hr9, o1, ⟨wscans_chain hw, (wscans_first hw).2.2, n1, n2, .inr ⟨_, o2, rfl, .inl rfl⟩, fun _ => ⟨o3, rfl⟩⟩, ?_⟩
    have hfs0 : Dsk.file s.D logN = ⟨fb, fs⟩ := by unfold Dsk.file; rw [g1, get_one]; rfl
    rw [hfl, hfs0]
    simp only [List.length_take]
    omega
end Go.Proofs.YtpckloafdlkefaaGreat
