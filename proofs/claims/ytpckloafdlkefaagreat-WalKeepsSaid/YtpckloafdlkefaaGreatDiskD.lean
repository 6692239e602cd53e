/-
  The files that a range over a map is through with: plain words.
  Contract: Clone.
  Contract: Same.
  Two disks' files are the same: plain words; how many entries a map of files has.
  Contracts: maps.EqualFunc over two disks' files; Same.
  A disk in memory without its ghosts, and every call's contract over it; how far a disk grows by acts.
  A disk that a law made: its blocks are new; what calls leave of it, and of another one beside it; slices that are handed over. (As XLive6, without what is chapter 6's own.)
  A disk that nobody made: what Read answers. (As XNil6, without the rest.)
-/
import Derived.Test.YtpckloafdlkefaaGreatDiskA
import Derived.Test.YtpckloafdlkefaaGreatDiskC
import Derived.Test.YtpckloafdlkefaaGreatKit
import Derived.Laws.BytesArg
import Derived.Test.YtpckloafdlkefaaGreatDiskB
import Derived.Lib.SmallJoins
namespace Go.Proofs.YtpckloafdlkefaaGreat
set_option maxRecDepth 40000
open Go.Maps Dsk

def outF (left : Lit → Bool) (fs : Fs) : Fs := fs.filter fun x => !left (.string x.1)
theorem outF_rises {left : Lit → Bool} {fs : Fs} (hr : Rises fs) : Rises (outF left fs) := by
  induction fs with
  | nil => trivial
  | cons x r ih =>
    obtain ⟨n, f⟩ := x
    unfold outF
    rw [List.filter_cons]
    split
    · exact ⟨fun y hy => hr.1 y (List.mem_filter.1 hy).1, ih hr.2⟩
    · exact ih hr.2
theorem outF_get {left : Lit → Bool} {fs : Fs} (m : Nm) : Dsk.get (outF left fs) m = if left (.string m) then none else Dsk.get fs m := by
  induction fs with
  | nil => cases left (.string m) <;> rfl
  | cons x r ih =>
    obtain ⟨n, f⟩ := x
    unfold outF at ih ⊢
    rw [List.filter_cons]
    by_cases e : n = m
    · subst e
      cases hl : left (.string n) with
      | true =>
        rw [hl] at ih
        simpa using ih
      | false => simp [Dsk.get]
    · split
      · simp only [Dsk.get]
        rw [if_neg e, if_neg e]
        exact ih
      · simp only [Dsk.get]
        rw [if_neg e]
        exact ih
theorem outF_step {left : Lit → Bool} {fs : Fs} (hr : Rises fs) {n : Nm} {f : Fil} (hn : Dsk.get fs n = some f) : outF (fun z => left z && !z.sameKey (.string n)) fs = put (outF left fs) n f :=
  rises_ext (outF_rises hr) (put_rises (outF_rises hr) n f) fun m => by
    rw [get_put, outF_get, outF_get, same_key]
    by_cases e : m = n
    · subst e; simp [hn]
    · simp [e]
theorem outF_all {left : Lit → Bool} {fs : Fs} (h : ∀ kl, left kl = false) : outF left fs = fs := by
  unfold outF
  rw [List.filter_eq_self]
  intro x _
  rw [h]; rfl
theorem outF_none {left : Lit → Bool} {fs : Fs} (h : ∀ n f, (n, f) ∈ fs → left (.string n) = true) : outF left fs = [] := by
  unfold outF
  rw [List.filter_eq_nil_iff]
  intro x hx
  rw [h x.1 x.2 hx]; decide
/-- A map that is made with a hint. -/
theorem makeMap_hint (n : Nat) (w : World) : (Instr.makeMap 68 (some (.int .i64 (n : Int)))).run Tryz.prog w = .ok (.map (some w.heap.size)) (w.alloc (.map #[] 0)) := by
  simp [Instr.makeMap, asIntOf, go_sem]
end Go.Proofs.YtpckloafdlkefaaGreat
namespace Go.Proofs.YtpckloafdlkefaaGreat
set_option maxRecDepth 40000
open Go.RowKit Go.Maps Go.Shelf Dsk

theorem ranges_touch {w w' : World} {k : TypeId} {R : Value → Option (DataW Unit × List MemPlace)} {b r n : Nat} {D : DataW Unit} {left : Lit → Bool} {cnt : Nat} {G : List Nat} (h : w.ranges Tryz.prog k R b r n D left cnt) (ht : Touch w w' G) (hb' : b ∉ G) (hr' : r ∉ G) : w'.ranges Tryz.prog k R b r n D left cnt := by
  have h1 := h.owns.lt
  have h2 := h.lt
  obtain ⟨es, clock, since, seen, c0, hb, F, hs, hD, hr, rest⟩ := h
  exact ⟨es, clock, since, seen, c0, (ht.block b h1 hb').trans hb, F, hs, hD, (ht.block r h2 hr').trans hr, rest⟩
theorem own_ge {w : World} {base : Nat} {e : TypeId} {A : Option Addr} {len cap n : Nat} {xs : List Value} (h : w.ownsRow base e 1 (.slice A len cap) n xs) : ∀ x, A.map (·.block) = some x → base ≤ x := by
  intro x hx
  rcases h.2 with ⟨h2, _⟩ | ⟨g, cap', cur, e1, h3, h4, h5⟩
  · injection h2 with h2; subst h2; cases hx
  · injection e1 with e1 e2 e3
    subst e1
    injection hx with hx
    subst hx
    exact h3
theorem own_zero {w : World} {base : Nat} {e : TypeId} {v : Value} {n : Nat} {xs : List Value} (h : w.ownsRow base e 1 v n xs) : w.ownsRow 0 e 1 v n xs := by
  obtain ⟨h1, h2⟩ := h
  refine ⟨h1, ?_⟩
  rcases h2 with h2 | ⟨g, cap', cur, e1, _, h4, h5⟩
  · exact .inl h2
  · exact .inr ⟨g, cap', cur, e1, Nat.zero_le _, h4, h5⟩
/-- The copy while a range goes through the files: struct in block c, map in block c + 1, the range in block c + 2. -/
def Copies (wr : World) (c : Nat) (D : Dk) (left : Lit → Bool) : Prop :=
  ∃ Dm gb hb F, DM wr c (c + 1) Dm gb hb F { D with fs := outF left D.fs } ∧ ∀ y ∈ F, c ≤ y ∧ y ≠ c + 2
theorem outF_len (left : Lit → Bool) (fs : Fs) : (outF left fs).length ≤ fs.length := List.length_filter_le _ _
section
variable {w : World} {d M : Nat} {Dm : DataW Unit} {gb : Nm → Nat} {hb : Nm → Option Nat} {F : List Nat} {D : Dk}
set_option maxHeartbeats 4000000 in
set_option maxRecDepth 20000 in
theorem clone_m (h : DM w d M Dm gb hb F D) (hw : Whole D) (hlen : D.fs.length < 1000000) :
    Calls Tryz.prog 23 #[ptr d] w fun e w' => ∃ c G, e = .returned (ptr c) ∧ DAt w' c G D ∧ (∀ b ∈ G, w.heap.size ≤ b) ∧ Below w.heap.size w w' := by
  have W1 := hid (unmade_any h)
  have c0 := h.blk.cell 0
  have c1 := h.blk.cell 1
  have c2 := h.blk.cell 2
  have c3 := h.blk.cell 3
  simp at c0 c1 c2 c3
  have hdl := h.blk.lt
  have HD := hid h
  have HW := hid hw
  have hb1 : Below w.heap.size w (w.alloc (.cells #[.map (some M), .int .i64 D.size, .int .i64 D.fuse, .bool D.off] 70)) := (Below.refl _ w).alloc (Nat.le_refl _) _
  have hl1 := (HD.out.below hb1).map.len (t := 68) (e := 85) Tryz.underlying68 3
  have hmm := makeMap_hint (Maps.size Dm)
  have hb2 : Below w.heap.size w ((w.alloc (.cells #[.map (some (w.heap.size + 1)), .int .i64 D.size, .int .i64 D.fuse, .bool D.off] 70)).alloc (.map #[] 0)) := ((Below.refl _ w).alloc (Nat.le_refl _) _).alloc (by simp) _
  have HC : Hid (DM ((w.alloc (.cells #[.map (some (w.heap.size + 1)), .int .i64 D.size, .int .i64 D.fuse, .bool D.off] 70)).alloc (.map #[] 0)) w.heap.size (w.heap.size + 1) (.map []) (fun _ => 0) (fun _ => none) [w.heap.size, w.heap.size + 1] { D with fs := [] }) := by
    refine hid ⟨(Blk.new w 70 _).alloc _, ?_, fun n => rfl, (fun n f hn => by cases hn), (fun n m _ hn => by cases hn), ⟨by simp, by simp, fun n f hn => by cases hn⟩, by simp; omega⟩
    have := World.ownsMap_made (w.alloc (.cells #[.map (some (w.heap.size + 1)), .int .i64 D.size, .int .i64 D.fuse, .bool D.off] 70)) Tryz.prog 9 ptrElem
    simpa using this
  have hown := (HD.out.below hb2).map
  have hsz : ((w.alloc (.cells #[.map (some (w.heap.size + 1)), .int .i64 D.size, .int .i64 D.fuse, .bool D.off] 70)).alloc (.map #[] 0)).heap.size = w.heap.size + 2 := by simp
  have HB2 := hid hb2
  have HSZ := hid hsz
  clear hb1 hb2 hsz h hw
  go_enter Tryz.func23, Tryz.ntmps23
  go_wp2_with fail
  refine W1.out.mono ?_
  rintro e w1 ⟨rfl, rfl⟩
  go_wp2_with (first | (at_range; refine wpList_range_own _ rfl _ 68 rfl 9 85 keyedS Tryz.underlying68 _ M D.fs.length _ rfl hown ?_; intro w0 hrg0 hg0 hs0) | go_in)
  rw [HSZ.out] at hrg0 hs0 ⊢
  have hb0 : Below w1.heap.size w1 w0 := HB2.out.grown hg0 (by rw [HSZ.out]; omega) (fun g hg => by cases hg)
  have HC0 : Hid (Copies w0 w1.heap.size D (Maps.has Dm)) := by
    refine hid ?_
    have hcm := HC.out.touch (G := []) (touch_grown hg0 (fun g hg => by cases hg)) (by simp)
    unfold Copies
    rw [outF_none (fun n f hm => by rw [HD.out.has, get_of_mem HW.out.rises hm]; rfl)]
    exact ⟨_, _, _, _, hcm, by simp⟩
  have HB0 := hid hb0
  clear hg0 hb0 hown hl1 c0 c1 c2 c3
  go_frame
  go_loopw [4, 5] (fun _ _ wr => ∃ (left : Lit → Bool) (cnt : Nat), wr.ranges Tryz.prog 9 ptrElem M (w1.heap.size + 2) D.fs.length Dm left cnt ∧ Below w1.heap.size w1 wr ∧ (∀ kl, left kl = true → Maps.has Dm kl = true) ∧ Copies wr w1.heap.size D left) (fun _ _ wr => wr.rangeLeft M (w1.heap.size + 2))
  case atStart => exact ⟨_, _, hrg0, HB0.out, fun _ h => h, HC0.out⟩
  case round =>
    obtain ⟨left, cnt, hrg, hbl, hlh, hcp⟩ := hrel
    have HL := hid hlh
    have HB := hid hbl
    have HCP := hid hcp
    clear hlh hbl hcp
    go_wp2_with (first | (at_next; refine wpList_next_ranges _ rfl _ rfl 9 keyedS ptrElem S mkP inv_key inv_ptr M (w1.heap.size + 2) D.fs.length Dm left cnt rfl hrg ?_ ?_) | go_in)
    · intro _ hl0
      go_wp2
      go_ret
      obtain ⟨Dm', gb', hb', F', h1, h2⟩ := HCP.out
      rw [outF_all hl0] at h1
      exact ⟨_, _, rfl, ⟨_, _, _, _, h1⟩, fun b hb => (h2 b hb).1, HB.out⟩
    · intro n c kl y1 y2 w2 cnt2 hkey hlk hy hat hrg2 hlt hg2 hs2 hen
      have HD2 := HD.out.below HB.out
      obtain ⟨hkl, f, hf, hcp⟩ := came HD2 hkey (HL.out kl hlk) hy hat
      subst hkl
      rw [hcp] at hen ⊢
      have hb2 : Below w1.heap.size w1 w2 := HB.out.grown hg2 (by have := HB.out.size; omega) (fun g hg => by injection hg with hg; omega)
      have hC2 : Hid (Copies w2 w1.heap.size D left) := by
        obtain ⟨Dm', gb', hb', F', h1, h2⟩ := HCP.out
        exact hid ⟨Dm', gb', hb', F', h1.touch (G := [w1.heap.size + 2]) (touch_grown hg2 (fun g hg => by injection hg with hg; simp [hg])) (fun y hy => by simpa using (h2 y hy).2), h2⟩
      obtain ⟨Dm', gb', hb', F', hC, hF'⟩ := hC2.out
      have hD2 := HD.out.below hb2
      obtain ⟨Af, cf, hblk, hrow, hAf⟩ := (hD2.at_ n f hf).2
      have hgl : gb n < w1.heap.size := HD.out.lt _ (HD.out.mem.2.2 n f hf).1
      have hMl : M < w1.heap.size := HD.out.lt _ HD.out.mem.2.1
      have hcl : w1.heap.size < w2.heap.size := hC.lt _ hC.mem.1
      have hrl := hrg2.lt
      have cb := hblk.cell 0
      have csy := hblk.cell 1
      have cc := hC.blk.cell 0
      simp at cb csy cc
      have hmem : (n, f) ∈ D.fs := get_mem hf
      have hnl : n.length ≤ 1000 := by
        have h1 := HW.out.names _ hmem
        simp [okN] at h1
        omega
      have hrm : f.b.length ≤ 1099511627776 := file_room HW.out hf
      have HK : Hid (∀ W, Below w2.heap.size w2 W → W.cell? ⟨w1.heap.size, 0, none⟩ = some (.map (some (w1.heap.size + 1))) ∧ W.cell? ⟨gb n, 0, none⟩ = some (.slice Af f.b.length cf) ∧ W.cell? ⟨gb n, 1, none⟩ = some (.int .i64 (f.s : Int))) :=
        hid fun W hW => ⟨(hW.cell hcl).trans cc, (hW.cell (by show gb n < _; omega)).trans cb, (hW.cell (by show gb n < _; omega)).trans csy⟩
      have W4 : Hid (∀ W, Below w2.heap.size w2 W → Calls Tryz.prog 48 #[.slice Af f.b.length cf] W (Fresh W f.b)) :=
        hid fun W hW => clone_any Af f.b.length cf 0 w2.heap.size f.b W ((Row.of_own hrow).below hW (Nat.le_refl _)) (fun e => by obtain ⟨_, _, e2, e3, _⟩ := own_shape hrow; injection e2 with e4 e5 e6; subst e4 e6; exact e3 e) hW.size (by omega)
      have hkeyS := keyS n hnl
      have hfl : (outF left D.fs).length < 1000000 := Nat.lt_of_le_of_lt (outF_len _ _) hlen
      obtain ⟨sb, hsb⟩ : ∃ sb, S n = .string sb := ⟨_, rfl⟩
      rw [hsb] at hkeyS hen ⊢
      have HU : Hid (∀ W g, Below w2.heap.size w2 W → ∃ W', (Instr.mapUpdate 68 (.map (some (w1.heap.size + 1))) (.string sb) (ptr g)).run Tryz.prog W = .ok () W' ∧ W'.ownsMap Tryz.prog 9 ptrElem (w1.heap.size + 1) ((outF left D.fs).length + 1) (Dm'.put (.string n) (.lit (.int .i64 (g : Int)))) ∧ W.grownBy W' (some (w1.heap.size + 1))) :=
        hid fun W g hW => (hC.below hW).map.update keyedS Tryz.underlying68 (by unfold maxLen; simp only; omega) hkeyS (ptr_elem g)
      have HC := hid hC
      have HF' := hid hF'
      have HRG := hid hrg2
      have HRL := hid hrl
      have HB2' := hid hb2
      have HEQ : Hid (cnt2 < cnt) := hid hlt
      have HL2 := hid hlk
      have HFN := hid hf
      have hgc : gb n ≠ w1.heap.size := by omega
      clear hC hD2 hrg2 hrow hblk hat hy hkey hkeyS hC2 HC0 hmem hf hcp hAf
      clear hb2 hs2 hg2 hrl
      generalize hfs : (f.s : Int) = fs at *
      have hbdr : Below w2.heap.size w2 w2.drew := ⟨rfl, rfl, rfl, Nat.le_refl _, fun _ _ => rfl⟩
      go_wp2_with fail
      go_region_held3 (fun W => W.cell? ⟨w1.heap.size, 0, none⟩ = some (.map (some (w1.heap.size + 1))) ∧ W.cell? ⟨gb n, 0, none⟩ = some (.slice Af f.b.length cf) ∧ W.cell? ⟨gb n, 1, none⟩ = some (.int .i64 fs))
        (first | exact ⟨cc, cb, csy⟩ | exact HK.out _ hb3' | exact HK.out _ hb3a | exact hk4)
        (first | (go_at_call 48; refine (W4.out w2.drew hbdr).mono ?_; rintro e w3 ⟨A3, n3, c3, rfl, hn3, hA3, hown3, hb3⟩
                  have hb3' : Below w2.heap.size w2 w3 := below_undrew hb3
                  have hb3a : Below w2.heap.size w2 (w3.alloc (.cells #[.slice A3 n3 c3, .int .i64 fs] 87)) := hb3'.alloc hb3'.size _
                  obtain ⟨w4, hup4, hmap4, hgr4⟩ := HU.out (w3.alloc (.cells #[.slice A3 n3 c3, .int .i64 fs] 87)) w3.heap.size hb3a
                  have hk4 : w4.cell? ⟨w1.heap.size, 0, none⟩ = some (.map (some (w1.heap.size + 1))) ∧ w4.cell? ⟨gb n, 0, none⟩ = some (.slice Af f.b.length cf) ∧ w4.cell? ⟨gb n, 1, none⟩ = some (.int .i64 fs) := ⟨(cell_grown hgr4 (Nat.lt_of_lt_of_le hcl hb3a.size) (by simp)).trans (HK.out _ hb3a).1, (cell_grown hgr4 (Nat.lt_of_lt_of_le (by show gb n < w2.heap.size; omega) hb3a.size) (by simp; omega)).trans (HK.out _ hb3a).2.1, (cell_grown hgr4 (Nat.lt_of_lt_of_le (by show gb n < w2.heap.size; omega) hb3a.size) (by simp; omega)).trans (HK.out _ hb3a).2.2⟩))
      have ht4 : Touch (w3.alloc (.cells #[.slice A3 n3 c3, .int .i64 fs] 87)) w4 [w1.heap.size + 1] := touch_grown hgr4 (fun g hg => by injection hg with hg; simp [hg])
      have ht : Touch w2 w4 [w1.heap.size + 1] := (touch_below hb3a _).then ht4 (fun _ _ h => h)
      have hrg4 := ranges_touch HRG.out ht (by simp; omega) (by simp)
      go_roundw
      case rel =>
        have hrl := HRL.out
        refine ⟨_, _, _, _, _, _, _, _, _, _, _, _, _, _, _, _, _, _, _, _, _, ?_, rfl⟩
        refine ⟨_, _, hrg4, HB2'.out.trans (ht.below (by omega) (by simp)), fun kl h => HL.out kl (by simp at h; exact h.1), ?_⟩
        have hx3 : ∀ x, A3.map (·.block) = some x → w2.heap.size ≤ x := own_ge hown3
        have hfile : FileAt (w3.alloc (.cells #[.slice A3 n3 c3, .int .i64 fs] 87)) w3.heap.size (A3.map (·.block)) f := by
          refine ⟨A3, c3, ?_, ?_, rfl⟩
          · rw [hn3.out, hfs]; exact Blk.new w3 _ _
          · rw [hn3.out]; exact (own_zero hown3).alloc _
        have hst := (HC.out.below hb3a).store (outF_rises HW.out.rises) n hfile (fun _ => hmap4) ht4 (fun m fm _ hm => by
          have h1 := HC.out.lt _ (HC.out.mem.2.2 m fm hm).1
          have h2 := hb3'.size
          refine ⟨by omega, fun y hy e => ?_⟩
          have h3 := HC.out.lt _ ((HC.out.mem.2.2 m fm hm).2 y hy)
          have h4 := hx3 y e
          omega)
        unfold Copies
        rw [outF_step HW.out.rises HFN.out]
        refine ⟨_, _, _, _, hst, fun y hy => ?_⟩
        have h2 := hb3'.size
        rcases List.mem_append.1 hy with hy | hy
        · exact HF'.out y hy
        · rcases List.mem_cons.1 hy with rfl | hy
          · omega
          · have := hx3 y (by simpa using hy)
            omega
      case measure => rw [hrg4.left_eq, hrg.left_eq]; exact HEQ.out
end
end Go.Proofs.YtpckloafdlkefaaGreat
namespace Go.Proofs.YtpckloafdlkefaaGreat
set_option maxRecDepth 40000
open Go.RowKit Go.Maps Go.Shelf Dsk

theorem nums_str (l : List UInt8) : strOfNums (l.map fun c => (c.toNat : Int)) = ⟨l.toArray⟩ := by
  unfold strOfNums
  congr 2
  rw [List.map_map]
  conv => rhs; rw [← List.map_id l]
  apply List.map_congr_left
  intro c _
  simp
set_option maxRecDepth 20000 in
theorem conv_own {w : World} {A : Option Addr} {cap : Nat} {l : List UInt8} (h : w.ownsRow 0 5 1 (.slice A l.length cap) l.length (U l)) : (convert 33 9 (.slice A l.length cap)).run Tryz.prog w = .ok (.string ⟨l.toArray⟩) w := by
  have hR := Row.of_own h
  rcases h.2 with ⟨h2, _⟩ | ⟨g, cap', cur, e1, h3, h4, h5⟩
  · injection h2 with h2 h3 h4
    subst h2
    have : l = [] := List.eq_nil_of_length_eq_zero h3
    subst this
    exact run_convert_bytes_nil (P := Tryz.prog) w 33 5 Tryz.underlying33 Tryz.underlying5 _ _ 9 Tryz.underlying9
  · injection e1 with e1 e2 e3
    subst e1
    rw [← nums_str]
    refine run_convert_bytes_arg (P := Tryz.prog) w 33 5 Tryz.underlying33 Tryz.underlying5 g 0 l.length cap _ (by simp) (fun i hi => ?_) 9 Tryz.underlying9
    obtain ⟨b, off, u, e, _, _, hu, hc⟩ := hR.at_ hi
    injection e with e
    injection e with e1 e2
    subst e1 e2
    rw [hc]
    rw [U_get l i hi] at hu
    injection hu with hu
    rw [← hu]
    simp [hi]
theorem equal_own {w : World} {A A' : Option Addr} {cap cap' : Nat} {l l' : List UInt8} (h : w.ownsRow 0 5 1 (.slice A l.length cap) l.length (U l)) (h' : w.ownsRow 0 5 1 (.slice A' l'.length cap') l'.length (U l')) :
    Calls Tryz.prog 100 #[.slice A l.length cap, .slice A' l'.length cap'] w fun e w' => e = .returned (.bool (decide (l = l'))) ∧ w' = w := by
  have c1 := conv_own h
  have c2 := conv_own h'
  clear h h'
  go_enter Tryz.func100, Tryz.ntmps100
  go_wp2_with fail
  go_ret
  have e : (l == l') = decide (l = l') := by by_cases e : l = l' <;> simp [e]
  exact ⟨by rw [← e]; rfl, rfl⟩
theorem quiet_w {P : Program} {f : FuncId} {args : Array Value} {w : World} {n : Nat} {v : Value} (h : Calls P f args (w.drewN n) fun e w' => e = .returned v ∧ w' = w.drewN n) :
    Calls P f args (w.drewN n) fun e w' => e = .returned v ∧ ∃ k, w' = w.drewN k := h.mono fun _ _ ⟨h1, h2⟩ => ⟨h1, n, h2⟩
set_option maxHeartbeats 1000000 in
theorem alike_any {w : World} {g g' : Nat} {h h' : Option Nat} {f f' : Fil} (hf : FileAt w g h f) (hf' : FileAt w g' h' f') : Calls Tryz.prog 70 #[ptr g, ptr g'] w fun e w' => e = .returned (.bool (decide (f = f'))) ∧ ∃ k, w' = w.drewN k := by
  obtain ⟨A, cap, hb, ho, _⟩ := hf
  obtain ⟨A', cap', hb', ho', _⟩ := hf'
  have c0 := hb.cell 0
  have c1 := hb.cell 1
  have d0 := hb'.cell 0
  have d1 := hb'.cell 1
  simp at c0 c1 d0 d1
  have W1 := hid (fun k => equal_own (own_drewN ho k) (own_drewN ho' k))
  have HD : Hid (decide (f = f') = (decide (f.s = f'.s) && decide (f.b = f'.b))) := hid (by
    obtain ⟨b, s⟩ := f
    obtain ⟨b', s'⟩ := f'
    by_cases h1 : s = s' <;> by_cases h2 : b = b' <;> simp [h1, h2])
  clear hb ho hb' ho'
  rw [HD.out]
  by_cases hs : f.s = f'.s
  · have he : ((f.s : Int) == (f'.s : Int)) = true := by rw [hs]; simp
    rw [decide_eq_true hs]
    clear hs HD
    generalize f.s = s at *
    generalize f'.s = s' at *
    go_enter Tryz.func70, Tryz.ntmps70
    go_wp2
    go_quiet (first | (go_at_call 100; exact quiet_w (W1.out _)))
    go_wp2
    go_ret
    exact ⟨rfl, _, rfl⟩
  · have he : ((f.s : Int) == (f'.s : Int)) = false := by simp; omega
    rw [decide_eq_false hs]
    clear hs HD
    generalize f.s = s at *
    generalize f'.s = s' at *
    go_enter Tryz.func70, Tryz.ntmps70
    go_wp2
    go_quiet (fail)
    go_wp2
    go_ret
    exact ⟨rfl, _, rfl⟩
end Go.Proofs.YtpckloafdlkefaaGreat
namespace Go.Proofs.YtpckloafdlkefaaGreat
set_option maxRecDepth 40000
open Go.RowKit Go.Maps Go.WideElems Go.WideMaps Go.ChangeMaps Go.MapKept Go.WideShapes Dsk

theorem rises_nodup {fs : Fs} (hr : Rises fs) : (fs.map (·.1)).Nodup := by
  induction fs with
  | nil => exact List.nodup_nil
  | cons x r ih =>
    rw [List.map_cons, List.nodup_cons]
    refine ⟨fun hm => ?_, ih hr.2⟩
    obtain ⟨y, hy, e⟩ := List.mem_map.1 hm
    have := hr.1 y hy
    rw [e, nlt_irrefl] at this
    cases this
theorem get_isSome {fs : Fs} (n : Nm) : (Dsk.get fs n).isSome = true ↔ n ∈ fs.map (·.1) := by
  induction fs with
  | nil => simp [Dsk.get]
  | cons x r ih =>
    obtain ⟨m, f⟩ := x
    simp only [Dsk.get, List.map_cons, List.mem_cons]
    by_cases e : m = n
    · simp [e]
    · rw [if_neg e, ih]
      constructor
      · exact .inr
      · rintro (h | h)
        · exact absurd h.symm e
        · exact h
set_option maxRecDepth 20000 in
/-- The keys of a map of files are names. -/
theorem owns_names {w : World} {M n : Nat} {Dm : DataW Unit} (h : w.ownsMap Tryz.prog 9 ptrElem M n Dm) : ∃ es, Dm = .map es ∧ es.Pairwise (fun p q => p.1 ≠ q.1) ∧ ∀ p ∈ es, ∃ m : Nm, p.1 = .string m := by
  obtain ⟨es, clock, _, F, _, rfl⟩ := h
  refine ⟨_, rfl, ((sorted_perm _).pairwise_iff (fun {_ _} hne => Ne.symm hne)).2 (Maps.fit_apart keyedS F), fun p hp => ?_⟩
  obtain ⟨x, hx, rfl⟩ := List.mem_map.1 (mem_sorted.1 hp)
  obtain ⟨y, hy⟩ := F.reads x hx
  rw [rg_of hy]
  have hk := rd_key hy
  obtain ⟨m, hm⟩ := inv_key _ _ hk
  rw [hm] at hk
  exact ⟨m, key_lit hk⟩
def nmOf : Lit → Nm
  | .string n => n
  | _ => []
theorem size_files {w : World} {M n : Nat} {Dm : DataW Unit} {fs : Fs} (h : w.ownsMap Tryz.prog 9 ptrElem M n Dm) (hh : ∀ m, Maps.has Dm (.string m) = (Dsk.get fs m).isSome) (hr : Rises fs) : Maps.size Dm = fs.length := by
  obtain ⟨es, rfl, hp, hs⟩ := owns_names h
  rw [size_eq]
  have hnd : (es.map fun p => nmOf p.1).Nodup := by
    unfold List.Nodup
    rw [List.pairwise_map]
    refine hp.imp_of_mem ?_
    intro a b ha hb hne e
    obtain ⟨m, hm⟩ := hs a ha
    obtain ⟨k, hk⟩ := hs b hb
    rw [hm, hk] at e
    have e : m = k := e
    exact hne (by rw [hm, hk, e])
  have hmem : ∀ m, m ∈ (es.map fun p => nmOf p.1) ↔ m ∈ fs.map (·.1) := by
    intro m
    rw [← get_isSome, ← hh, has_eq, List.any_eq_true, List.mem_map]
    constructor
    · rintro ⟨p, hp, e⟩
      obtain ⟨k, hk⟩ := hs p hp
      refine ⟨p, hp, ?_⟩
      rw [hk] at e ⊢
      rw [same_key]
      exact decide_eq_true e
    · rintro ⟨p, hp, e⟩
      obtain ⟨k, hk⟩ := hs p hp
      rw [hk, same_key] at e
      exact ⟨p, hp, by rw [hk]; exact of_decide_eq_true e⟩
  have := ((List.perm_ext_iff_of_nodup hnd (rises_nodup hr)).2 hmem).length_eq
  simpa using this
/-- As many files, and all of the one are the other's. -/
theorem fs_eq {fs gs : Fs} (hr : Rises fs) (hs : Rises gs) (hl : fs.length = gs.length) (h : ∀ n f, Dsk.get fs n = some f → Dsk.get gs n = some f) : fs = gs := by
  induction fs generalizing gs with
  | nil => exact (List.eq_nil_of_length_eq_zero hl.symm).symm
  | cons x r ih =>
    obtain ⟨n, f⟩ := x
    have hn : Dsk.get gs n = some f := h n f (by simp [Dsk.get])
    have hrn : ∀ m g, Dsk.get r m = some g → m ≠ n := fun m g hm e => by
      have := hr.1 _ (get_mem hm)
      rw [e, nlt_irrefl] at this
      cases this
    have hd := del_len_some hn
    have e := ih hr.2 (del_rises hs n) (by simp at hl; omega) (fun m g hm => by
      have hne := hrn m g hm
      rw [get_del hs, if_neg hne]
      refine h m g ?_
      simp only [Dsk.get]
      rw [if_neg (fun e => hne e.symm), hm])
    refine rises_ext hr hs fun m => ?_
    simp only [Dsk.get]
    by_cases em : n = m
    · subst em; rw [if_pos rfl, hn]
    · rw [if_neg em, e, get_del hs, if_neg (fun e => em e.symm)]
end Go.Proofs.YtpckloafdlkefaaGreat
namespace Go.Proofs.YtpckloafdlkefaaGreat
set_option maxRecDepth 40000
open Go.RowKit Go.Maps Go.Shelf Dsk

section
variable {w : World} {d M : Nat} {Dm : DataW Unit} {gb : Nm → Nat} {hb : Nm → Option Nat} {F : List Nat} {D : Dk}
variable {c M2 : Nat} {Dm2 : DataW Unit} {gb2 : Nm → Nat} {hb2 : Nm → Option Nat} {F2 : List Nat} {E : Dk}
set_option maxHeartbeats 4000000 in
set_option maxRecDepth 20000 in
theorem equalfunc_m (h : DM w d M Dm gb hb F D) (h2 : DM w c M2 Dm2 gb2 hb2 F2 E) (hw : Whole D) (hw2 : Whole E) :
    Calls Tryz.prog 69 #[.map (some M), .map (some M2), .func (.func 70) #[] #[]] w fun e w' => e = .returned (.bool (decide (D.fs = E.fs))) ∧ Below w.heap.size w w' := by
  have l1 := h.map.len (t := 68) (e := 85) Tryz.underlying68 3
  have l2 := h2.map.len (t := 68) (e := 85) Tryz.underlying68 3
  rw [size_files h.map h.has hw.rises] at l1
  rw [size_files h2.map h2.has hw2.rises] at l2
  have HD := hid h
  have HE := hid h2
  have HW := hid hw
  have HW2 := hid hw2
  have hown := h.map
  clear h h2 hw hw2
  by_cases hl : D.fs.length = E.fs.length
  · have hne : ((D.fs.length : Int) != (E.fs.length : Int)) = false := by simp [hl]
    have HLL := hid hl
    clear hl
    go_enter Tryz.func69, Tryz.ntmps69
    go_wp2_with (first | (at_range; refine wpList_range_own _ rfl _ 68 rfl 9 85 keyedS Tryz.underlying68 _ M D.fs.length _ rfl hown ?_; intro w0 hrg0 hg0 hs0) | go_in)
    have hb0 : Below w.heap.size w w0 := below_of_only hg0 (Nat.le_refl _) (fun g hg => by cases hg)
    go_frame
    go_loopw [7, 8, 9, 10] (fun _ _ _ _ wr => ∃ (left : Lit → Bool) (cnt : Nat), wr.ranges Tryz.prog 9 ptrElem M w.heap.size D.fs.length Dm left cnt ∧ Below w.heap.size w wr ∧ (∀ kl, left kl = true → Maps.has Dm kl = true) ∧ ∀ n f, get D.fs n = some f → left (.string n) = false → get E.fs n = some f) (fun _ _ _ _ wr => wr.rangeLeft M w.heap.size)
    case atStart =>
      refine ⟨_, _, hrg0, hb0, fun _ h => h, fun n f hn hl => ?_⟩
      rw [HD.out.has, hn] at hl
      cases hl
    case round =>
      obtain ⟨left, cnt, hrg, hbl, hlh, hall⟩ := hrel
      have HL := hid hlh
      have HB := hid hbl
      have HA := hid hall
      clear hlh hbl hall
      go_wp2_with (first | (at_next; refine wpList_next_ranges _ rfl _ rfl 9 keyedS ptrElem S mkP inv_key inv_ptr M w.heap.size D.fs.length Dm left cnt rfl hrg ?_ ?_) | go_in)
      · intro _ hl0
        go_wp2
        go_ret
        have e := fs_eq HW.out.rises HW2.out.rises HLL.out (fun n f hn => HA.out n f hn (hl0 _))
        exact ⟨by rw [decide_eq_true e]; rfl, HB.out⟩
      · intro n c1 kl y1 y2 w2 cnt2 hkey hlk hy hat hrg2 hlt hg2 hs2 hen
        have HD2 := HD.out.below HB.out
        obtain ⟨hkl, f, hf, hcp⟩ := came HD2 hkey (HL.out kl hlk) hy hat
        subst hkl
        rw [hcp] at hen ⊢
        have hb2 : Below w.heap.size w w2 := HB.out.grown hg2 (by have := HB.out.size; omega) (fun g hg => by injection hg with hg; omega)
        have hnl : n.length ≤ 1000 := by
          have h1 := HW.out.names _ (get_mem hf)
          simp [okN] at h1
          omega
        have hlook := (HE.out.below hb2).look n hnl true
        simp only [if_true] at hlook
        have HF1 := hid ((HD.out.below hb2).at_ n f hf).2
        have HRG := hid hrg2
        have HEQ : Hid (w2.rangeLeft M w.heap.size < wr.rangeLeft M w.heap.size) := hid (by rw [hrg2.left_eq, hrg.left_eq]; omega)
        have HFN := hid hf
        have HBB := hid hb2
        obtain ⟨sb, hsb⟩ : ∃ sb, S n = .string sb := ⟨_, rfl⟩
        rw [hsb] at hen hlook ⊢
        clear hrg2 hrg hat hy hkey hb2 hg2 hs2 hf
        cases hg : get E.fs n with
        | none =>
          have hlk2 := hlook.2 hg
          have hF : decide (D.fs = E.fs) = false := decide_eq_false fun e => by have h1 := HFN.out; rw [e, hg] at h1; cases h1
          have HF := hid hF
          clear hF hlook
          go_wp2_with fail
          go_ret
          exact ⟨by rw [HF.out]; rfl, HBB.out⟩
        | some f2 =>
          have hlk2 := hlook.1 f2 hg
          have W1 := hid (alike_any HF1.out ((HE.out.below HBB.out).at_ n f2 hg).2)
          have HG := hid hg
          clear hlook hg
          go_wp2_with fail
          refine W1.out.mono ?_
          rintro e w3 ⟨rfl, k, rfl⟩
          have hb3 : Below w.heap.size w (w2.drewN k) := below_drewN HBB.out k
          by_cases hff : f = f2
          · have hd : decide (f = f2) = true := decide_eq_true hff
            have HFF := hid hff
            clear hff
            go_wp2_with fail
            go_roundw
            case rel =>
              refine ⟨_, _, ranges_touch HRG.out (touch_below (below_drewN (Below.refl _ w2) k) []) (by simp) (by simp), hb3, fun kl h => HL.out kl (by simp at h; exact h.1), fun m fm hm hlm => ?_⟩
              rw [same_key] at hlm
              by_cases em : m = n
              · subst em
                rw [HFN.out] at hm
                injection hm with hm
                rw [← hm, HFF.out, HG.out]
              · simp [em] at hlm
                exact HA.out m fm hm hlm
            case measure => exact HEQ.out
          · have hd : decide (f = f2) = false := decide_eq_false hff
            have hF : decide (D.fs = E.fs) = false := decide_eq_false fun e => hff (by have h1 := HFN.out; rw [e, HG.out] at h1; injection h1 with h1; exact h1.symm)
            have HF := hid hF
            clear hF hff
            go_wp2_with fail
            go_ret
            exact ⟨by rw [HF.out]; rfl, hb3⟩
  · have hne : ((D.fs.length : Int) != (E.fs.length : Int)) = true := by simp; omega
    have HF : Hid (decide (D.fs = E.fs) = false) := hid (decide_eq_false fun e => hl (by rw [e]))
    clear hl hown
    go_enter Tryz.func69, Tryz.ntmps69
    go_wp2_with fail
    go_ret
    exact ⟨by rw [HF.out]; rfl, Below.refl _ _⟩
theorem dk_dec (D E : Dk) : decide (D = E) = (decide (D.size = E.size) && (decide (D.fuse = E.fuse) && (decide (D.off = E.off) && decide (D.fs = E.fs)))) := by
  obtain ⟨s, fs, fu, o⟩ := D
  obtain ⟨s', fs', fu', o'⟩ := E
  by_cases h1 : s = s' <;> by_cases h2 : fu = fu' <;> by_cases h3 : o = o' <;> by_cases h4 : fs = fs' <;> simp [h1, h2, h3, h4]
set_option maxHeartbeats 4000000 in
set_option maxRecDepth 20000 in
theorem same_m (h : DM w d M Dm gb hb F D) (h2 : DM w c M2 Dm2 gb2 hb2 F2 E) (hw : Whole D) (hw2 : Whole E) :
    Calls Tryz.prog 28 #[ptr d, ptr c] w fun e w' => e = .returned (.bool (decide (D = E))) ∧ Below w.heap.size w w' := by
  have U1 := hid (unmade_any h)
  have U2 := hid (unmade_any h2)
  have W3 : Hid (∀ W, Below w.heap.size w W → Calls Tryz.prog 69 #[.map (some M), .map (some M2), .func (.func 70) #[] #[]] W fun e w' => e = .returned (.bool (decide (D.fs = E.fs))) ∧ Below W.heap.size W w') := hid fun W hW => equalfunc_m (h.below hW) (h2.below hW) hw hw2
  have a0 := h.blk.cell 0
  have a1 := h.blk.cell 1
  have a2 := h.blk.cell 2
  have a3 := h.blk.cell 3
  have b0 := h2.blk.cell 0
  have b1 := h2.blk.cell 1
  have b2 := h2.blk.cell 2
  have b3 := h2.blk.cell 3
  have hdl := h.blk.lt
  have hcl := h2.blk.lt
  simp at a0 a1 a2 a3 b0 b1 b2 b3
  rw [dk_dec]
  clear h h2 hw hw2
  obtain ⟨q, hq⟩ : ∃ q, q = decide (D.fs = E.fs) := ⟨_, rfl⟩
  rw [← hq] at W3 ⊢
  clear hq
  generalize D.size = s at *
  generalize D.fuse = u at *
  generalize D.off = o at *
  generalize E.size = s' at *
  generalize E.fuse = u' at *
  generalize E.off = o' at *
  have hbd : Below w.heap.size w w.drew := ⟨rfl, rfl, rfl, Nat.le_refl _, fun _ _ => rfl⟩
  by_cases h1 : s = s'
  · have e1 : (s == s') = true := by simp [h1]
    rw [decide_eq_true h1]
    clear h1
    by_cases h2 : u = u'
    · have e2 : (u == u') = true := by simp [h2]
      rw [decide_eq_true h2]
      clear h2
      by_cases h3 : o = o'
      · have e3 : (o == o') = true := by simp [h3]
        rw [decide_eq_true h3]
        clear h3
        go_enter Tryz.func28, Tryz.ntmps28
        go_wp2_with fail
        refine U1.out.mono ?_
        rintro e w1 ⟨rfl, rfl⟩
        go_wp2_with fail
        refine U2.out.mono ?_
        rintro e w1 ⟨rfl, rfl⟩
        go_wp2_with fail
        go_region_held3 (fun W => W.cell? ⟨d, 0, none⟩ = some (.map (some M)) ∧ W.cell? ⟨d, 1, none⟩ = some (.int .i64 s) ∧ W.cell? ⟨d, 2, none⟩ = some (.int .i64 u) ∧ W.cell? ⟨d, 3, none⟩ = some (.bool o) ∧ W.cell? ⟨c, 0, none⟩ = some (.map (some M2)) ∧ W.cell? ⟨c, 1, none⟩ = some (.int .i64 s') ∧ W.cell? ⟨c, 2, none⟩ = some (.int .i64 u') ∧ W.cell? ⟨c, 3, none⟩ = some (.bool o'))
          (first | exact ⟨a0, a1, a2, a3, b0, b1, b2, b3⟩ | exact ⟨(hb2.cell hdl).trans a0, (hb2.cell hdl).trans a1, (hb2.cell hdl).trans a2, (hb2.cell hdl).trans a3, (hb2.cell hcl).trans b0, (hb2.cell hcl).trans b1, (hb2.cell hcl).trans b2, (hb2.cell hcl).trans b3⟩)
          (first | (go_at_call 69; refine (W3.out _ hbd).mono ?_; rintro e w2 ⟨rfl, hb2⟩))
        go_wp2
        go_ret
        exact ⟨rfl, below_undrew hb2⟩
      · have e3 : (o == o') = false := by simpa using h3
        rw [decide_eq_false h3]
        clear h3
        go_enter Tryz.func28, Tryz.ntmps28
        go_wp2_with fail
        refine U1.out.mono ?_
        rintro e w1 ⟨rfl, rfl⟩
        go_wp2_with fail
        refine U2.out.mono ?_
        rintro e w1 ⟨rfl, rfl⟩
        go_wp2_with fail
        go_quiet (fail)
        go_wp2
        go_ret
        exact ⟨rfl, below_drewN (Below.refl _ _) _⟩
    · have e2 : (u == u') = false := by simpa using h2
      rw [decide_eq_false h2]
      clear h2
      go_enter Tryz.func28, Tryz.ntmps28
      go_wp2_with fail
      refine U1.out.mono ?_
      rintro e w1 ⟨rfl, rfl⟩
      go_wp2_with fail
      refine U2.out.mono ?_
      rintro e w1 ⟨rfl, rfl⟩
      go_wp2_with fail
      go_quiet (fail)
      go_wp2
      go_ret
      exact ⟨rfl, below_drewN (Below.refl _ _) _⟩
  · have e1 : (s == s') = false := by simpa using h1
    rw [decide_eq_false h1]
    clear h1
    go_enter Tryz.func28, Tryz.ntmps28
    go_wp2_with fail
    refine U1.out.mono ?_
    rintro e w1 ⟨rfl, rfl⟩
    go_wp2_with fail
    refine U2.out.mono ?_
    rintro e w1 ⟨rfl, rfl⟩
    go_wp2_with fail
    go_quiet (fail)
    go_wp2
    go_ret
    exact ⟨rfl, below_drewN (Below.refl _ _) _⟩
end
end Go.Proofs.YtpckloafdlkefaaGreat
namespace Go.Proofs.YtpckloafdlkefaaGreat
set_option maxRecDepth 40000
open Go.RowKit Go.Maps Dsk

/-- A whole disk with at most k files, and a fuse of 64 bits. -/
structure Fit (D : Dk) (k : Nat) : Prop where
  whole : Whole D
  len : D.fs.length ≤ k
  fuse : D.fuse ≤ 9223372036854775807
theorem Fit.mono {D : Dk} {k k' : Nat} (h : Fit D k) (hk : k ≤ k') : Fit D k' := ⟨h.whole, Nat.le_trans h.len hk, h.fuse⟩

theorem put_len (fs : Fs) (n : Nm) (f : Fil) : (put fs n f).length ≤ fs.length + 1 := by
  induction fs with
  | nil => simp [put]
  | cons x r ih =>
    obtain ⟨m, g⟩ := x
    simp only [put]
    split
    · simp
    · split
      · simp
      · simp; omega
theorem del_len (fs : Fs) (n : Nm) : (del fs n).length ≤ fs.length := by
  induction fs with
  | nil => simp [del]
  | cons x r ih =>
    obtain ⟨m, g⟩ := x
    simp only [del]
    split
    · simp
    · simp; omega
theorem crash_len (fs : Fs) (l : List Int) : (crashFs fs l).length = fs.length := by
  induction fs generalizing l with
  | nil => rfl
  | cons x r ih => obtain ⟨m, g⟩ := x; simp [crashFs, ih]
theorem burn_len {D : Dk} {fs : Fs} {k : Nat} (h : D.fs.length ≤ k) (h2 : fs.length ≤ k) : (burn D fs).2.fs.length ≤ k := by
  unfold burn; split
  · exact h
  · exact h2
theorem burn_fuse {D : Dk} {fs : Fs} (h : D.fuse ≤ 9223372036854775807) : (burn D fs).2.fuse ≤ 9223372036854775807 := by
  unfold burn; split
  · exact h
  · show (if 0 < D.fuse then D.fuse - 1 else D.fuse) ≤ _
    split <;> omega
def AcOk : Ac → Prop
  | .fus k => k ≤ 9223372036854775807
  | _ => True
theorem act_fit {D : Dk} {k : Nat} (h : Fit D k) (a : Ac) (ha : AcOk a) : Fit (act D a).2 (k + 1) := by
  refine ⟨act_whole h.whole a, ?_, ?_⟩
  · have hl : D.fs.length ≤ k + 1 := by have := h.len; omega
    have hp : ∀ n f, (put D.fs n f).length ≤ k + 1 := fun n f => by have := put_len D.fs n f; have := h.len; omega
    cases a with
    | app n b => simp only [act, dAppend]; split <;> (try split) <;> (try split) <;> first | exact hl | exact burn_len hl (hp _ _)
    | syn n => simp only [act, dSync]; split <;> first | exact hl | exact burn_len hl (hp _ _)
    | ren n m =>
      simp only [act, dRename]
      split <;> (try split) <;> (try split) <;> (try split) <;> (try split) <;> first
        | exact hl
        | exact burn_len hl hl
        | exact burn_len hl (by have := put_len (del D.fs n) m (file D n); have := del_len D.fs n; have := h.len; omega)
    | rem n => simp only [act, dDelete]; split <;> first | exact hl | exact burn_len hl (by have := del_len D.fs n; omega)
    | cut n k => simp only [act, dCut]; split <;> (try split) <;> first | exact hl | exact burn_len hl (hp _ _)
    | fus k => simp only [act, dFuse]; split <;> exact hl
    | cra l => simp only [act, dCrash]; split <;> first | exact hl | (show (crashFs D.fs l).length ≤ _; rw [crash_len]; exact hl)
  · have hl := h.fuse
    cases a with
    | app n b => simp only [act, dAppend]; split <;> (try split) <;> (try split) <;> first | exact hl | exact burn_fuse hl
    | syn n => simp only [act, dSync]; split <;> first | exact hl | exact burn_fuse hl
    | ren n m => simp only [act, dRename]; split <;> (try split) <;> (try split) <;> (try split) <;> (try split) <;> first | exact hl | exact burn_fuse hl
    | rem n => simp only [act, dDelete]; split <;> first | exact hl | exact burn_fuse hl
    | cut n k => simp only [act, dCut]; split <;> (try split) <;> first | exact hl | exact burn_fuse hl
    | fus k =>
      simp only [act, dFuse]
      split
      · exact hl
      · exact ha
    | cra l => simp only [act, dCrash]; split <;> first | exact hl | (show (-1 : Int) ≤ _; omega)

section
variable {w w' : World} {d : Nat} {F : List Nat} {D : Dk} {k : Nat}
theorem DAt.touch {G : List Nat} (h : DAt w d F D) (ht : Touch w w' G) (hF : ∀ b ∈ F, b ∉ G) : DAt w' d F D := by
  obtain ⟨M, Dm, gb, hb, h⟩ := h; exact ⟨M, Dm, gb, hb, h.touch ht hF⟩
theorem DAt.below (h : DAt w d F D) (hb : Below w.heap.size w w') : DAt w' d F D := h.touch (touch_below hb []) (fun _ _ hm => by cases hm)
theorem DAt.lt (h : DAt w d F D) : ∀ b ∈ F, b < w.heap.size := by obtain ⟨M, Dm, gb, hb, h⟩ := h; exact h.lt
theorem DAt.mem (h : DAt w d F D) : d ∈ F := by obtain ⟨M, Dm, gb, hb, h⟩ := h; exact h.mem.1

theorem at_append (h : DAt w d F D) (f : Fit D k) (hk : k < 100000) (n : Nm) (hl : n.length ≤ 1000) (H : Nat) (A : Option Addr) (len cap : Nat) (b : List UInt8) (harg : Arg w F H A len cap (U b)) :
    Calls Tryz.prog 46 #[ptr d, S n, .slice A len cap] w fun e w' => Did0 w d F (dAppend D n b) e w' := by
  obtain ⟨M, Dm, gb, hb, h⟩ := h; exact append_m h f.whole f.fuse n hl (by have := f.len; omega) H A len cap b harg
theorem at_sync (h : DAt w d F D) (f : Fit D k) (n : Nm) (hl : n.length ≤ 1000) : Calls Tryz.prog 47 #[ptr d, S n] w fun e w' => Did0 w d F (dSync D n) e w' := by
  obtain ⟨M, Dm, gb, hb, h⟩ := h; exact sync_m h f.whole f.fuse n hl
theorem at_delete (h : DAt w d F D) (f : Fit D k) (n : Nm) (hl : n.length ≤ 1000) : Calls Tryz.prog 51 #[ptr d, S n] w fun e w' => Did0 w d F (dDelete D n) e w' := by
  obtain ⟨M, Dm, gb, hb, h⟩ := h; exact delete_m h f.whole f.fuse n hl
theorem at_cut (h : DAt w d F D) (f : Fit D k) (n : Nm) (j : Int) (hl : n.length ≤ 1000) : Calls Tryz.prog 33 #[ptr d, S n, .int .i64 j] w fun e w' => Did0 w d F (dCut D n j) e w' := by
  obtain ⟨M, Dm, gb, hb, h⟩ := h; exact cut_m h f.whole f.fuse n j hl
theorem at_rename (h : DAt w d F D) (f : Fit D k) (hk : k < 100000) (n m : Nm) (hl : n.length ≤ 1000) (hm : m.length ≤ 1000) : Calls Tryz.prog 50 #[ptr d, S n, S m] w fun e w' => Did0 w d F (dRename D n m) e w' := by
  obtain ⟨M, Dm, gb, hb, h⟩ := h; exact rename_m h f.whole f.fuse n m hl hm (by have := f.len; omega)
theorem at_fuse (h : DAt w d F D) (j : Int) : Calls Tryz.prog 15 #[ptr d, .int .i64 j] w fun e w' => Did0 w d F (dFuse D j) e w' := by
  obtain ⟨M, Dm, gb, hb, h⟩ := h
  refine (fuse_m h j).mono fun e w' ⟨he, hd, ht⟩ => ⟨he, F, ⟨M, Dm, gb, hb, hd⟩, ht.mono (fun i _ hi => ?_), fun b hb => .inl hb⟩
  rw [List.mem_singleton.1 hi]; exact h.mem.1
theorem at_crash (h : DAt w d F D) (f : Fit D k) (hk : k < 100000) (H : Nat) (A : Option Addr) (len cap : Nat) (l : List Int) (harg : Arg w F H A len cap (I l)) (hwf : ∀ x ∈ l, (Lit.int .i64 x).wf = true) :
    Calls Tryz.prog 16 #[ptr d, .slice A len cap] w fun e w' => Did0 w d F (dCrash D l) e w' := by
  obtain ⟨M, Dm, gb, hb, h⟩ := h; exact crash_m h f.whole (by have := f.len; omega) H A len cap l harg hwf
theorem at_read (h : DAt w d F D) (f : Fit D k) (n : Nm) (hl : n.length ≤ 1000) : Calls Tryz.prog 31 #[ptr d, S n] w fun e w' => ∃ v, e = .returned (.tuple #[v, .int .i64 (ready D n)]) ∧ Gives w (U (dRead D n)) v w' := by
  obtain ⟨M, Dm, gb, hb, h⟩ := h; exact read_m h f.whole n hl
theorem at_names (h : DAt w d F D) (f : Fit D k) (hk : k < 100000) : Calls Tryz.prog 44 #[ptr d] w fun e w' => ∃ v, e = .returned v ∧ Gives w (D.fs.map fun x => S x.1) v w' := by
  obtain ⟨M, Dm, gb, hb, h⟩ := h; exact names_m h f.whole (by have := f.len; omega)
theorem at_size (h : DAt w d F D) (n : Nm) (hl : n.length ≤ 1000) : Calls Tryz.prog 39 #[ptr d, S n] w fun e w' => e = .returned (.int .i64 (dSize D n)) ∧ Below w.heap.size w w' := by
  obtain ⟨M, Dm, gb, hb, h⟩ := h; exact size_m h n hl
theorem at_synced (h : DAt w d F D) (n : Nm) (hl : n.length ≤ 1000) : Calls Tryz.prog 68 #[ptr d, S n] w fun e w' => e = .returned (.int .i64 (dSynced D n)) ∧ Below w.heap.size w w' := by
  obtain ⟨M, Dm, gb, hb, h⟩ := h; exact synced_m h n hl
theorem at_used (h : DAt w d F D) (f : Fit D k) : Calls Tryz.prog 62 #[ptr d] w fun e w' => e = .returned (.int .i64 (Dsk.used D.fs : Int)) ∧ Below w.heap.size w w' := by
  obtain ⟨M, Dm, gb, hb, h⟩ := h; exact used_m h f.whole
theorem at_room (h : DAt w d F D) : Calls Tryz.prog 64 #[ptr d] w fun e w' => e = .returned (.int .i64 D.size) ∧ Below w.heap.size w w' := by
  obtain ⟨M, Dm, gb, hb, h⟩ := h; exact room_m h
theorem at_off (h : DAt w d F D) : Calls Tryz.prog 65 #[ptr d] w fun e w' => e = .returned (.bool D.off) ∧ Below w.heap.size w w' := by
  obtain ⟨M, Dm, gb, hb, h⟩ := h; exact off_m h
theorem at_clone (h : DAt w d F D) (f : Fit D k) (hk : k < 100000) : Calls Tryz.prog 23 #[ptr d] w fun e w' => ∃ c G, e = .returned (ptr c) ∧ DAt w' c G D ∧ (∀ b ∈ G, w.heap.size ≤ b) ∧ Below w.heap.size w w' := by
  obtain ⟨M, Dm, gb, hb, h⟩ := h; exact clone_m h f.whole (by have := f.len; omega)
theorem at_same {c : Nat} {G : List Nat} {E : Dk} {k' : Nat} (h : DAt w d F D) (h2 : DAt w c G E) (f : Fit D k) (f2 : Fit E k') : Calls Tryz.prog 28 #[ptr d, ptr c] w fun e w' => e = .returned (.bool (decide (D = E))) ∧ Below w.heap.size w w' := by
  obtain ⟨M, Dm, gb, hb, h⟩ := h; obtain ⟨M2, Dm2, gb2, hb2, h2⟩ := h2; exact same_m h h2 f.whole f2.whole
end
end Go.Proofs.YtpckloafdlkefaaGreat
namespace Go.Proofs.YtpckloafdlkefaaGreat
set_option maxRecDepth 40000
open Go.RowKit Go.Joins Go.Maps Dsk

/-- What is owned behind base may be handed to a disk whose blocks lie ahead of it. -/
theorem own_arg {w : World} {F : List Nat} {base : Nat} {e : TypeId} {A : Option Addr} {n c : Nat} {xs : List Value} (h : w.ownsRow base e 1 (.slice A n c) n xs) (hF : ∀ b ∈ F, b < base) : Arg w F w.heap.size A n c xs := by
  obtain ⟨A', c', e1, h1, h2⟩ := own_shape h
  injection e1 with e1 _ e3
  subst e1 e3
  refine ⟨base, Row.of_own h, Nat.le_refl _, fun b hb => .inl (hF b hb), h1, h2, ?_⟩
  rcases h.2 with ⟨h3, _⟩ | ⟨g, cap', cur, e1, h3, h4, h5⟩
  · injection h3 with _ _ h3; subst h3; exact Nat.zero_le _
  · injection e1 with _ _ e1
    subst e1
    exact h5.2.1
structure Live (w W : World) (d : Nat) (F : List Nat) (D : Dk) (k : Nat) : Prop where
  at_ : DAt W d F D
  fit : Fit D k
  new : ∀ b ∈ F, w.heap.size ≤ b
  below : Below w.heap.size w W
/-- What an operation wrote, and which blocks the disk has then. -/
structure Beside (W W' : World) (F F' : List Nat) : Prop where
  touch : Touch W W' F
  blocks : ∀ b ∈ F', b ∈ F ∨ W.heap.size ≤ b
section
variable {w W W' : World} {d c : Nat} {F F' G : List Nat} {D E : Dk} {k k2 : Nat} {r : Int × Dk} {e : Ending}
theorem Live.lt (L : Live w W d F D k) : ∀ b ∈ F, b < W.heap.size := L.at_.lt
theorem Live.then (L : Live w W d F D k) (hb : Below W.heap.size W W') : Live w W' d F D k := ⟨L.at_.below hb, L.fit, L.new, L.below.trans (hb.mono L.below.size)⟩
theorem Live.mono (L : Live w W d F D k) (h : k ≤ k2) : Live w W d F D k2 := ⟨L.at_, L.fit.mono h, L.new, L.below⟩
theorem Live.draws (L : Live w W d F D k) (n : Nat) : Live w (W.drewN n) d F D k := L.then (below_drewN (Below.refl _ _) n)
/-- What an operation leaves of the disk. -/
def Op (w W : World) (d : Nat) (F : List Nat) (r : Int × Dk) (k : Nat) (e : Ending) (W' : World) : Prop :=
  e = .returned (.int .i64 r.1) ∧ ∃ F', Live w W' d F' r.2 k ∧ Beside W W' F F'
theorem Live.did (L : Live w W d F D k) (h : Did0 W d F r e W') (hf : Fit r.2 k2) : Op w W d F r k2 e W' := by
  obtain ⟨he, F', hd, ht, hF⟩ := h
  refine ⟨he, F', ⟨hd, hf, fun b hb => ?_, ?_⟩, ht, hF⟩
  · rcases hF b hb with h | h
    · exact L.new b h
    · exact Nat.le_trans L.below.size h
  · exact L.below.trans (ht.below L.below.size L.new)
theorem Live.beside (L : Live w W c G E k2) (B : Beside W W' F F') (hb : Below w.heap.size w W') (hap : ∀ b ∈ F, b ∉ G) : Live w W' c G E k2 ∧ ∀ b ∈ F', b ∉ G := by
  refine ⟨⟨L.at_.touch B.touch (fun b hb hm => hap b hm hb), L.fit, L.new, hb⟩, fun b hb' hm => ?_⟩
  rcases B.blocks b hb' with h | h
  · exact hap b h hm
  · have := L.lt b hm; omega
theorem Live.append (L : Live w W d F D k) (hk : k < 100000) (n : Nm) (hl : n.length ≤ 1000) (H : Nat) (A : Option Addr) (len cap : Nat) (b : List UInt8) (harg : Arg W F H A len cap (U b)) :
    Calls Tryz.prog 46 #[ptr d, S n, .slice A len cap] W (Op w W d F (dAppend D n b) (k + 1)) :=
  (at_append L.at_ L.fit hk n hl H A len cap b harg).mono fun _ _ h => L.did h (act_fit L.fit (.app n b) trivial)
theorem Live.sync (L : Live w W d F D k) (n : Nm) (hl : n.length ≤ 1000) : Calls Tryz.prog 47 #[ptr d, S n] W (Op w W d F (dSync D n) (k + 1)) :=
  (at_sync L.at_ L.fit n hl).mono fun _ _ h => L.did h (act_fit L.fit (.syn n) trivial)
theorem Live.delete (L : Live w W d F D k) (n : Nm) (hl : n.length ≤ 1000) : Calls Tryz.prog 51 #[ptr d, S n] W (Op w W d F (dDelete D n) (k + 1)) :=
  (at_delete L.at_ L.fit n hl).mono fun _ _ h => L.did h (act_fit L.fit (.rem n) trivial)
theorem Live.cut (L : Live w W d F D k) (n : Nm) (j : Int) (hl : n.length ≤ 1000) : Calls Tryz.prog 33 #[ptr d, S n, .int .i64 j] W (Op w W d F (dCut D n j) (k + 1)) :=
  (at_cut L.at_ L.fit n j hl).mono fun _ _ h => L.did h (act_fit L.fit (.cut n j) trivial)
theorem Live.rename (L : Live w W d F D k) (hk : k < 100000) (n m : Nm) (hl : n.length ≤ 1000) (hm : m.length ≤ 1000) : Calls Tryz.prog 50 #[ptr d, S n, S m] W (Op w W d F (dRename D n m) (k + 1)) :=
  (at_rename L.at_ L.fit hk n m hl hm).mono fun _ _ h => L.did h (act_fit L.fit (.ren n m) trivial)
theorem Live.fuse (L : Live w W d F D k) (j : Int) (hj : j ≤ 9223372036854775807) : Calls Tryz.prog 15 #[ptr d, .int .i64 j] W (Op w W d F (dFuse D j) (k + 1)) :=
  (at_fuse L.at_ j).mono fun _ _ h => L.did h (act_fit L.fit (.fus j) hj)
theorem Live.crash (L : Live w W d F D k) (hk : k < 100000) (H : Nat) (A : Option Addr) (len cap : Nat) (l : List Int) (harg : Arg W F H A len cap (I l)) (hwf : ∀ x ∈ l, (Lit.int .i64 x).wf = true) :
    Calls Tryz.prog 16 #[ptr d, .slice A len cap] W (Op w W d F (dCrash D l) (k + 1)) :=
  (at_crash L.at_ L.fit hk H A len cap l harg hwf).mono fun _ _ h => L.did h (act_fit L.fit (.cra l) trivial)
theorem arg_nil {xs : List Value} (hx : xs = []) : Arg W F 0 none 0 0 xs := by subst hx; exact ⟨0, Row.empty, Nat.zero_le _, fun _ _ => .inr (Nat.zero_le _), fun _ => rfl, Nat.le_refl _, Nat.zero_le _⟩
theorem arg_lit (t : TypeId) (xs : List Value) (cs : Array Value) (n : Nat) (hc : cs = xs.toArray) (hn : xs.length = n) (hm : n ≤ 1000000) (hF : ∀ b ∈ F, b < W.heap.size) : Arg (W.alloc (.cells cs t)) F (W.heap.size + 1) (some ⟨W.heap.size, 0, none⟩) n n xs := by
  subst hc hn
  have h := own_arg (own_lit W t xs (by unfold maxLen; omega)) hF
  have e : (W.alloc (.cells xs.toArray t)).heap.size = W.heap.size + 1 := by simp
  rw [e] at h
  exact h
end

theorem S_one (c : UInt8) : Value.string ⟨#[c]⟩ = S [c] := rfl
theorem fit_new {size : Int} (h : 0 ≤ size) (h2 : size ≤ 1099511627776) : Fit ⟨size, [], -1, false⟩ 0 :=
  ⟨⟨trivial, (fun x hx => by cases hx), (fun x hx => by cases hx), h, h2, by show (-1 : Int) ≤ -1; omega⟩, Nat.le_refl _, by show (-1 : Int) ≤ _; omega⟩
theorem live_new {w W : World} {size : Int} {d : Nat} {F : List Nat} (hb : Below w.heap.size w W) (h1 : 0 ≤ size) (h2 : size ≤ 1099511627776) (hd : DAt W d F ⟨size, [], -1, false⟩) (hF : ∀ b ∈ F, w.heap.size ≤ b) : Live w W d F ⟨size, [], -1, false⟩ 0 :=
  ⟨hd, fit_new h1 h2, hF, hb⟩
end Go.Proofs.YtpckloafdlkefaaGreat
namespace Go.Proofs.YtpckloafdlkefaaGreat
set_option maxRecDepth 40000
open Go.RowKit Go.Maps Dsk
theorem unmade_nil (w : World) : Calls Tryz.prog 41 #[.pointer none] w fun e w' => e = .returned (.bool true) ∧ w' = w := by
  go_enter Tryz.func41, Tryz.ntmps41
  go_wp2
  go_ret
  exact ⟨rfl, rfl⟩
theorem refusal_nil (A : Option Addr) (k c : Nat) (w : World) : Calls Tryz.prog 88 #[.pointer none, .slice A k c] w fun e w' => e = .returned (.int .i64 1) ∧ w' = w := by
  go_enter Tryz.func88, Tryz.ntmps88
  go_wp2_with fail
  refine (unmade_nil w).mono ?_
  rintro e w' ⟨rfl, rfl⟩
  go_wp2
  go_ret
  exact ⟨rfl, rfl⟩
set_option maxHeartbeats 1000000 in
set_option maxRecDepth 20000 in
theorem find_nilx (w : World) (n : Nm) (A : Option Addr) (k c base : Nat) (l : List Nm) (hk : k ≤ 900) (hown : w.ownsRow base 9 1 (.slice A k c) k (Ss l)) (hbase : base ≤ w.heap.size) :
    Calls Tryz.prog 71 #[.pointer none, S n, .slice A k c] w fun e w' => e = .returned (.tuple #[.pointer none, .int .i64 1]) ∧ Touch w w' (A.map (·.block)).toList := by
  obtain ⟨i0, hi, hz0, hz1, hz2⟩ := info_parts infoS
  obtain ⟨sb, hsb⟩ : ∃ sb, S n = .string sb := ⟨_, rfl⟩
  have HSB := hid hsb
  have HR : Hid (Row (w.alloc (.cells #[.string sb] 9)) w.heap.size (w.heap.size + 1) (some ⟨w.heap.size, 0, none⟩) 1 (Ss [n])) := hid (by rw [← hsb]; exact row_one w 9 (S n))
  have HO := hid (hown.alloc (.cells #[.string sb] 9))
  rw [hsb]
  clear hsb
  go_enter Tryz.func71, Tryz.ntmps71
  go_wp2_with (at_builtin; go_loud (refine wpList_append_row _ rfl _ _ 83 rfl base 9 i0 (.string ⟨#[]⟩) 16 Tryz.underlying83 hi hz0 hz1 hz2 rfl (.slice A k c) k (Ss l) rfl HO.out w.heap.size (w.heap.size + 1) (some ⟨w.heap.size, 0, none⟩) 1 1 rfl (fun e => by cases e) (Ss [n]) HR.out (Ss_one _) (by unfold maxLen; omega) (by omega) (by simp; omega) ?_); intro v' w1 hown1 hgrow hblk)
  obtain ⟨A', c', rfl, _, _⟩ := own_shape hown1
  have ht1 : Touch w w1 (A.map (·.block)).toList := by
    have ha : Touch w (w.alloc (.cells #[.string sb] 9)) (A.map (·.block)).toList := touch_below ((Below.refl _ w).alloc (Nat.le_refl _) _) _
    refine ha.then (touch_grown (F := (A.map (·.block)).toList) hgrow (fun g hg => ?_)) (fun _ _ h => h)
    cases A with
    | none => cases hg
    | some a => simpa [Value.ownBlock] using hg.symm
  have HT := hid ht1
  clear hown1 hgrow hblk ht1
  go_wp2_with fail
  refine (refusal_nil A' _ c' w1).mono ?_
  rintro e w2 ⟨rfl, rfl⟩
  go_wp2
  go_ret2
  exact ⟨rfl, HT.out⟩
theorem find_nil0 (n : Nm) (w : World) : Calls Tryz.prog 71 #[.pointer none, S n, .slice none 0 0] w fun e w' => e = .returned (.tuple #[.pointer none, .int .i64 1]) ∧ Below w.heap.size w w' :=
  (find_nilx w n none 0 0 w.heap.size [] (by omega) (World.ownsRow_nil _ _ _ _) (Nat.le_refl _)).mono fun e w' ⟨h1, h2⟩ => ⟨h1, h2.below (Nat.le_refl _) (fun i hi => by cases hi)⟩
theorem read_nil (n : Nm) (w : World) : Calls Tryz.prog 31 #[.pointer none, S n] w fun e w' => e = .returned (.tuple #[.slice none 0 0, .int .i64 1]) ∧ Below w.heap.size w w' := by
  have FN : Hid (∀ W : World, Calls Tryz.prog 71 #[.pointer none, S n, .slice none 0 0] W fun e w' => e = .returned (.tuple #[.pointer none, .int .i64 1]) ∧ Below W.heap.size W w') := hid fun W => find_nil0 n W
  generalize S n = s at *
  go_enter Tryz.func31, Tryz.ntmps31
  go_wp2_with fail
  refine (FN.out _).mono ?_
  rintro e w1 ⟨rfl, hb1⟩
  go_wp2
  go_ret2
  exact ⟨rfl, hb1⟩
end Go.Proofs.YtpckloafdlkefaaGreat
