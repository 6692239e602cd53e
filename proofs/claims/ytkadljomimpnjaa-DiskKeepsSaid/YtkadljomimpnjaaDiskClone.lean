/-
  Contract: Clone.
-/
import Derived.Test.YtkadljomimpnjaaCloneMath
import Derived.Test.YtkadljomimpnjaaDiskCrash
import Derived.Test.YtkadljomimpnjaaKit
namespace Go.Proofs.Ytkadljomimpnjaa
open Go.RowKit Go.Maps Go.Shelf Dsk

theorem ranges_touch {w w' : World} {k : TypeId} {R : Value → Option (DataW Unit × List MemPlace)} {b r n : Nat} {D : DataW Unit} {left : Lit → Bool} {cnt : Nat} {G : List Nat} (h : w.ranges Try.prog k R b r n D left cnt) (ht : Touch w w' G) (hb' : b ∉ G) (hr' : r ∉ G) : w'.ranges Try.prog k R b r n D left cnt := by
  have h1 := h.owns.lt
  have h2 := h.lt
  obtain ⟨es, clock, since, seen, c0, hb, F, hs, hD, hr, rest⟩ := h
  exact ⟨es, clock, since, seen, c0, (ht.block b h1 hb').trans hb, F, hs, hD, (ht.block r h2 hr').trans hr, rest⟩
theorem own_ge {w : World} {base : Nat} {e : TypeId} {A : Option Addr} {len cap n : Nat} {xs : List Value} (h : w.ownsRow base e 1 (.slice A len cap) n xs) : ∀ x, A.map (·.block) = some x → base ≤ x := by
  intro x hx
  rcases h.2 with ⟨h2, _⟩ | ⟨g, cap', cur, e1, h3, h4, h5⟩
  · injection h2 with h2; subst h2; cases hx
  · injection e1 with e1 e2 e3
    subst e1
    injection hx with hx
    subst hx
    exact h3
theorem own_zero {w : World} {base : Nat} {e : TypeId} {v : Value} {n : Nat} {xs : List Value} (h : w.ownsRow base e 1 v n xs) : w.ownsRow 0 e 1 v n xs := by
  obtain ⟨h1, h2⟩ := h
  refine ⟨h1, ?_⟩
  rcases h2 with h2 | ⟨g, cap', cur, e1, _, h4, h5⟩
  · exact .inl h2
  · exact .inr ⟨g, cap', cur, e1, Nat.zero_le _, h4, h5⟩
/-- The copy while a range goes through the files: struct in block c, map in block c + 1, the range in block c + 2. -/
def Copies (wr : World) (c : Nat) (D : Dk) (left : Lit → Bool) : Prop :=
  ∃ Dm gb hb F, DM wr c (c + 1) Dm gb hb F { D with fs := outF left D.fs } ∧ ∀ y ∈ F, c ≤ y ∧ y ≠ c + 2
theorem outF_len (left : Lit → Bool) (fs : Fs) : (outF left fs).length ≤ fs.length := List.length_filter_le _ _
section
variable {w : World} {d M : Nat} {Dm : DataW Unit} {gb : Nm → Nat} {hb : Nm → Option Nat} {F : List Nat} {D : Dk}
set_option maxHeartbeats 4000000 in
set_option maxRecDepth 20000 in
theorem clone_m (h : DM w d M Dm gb hb F D) (hw : Whole D) (hlen : D.fs.length < 1000000) :
    Calls Try.prog 27 #[ptr d] w fun e w' => ∃ c G, e = .returned (ptr c) ∧ DAt w' c G D ∧ (∀ b ∈ G, w.heap.size ≤ b) ∧ Below w.heap.size w w' := by
  have W1 := hid (unmade_any h)
  have c0 := h.blk.cell 0
  have c1 := h.blk.cell 1
  have c2 := h.blk.cell 2
  have c3 := h.blk.cell 3
  simp at c0 c1 c2 c3
  have hdl := h.blk.lt
  have HD := hid h
  have HW := hid hw
  have hb1 : Below w.heap.size w (w.alloc (.cells #[.map (some M), .int .i64 D.size, .int .i64 D.fuse, .bool D.off] 61)) := (Below.refl _ w).alloc (Nat.le_refl _) _
  have hl1 := (HD.out.below hb1).map.len (t := 59) (e := 64) Try.underlying59 3
  have hmm := makeMap_hint (Maps.size Dm)
  have hb2 : Below w.heap.size w ((w.alloc (.cells #[.map (some (w.heap.size + 1)), .int .i64 D.size, .int .i64 D.fuse, .bool D.off] 61)).alloc (.map #[] 0)) := ((Below.refl _ w).alloc (Nat.le_refl _) _).alloc (by simp) _
  have HC : Hid (DM ((w.alloc (.cells #[.map (some (w.heap.size + 1)), .int .i64 D.size, .int .i64 D.fuse, .bool D.off] 61)).alloc (.map #[] 0)) w.heap.size (w.heap.size + 1) (.map []) (fun _ => 0) (fun _ => none) [w.heap.size, w.heap.size + 1] { D with fs := [] }) := by
    refine hid ⟨(Blk.new w 61 _).alloc _, ?_, fun n => rfl, (fun n f hn => by cases hn), (fun n m _ hn => by cases hn), ⟨by simp, by simp, fun n f hn => by cases hn⟩, by simp; omega⟩
    have := World.ownsMap_made (w.alloc (.cells #[.map (some (w.heap.size + 1)), .int .i64 D.size, .int .i64 D.fuse, .bool D.off] 61)) Try.prog 9 ptrElem
    simpa using this
  have hown := (HD.out.below hb2).map
  have hsz : ((w.alloc (.cells #[.map (some (w.heap.size + 1)), .int .i64 D.size, .int .i64 D.fuse, .bool D.off] 61)).alloc (.map #[] 0)).heap.size = w.heap.size + 2 := by simp
  have HB2 := hid hb2
  have HSZ := hid hsz
  clear hb1 hb2 hsz h hw
  go_enter Try.func27, Try.ntmps27
  go_wp2_with fail
  refine W1.out.mono ?_
  rintro e w1 ⟨rfl, rfl⟩
  go_wp2_with (first | (at_range; refine wpList_range_own _ rfl _ 59 rfl 9 64 keyedS Try.underlying59 _ M D.fs.length _ rfl hown ?_; intro w0 hrg0 hg0 hs0) | go_in)
  rw [HSZ.out] at hrg0 hs0 ⊢
  have hb0 : Below w1.heap.size w1 w0 := HB2.out.grown hg0 (by rw [HSZ.out]; omega) (fun g hg => by cases hg)
  have HC0 : Hid (Copies w0 w1.heap.size D (Maps.has Dm)) := by
    refine hid ?_
    have hcm := HC.out.touch (G := []) (touch_grown hg0 (fun g hg => by cases hg)) (by simp)
    unfold Copies
    rw [outF_none (fun n f hm => by rw [HD.out.has, get_of_mem HW.out.rises hm]; rfl)]
    exact ⟨_, _, _, _, hcm, by simp⟩
  have HB0 := hid hb0
  clear hg0 hb0 hown hl1 c0 c1 c2 c3
  go_frame
  go_loopw [4, 5] (fun _ _ wr => ∃ (left : Lit → Bool) (cnt : Nat), wr.ranges Try.prog 9 ptrElem M (w1.heap.size + 2) D.fs.length Dm left cnt ∧ Below w1.heap.size w1 wr ∧ (∀ kl, left kl = true → Maps.has Dm kl = true) ∧ Copies wr w1.heap.size D left) (fun _ _ wr => wr.rangeLeft M (w1.heap.size + 2))
  case atStart => exact ⟨_, _, hrg0, HB0.out, fun _ h => h, HC0.out⟩
  case round =>
    obtain ⟨left, cnt, hrg, hbl, hlh, hcp⟩ := hrel
    have HL := hid hlh
    have HB := hid hbl
    have HCP := hid hcp
    clear hlh hbl hcp
    go_wp2_with (first | (at_next; refine wpList_next_ranges _ rfl _ rfl 9 keyedS ptrElem S mkP inv_key inv_ptr M (w1.heap.size + 2) D.fs.length Dm left cnt rfl hrg ?_ ?_) | go_in)
    · intro _ hl0
      go_wp2
      go_ret
      obtain ⟨Dm', gb', hb', F', h1, h2⟩ := HCP.out
      rw [outF_all hl0] at h1
      exact ⟨_, _, rfl, ⟨_, _, _, _, h1⟩, fun b hb => (h2 b hb).1, HB.out⟩
    · intro n c kl y1 y2 w2 cnt2 hkey hlk hy hat hrg2 hlt hg2 hs2 hen
      have HD2 := HD.out.below HB.out
      obtain ⟨hkl, f, hf, hcp⟩ := came HD2 hkey (HL.out kl hlk) hy hat
      subst hkl
      rw [hcp] at hen ⊢
      have hb2 : Below w1.heap.size w1 w2 := HB.out.grown hg2 (by have := HB.out.size; omega) (fun g hg => by injection hg with hg; omega)
      have hC2 : Hid (Copies w2 w1.heap.size D left) := by
        obtain ⟨Dm', gb', hb', F', h1, h2⟩ := HCP.out
        exact hid ⟨Dm', gb', hb', F', h1.touch (G := [w1.heap.size + 2]) (touch_grown hg2 (fun g hg => by injection hg with hg; simp [hg])) (fun y hy => by simpa using (h2 y hy).2), h2⟩
      obtain ⟨Dm', gb', hb', F', hC, hF'⟩ := hC2.out
      have hD2 := HD.out.below hb2
      obtain ⟨Af, cf, hblk, hrow, hAf⟩ := (hD2.at_ n f hf).2
      have hgl : gb n < w1.heap.size := HD.out.lt _ (HD.out.mem.2.2 n f hf).1
      have hMl : M < w1.heap.size := HD.out.lt _ HD.out.mem.2.1
      have hcl : w1.heap.size < w2.heap.size := hC.lt _ hC.mem.1
      have hrl := hrg2.lt
      have cb := hblk.cell 0
      have csy := hblk.cell 1
      have cc := hC.blk.cell 0
      simp at cb csy cc
      have hmem : (n, f) ∈ D.fs := get_mem hf
      have hnl : n.length ≤ 1000 := by
        have h1 := HW.out.names _ hmem
        simp [okN] at h1
        omega
      have hrm : f.b.length ≤ 1099511627776 := file_room HW.out hf
      have HK : Hid (∀ W, Below w2.heap.size w2 W → W.cell? ⟨w1.heap.size, 0, none⟩ = some (.map (some (w1.heap.size + 1))) ∧ W.cell? ⟨gb n, 0, none⟩ = some (.slice Af f.b.length cf) ∧ W.cell? ⟨gb n, 1, none⟩ = some (.int .i64 (f.s : Int))) :=
        hid fun W hW => ⟨(hW.cell hcl).trans cc, (hW.cell (by show gb n < _; omega)).trans cb, (hW.cell (by show gb n < _; omega)).trans csy⟩
      have W4 : Hid (∀ W, Below w2.heap.size w2 W → Calls Try.prog 40 #[.slice Af f.b.length cf] W (Fresh W f.b)) :=
        hid fun W hW => clone_any Af f.b.length cf 0 w2.heap.size f.b W ((Row.of_own hrow).below hW (Nat.le_refl _)) (fun e => by obtain ⟨_, _, e2, e3, _⟩ := own_shape hrow; injection e2 with e4 e5 e6; subst e4 e6; exact e3 e) hW.size (by omega)
      have hkeyS := keyS n hnl
      have hfl : (outF left D.fs).length < 1000000 := Nat.lt_of_le_of_lt (outF_len _ _) hlen
      obtain ⟨sb, hsb⟩ : ∃ sb, S n = .string sb := ⟨_, rfl⟩
      rw [hsb] at hkeyS hen ⊢
      have HU : Hid (∀ W g, Below w2.heap.size w2 W → ∃ W', (Instr.mapUpdate 59 (.map (some (w1.heap.size + 1))) (.string sb) (ptr g)).run Try.prog W = .ok () W' ∧ W'.ownsMap Try.prog 9 ptrElem (w1.heap.size + 1) ((outF left D.fs).length + 1) (Dm'.put (.string n) (.lit (.int .i64 (g : Int)))) ∧ W.grownBy W' (some (w1.heap.size + 1))) :=
        hid fun W g hW => (hC.below hW).map.update keyedS Try.underlying59 (by unfold maxLen; simp only; omega) hkeyS (ptr_elem g)
      have HC := hid hC
      have HF' := hid hF'
      have HRG := hid hrg2
      have HRL := hid hrl
      have HB2' := hid hb2
      have HEQ : Hid (cnt2 < cnt) := hid hlt
      have HL2 := hid hlk
      have HFN := hid hf
      have hgc : gb n ≠ w1.heap.size := by omega
      clear hC hD2 hrg2 hrow hblk hat hy hkey hkeyS hC2 HC0 hmem hf hcp hAf
      clear hb2 hs2 hg2 hrl
      generalize hfs : (f.s : Int) = fs at *
      have hbdr : Below w2.heap.size w2 w2.drew := ⟨rfl, rfl, rfl, Nat.le_refl _, fun _ _ => rfl⟩
      go_wp2_with fail
      go_region_held3 (fun W => W.cell? ⟨w1.heap.size, 0, none⟩ = some (.map (some (w1.heap.size + 1))) ∧ W.cell? ⟨gb n, 0, none⟩ = some (.slice Af f.b.length cf) ∧ W.cell? ⟨gb n, 1, none⟩ = some (.int .i64 fs))
        (first | exact ⟨cc, cb, csy⟩ | exact HK.out _ hb3' | exact HK.out _ hb3a | exact hk4)
        (first | (go_at_call 40; refine (W4.out w2.drew hbdr).mono ?_; rintro e w3 ⟨A3, n3, c3, rfl, hn3, hA3, hown3, hb3⟩
                  have hb3' : Below w2.heap.size w2 w3 := below_undrew hb3
                  have hb3a : Below w2.heap.size w2 (w3.alloc (.cells #[.slice A3 n3 c3, .int .i64 fs] 66)) := hb3'.alloc hb3'.size _
                  obtain ⟨w4, hup4, hmap4, hgr4⟩ := HU.out (w3.alloc (.cells #[.slice A3 n3 c3, .int .i64 fs] 66)) w3.heap.size hb3a
                  have hk4 : w4.cell? ⟨w1.heap.size, 0, none⟩ = some (.map (some (w1.heap.size + 1))) ∧ w4.cell? ⟨gb n, 0, none⟩ = some (.slice Af f.b.length cf) ∧ w4.cell? ⟨gb n, 1, none⟩ = some (.int .i64 fs) := ⟨(cell_grown hgr4 (Nat.lt_of_lt_of_le hcl hb3a.size) (by simp)).trans (HK.out _ hb3a).1, (cell_grown hgr4 (Nat.lt_of_lt_of_le (by show gb n < w2.heap.size; omega) hb3a.size) (by simp; omega)).trans (HK.out _ hb3a).2.1, (cell_grown hgr4 (Nat.lt_of_lt_of_le (by show gb n < w2.heap.size; omega) hb3a.size) (by simp; omega)).trans (HK.out _ hb3a).2.2⟩))
      have ht4 : Touch (w3.alloc (.cells #[.slice A3 n3 c3, .int .i64 fs] 66)) w4 [w1.heap.size + 1] := touch_grown hgr4 (fun g hg => by injection hg with hg; simp [hg])
      have ht : Touch w2 w4 [w1.heap.size + 1] := (touch_below hb3a _).then ht4 (fun _ _ h => h)
      have hrg4 := ranges_touch HRG.out ht (by simp; omega) (by simp)
      go_roundw
      case rel =>
        have hrl := HRL.out
        refine ⟨_, _, _, _, _, _, _, _, _, _, _, _, _, _, _, _, _, _, _, _, _, ?_, rfl⟩
        refine ⟨_, _, hrg4, HB2'.out.trans (ht.below (by omega) (by simp)), fun kl h => HL.out kl (by simp at h; exact h.1), ?_⟩
        have hx3 : ∀ x, A3.map (·.block) = some x → w2.heap.size ≤ x := own_ge hown3
        have hfile : FileAt (w3.alloc (.cells #[.slice A3 n3 c3, .int .i64 fs] 66)) w3.heap.size (A3.map (·.block)) f := by
          refine ⟨A3, c3, ?_, ?_, rfl⟩
          · rw [hn3.out, hfs]; exact Blk.new w3 _ _
          · rw [hn3.out]; exact (own_zero hown3).alloc _
        have hst := (HC.out.below hb3a).store (outF_rises HW.out.rises) n hfile (fun _ => hmap4) ht4 (fun m fm _ hm => by
          have h1 := HC.out.lt _ (HC.out.mem.2.2 m fm hm).1
          have h2 := hb3'.size
          refine ⟨by omega, fun y hy e => ?_⟩
          have h3 := HC.out.lt _ ((HC.out.mem.2.2 m fm hm).2 y hy)
          have h4 := hx3 y e
          omega)
        unfold Copies
        rw [outF_step HW.out.rises HFN.out]
        refine ⟨_, _, _, _, hst, fun y hy => ?_⟩
        have h2 := hb3'.size
        rcases List.mem_append.1 hy with hy | hy
        · exact HF'.out y hy
        · rcases List.mem_cons.1 hy with rfl | hy
          · omega
          · have := hx3 y (by simpa using hy)
            omega
      case measure => rw [hrg4.left_eq, hrg.left_eq]; exact HEQ.out
end
end Go.Proofs.Ytkadljomimpnjaa
