/-
  Contract: what Append does when it is done.
-/
import Derived.Test.YtkadljomimpnjaaDiskDo
import Derived.Deep.RegionLaw
namespace Go.Proofs.Ytkadljomimpnjaa
open Go.RowKit Go.Maps Go.Shelf Dsk

theorem FileAt.own {w : World} {g : Nat} {h : Option Nat} {f : Fil} (hf : FileAt w g h f) : ∃ A cap, Blk w g 66 #[.slice A f.b.length cap, .int .i64 (f.s : Int)] ∧ w.ownsRow 0 5 1 (.slice A f.b.length cap) f.b.length (U f.b) ∧ A.map (·.block) = h := hf
theorem touch_drew (w : World) (F : List Nat) : Touch w w.drew F := ⟨rfl, rfl, rfl, Nat.le_refl _, fun _ _ _ => rfl⟩
theorem Touch.cell {a b : World} {F : List Nat} (h : Touch a b F) {p : Addr} (hlt : p.block < a.heap.size) (hn : p.block ∉ F) : b.cell? p = a.cell? p := World.cell?_of_block (w := a) (h.block p.block hlt hn)
theorem touch_drewN (w : World) (k : Nat) (F : List Nat) : Touch w (w.drewN k) F := ⟨rfl, rfl, rfl, Nat.le_refl _, fun _ _ _ => rfl⟩
section
variable {w : World} {d M : Nat} {Dm : DataW Unit} {gb : Nm → Nat} {hb : Nm → Option Nat} {F : List Nat} {D : Dk}
set_option maxHeartbeats 2000000 in
set_option maxRecDepth 20000 in
/-- The last part: bytes behind a file's. -/
theorem behind_file {g : Nat} {x : Option Nat} {f : Fil} {b : List UInt8} {len : Nat} (hf : FileAt w g x f) (hl : len = b.length) :
    ∃ (Af : Option Addr) (cf : Nat), w.cell? ⟨g, 0, none⟩ = some (.slice Af f.b.length cf) ∧ w.frozen? ⟨g, 0, none⟩ = false ∧ w.ownsRow 0 5 1 (.slice Af f.b.length cf) f.b.length (U f.b) ∧ Af.map (·.block) = x ∧
      ∀ (v' : Value) (w' : World), w'.ownsRow 0 5 1 v' (f.b.length + len) (U f.b ++ U b) → w.grownBy w' (Value.slice Af f.b.length cf).ownBlock → (v'.ownBlock = (Value.slice Af f.b.length cf).ownBlock ∨ v'.ownBlock = some w.heap.size) →
        w'.cell? ⟨g, 0, none⟩ = some (.slice Af f.b.length cf) ∧ w'.frozen? ⟨g, 0, none⟩ = false ∧ ∃ x', FileAt (w'.setCell ⟨g, 0, none⟩ v') g x' ⟨f.b ++ b, f.s⟩ ∧ Touch w (w'.setCell ⟨g, 0, none⟩ v') (g :: x.toList) ∧ ∀ y, x' = some y → x = some y ∨ w.heap.size ≤ y := by
  obtain ⟨Af, cf, hfb, hfo, hfh⟩ := hf
  have hc := hfb.cell 0
  simp at hc
  have hob : (Value.slice Af f.b.length cf).ownBlock = x := by
    cases Af with
    | none => simpa [Value.ownBlock] using hfh
    | some a => simpa [Value.ownBlock] using hfh
  refine ⟨Af, cf, hc, hfb.frozen 0, hfo, hfh, fun v' w' hown hgr hat => ?_⟩
  rw [hob] at hgr hat
  have hgx : some g ≠ x := by
    intro e
    obtain ⟨cur, hcur⟩ := own_lt hfo (hfh.trans e.symm)
    exact ne_of_type hfb hcur (by decide) rfl
  have hfb' := hfb.grown hgr hgx
  have hc' := hfb'.cell 0
  simp at hc'
  obtain ⟨A', c', rfl, hA', hle⟩ := own_shape hown
  have hlen := hl
  have hob' : (Value.slice A' (f.b.length + len) c').ownBlock = A'.map (·.block) := by cases A' <;> rfl
  rw [hob'] at hat
  have hA'lt : ∀ y, A'.map (·.block) = some y → ∃ cur, w'.heap[y]? = some (.cells cur 5 (0, 0)) := fun y hy => own_lt hown hy
  have hne : ∀ y, A'.map (·.block) = some y → y ≠ g := by
    intro y hy
    obtain ⟨cur, hcur⟩ := hA'lt y hy
    exact fun e => ne_of_type hfb' hcur (by decide) e.symm
  have hts : Touch w' (w'.setCell ⟨g, 0, none⟩ (.slice A' (f.b.length + len) c')) [g] := touch_grown (only_set (World.grownBy.refl _ _) 0 _) (by simp)
  refine ⟨hc', hfb'.frozen 0, A'.map (·.block), ⟨A', c', ?_, ?_, rfl⟩, ?_, ?_⟩
  · have h1 := hfb'.set 0 (.slice A' (f.b.length + len) c')
    have e : (f.b ++ b).length = f.b.length + len := by rw [List.length_append, hlen]
    simp only [e]
    simpa using h1
  · have e : (f.b ++ b).length = f.b.length + len := by rw [List.length_append, hlen]
    simp only [e, U_append]
    exact own_touch hown hts (fun y hy => by simpa using hne y hy)
  · refine (touch_grown (F := g :: x.toList) hgr (fun y hy => by rw [hy]; simp)).then hts (fun i _ hi => ?_)
    rw [List.mem_singleton.1 hi]
    simp
  · intro y hy
    rcases hat with e | e
    · rw [e] at hy; exact .inl hy
    · rw [hy] at e; injection e with e; exact .inr (by omega)

theorem DM.wrote {w' : World} (h : DM w d M Dm gb hb F D) (hr : Rises D.fs) {n : Nm} {f f' : Fil} (hn : get D.fs n = some f) (ht : Touch w w' (gb n :: (hb n).toList)) {x' : Option Nat} (hf : FileAt w' (gb n) x' f') (hx : ∀ x, x' = some x → hb n = some x ∨ w.heap.size ≤ x) :
    ∃ F', DAt w' d F' { D with fs := put D.fs n f' } ∧ Touch w w' F ∧ ∀ y ∈ F', y ∈ F ∨ w.heap.size ≤ y := by
  refine ⟨_, ⟨_, _, _, _, h.write hr hn ht hf hx⟩, ht.mono ?_, ?_⟩
  · intro i _ hi
    rcases List.mem_cons.1 hi with rfl | hi
    · exact (h.mem.2.2 n f hn).1
    · exact (h.mem.2.2 n f hn).2 i (by simpa using hi)
  · intro y hy
    rcases List.mem_append.1 hy with hy | hy
    · exact .inl hy
    · rcases hx y (by simpa using hy) with e | e
      · exact .inl ((h.mem.2.2 n f hn).2 y e)
      · exact .inr e
theorem put_put {fs : Fs} (hr : Rises fs) (n : Nm) (f g : Fil) : put (put fs n f) n g = put fs n g :=
  rises_ext (put_rises (put_rises hr n f) n g) (put_rises hr n g) fun m => by
    simp only [get_put]
    by_cases e : m = n
    · rw [if_pos e, if_pos e]
    · rw [if_neg e, if_neg e, if_neg e]
set_option maxHeartbeats 4000000 in
set_option maxRecDepth 20000 in
theorem append1_any (h : DM w d M Dm gb hb F D) (hw : Whole D) (hlen : D.fs.length < 1000000) (n : Nm) (hl : n.length ≤ 1000) (bd bs bb : Nat) (hbd : w.cell? ⟨bd, 0, none⟩ = some (ptr d)) (hbs : w.cell? ⟨bs, 0, none⟩ = some (S n)) (A : Option Addr) (len cap lo H : Nat) (b : List UInt8)
    (hbb : w.cell? ⟨bb, 0, none⟩ = some (.slice A len cap)) (hR : Row w lo H A len (U b)) (hA : A = none → cap = 0) (hH : H ≤ w.heap.size) (hFR : ∀ x ∈ F, x < lo ∨ H ≤ x) (hout : bd ∉ F ∧ bs ∉ F ∧ bb ∉ F) (hlt : bd < w.heap.size ∧ bs < w.heap.size ∧ bb < w.heap.size) (hsz : used D.fs + b.length ≤ 1099511627776) :
    Calls Try.prog 36 #[.pointer (some ⟨bd, 0, none⟩), .pointer (some ⟨bs, 0, none⟩), .pointer (some ⟨bb, 0, none⟩)] w fun e w' => e = .returned (.tuple #[]) ∧ ∃ F', DAt w' d F' { D with fs := put D.fs n ⟨(file D n).b ++ b, (file D n).s⟩ } ∧ Touch w w' F ∧ ∀ y ∈ F', y ∈ F ∨ w.heap.size ≤ y := by
  obtain ⟨i0, hi, hz0, hz1, hz2⟩ := info_parts info5
  have hll : len = b.length := by have := hR.len; rw [U_len] at this; exact this.symm
  have hc := h.blk.cell 0
  simp at hc
  have hlk := (h.touch (touch_drew w []) (by simp)).look n hl false
  have HD := hid h
  have HW := hid hw
  obtain ⟨sb, hsb⟩ : ∃ sb, S n = .string sb := ⟨_, rfl⟩
  rw [hsb] at hbs hlk
  have HSB := hid hsb
  have HLL := hid hll
  have HSZ := hid hsz
  clear h hw hsb hll
  go_enter Try.func36, Try.ntmps36
  cases hg : Dsk.get D.fs n with
  | some f =>
    have h1 := hlk.1 f hg
    rw [if_neg (by decide)] at h1
    clear hlk
    have HG := hid hg
    have hfile : file D n = f := by unfold file; rw [hg]; rfl
    have HFI := hid hfile
    clear hg hfile
    have hfl : f.b.length + b.length ≤ 1099511627776 := by
      have e := file_used (D := D) n
      rw [HFI.out] at e
      have e2 := used_put HW.out.rises n f
      have e3 := HSZ.out
      have e4 : ((Dsk.get D.fs n).map (·.b.length)).getD 0 = f.b.length := e.symm
      rw [e4] at e2
      have e5 := used_del (fs := D.fs) n
      rw [e4] at e5
      omega
    obtain ⟨Af, cf, hc4, hfz4, hown, hAf, after⟩ := behind_file (len := len) (b := b) (HD.out.at_ n f HG.out).2 HLL.out
    have AFT := hid after
    have o1 : f.b.length + len ≤ maxLen := by unfold maxLen; rw [HLL.out]; omega
    have o2 : (f.b.length + len) * 1 ≤ 140737488355328 := by rw [HLL.out]; omega
    have hne : (ptr (gb n)) ≠ .pointer none := by intro e; cases e
    have HFL := hid hfl
    have HGB := hid (rfl : gb n = gb n)
    clear after hfl hAf
    go_wp2
    go_region
    go_wp2
    go_region_law (first
      | (refine step_append_row _ rfl (.tmp 22) (.tmp 23) 29 rfl 0 5 i0 (.int .u8 0) 1 Try.underlying29 hi hz0 hz1 hz2 rfl (.slice Af f.b.length cf) f.b.length (U f.b) rfl (by exact hown) lo H A len cap rfl hA (U b) (by exact hR) (U_one b) o1 o2 (Nat.zero_le _) ?_; intro v7 w7 own7 grow7 at7; obtain ⟨A7, c7, rfl, _, _⟩ := own_shape own7; obtain ⟨hc7, hf7, post7⟩ := AFT.out _ w7 own7 (only_undrew (only_undrew grow7)) at7))
    all_goals
      go_end0
      obtain ⟨x', hfx, htx, hxx⟩ := post7
      rw [HFI.out]
      exact ⟨rfl, HD.out.wrote HW.out.rises HG.out htx hfx hxx⟩
  | none =>
    have h1 := hlk.2 hg
    rw [if_neg (by decide)] at h1
    clear hlk
    have hfile : file D n = ⟨[], 0⟩ := file_none hg
    have HFI := hid hfile
    have hbl0 : b.length ≤ 1099511627776 := by have := HSZ.out; omega
    obtain ⟨wB, hwB⟩ : ∃ wB, wB = (w.alloc (.cells #[.slice none 0 0, .int .i64 0] 66)).drew := ⟨_, rfl⟩
    have htB : Touch w wB [] := by rw [hwB]; exact (touch_below ((Below.refl _ w).alloc (Nat.le_refl _) _) []).then (touch_drew _ []) (fun _ _ h => h)
    have hDB := HD.out.touch htB (by simp)
    have hFB : FileAt wB w.heap.size none ⟨[], 0⟩ := ⟨none, 0, by rw [hwB]; exact Blk.new w _ _, ⟨rfl, .inl ⟨rfl, rfl⟩⟩, rfl⟩
    have hsB : wB.heap.size = w.heap.size + 1 := by rw [hwB]; simp
    have W3 := hid (put_any hDB HW.out.rises hlen n hl hFB (fun m fm hm hfm => ⟨fun e => by have := (HD.out.at_ m fm hfm).2.lt.1; omega, fun y _ e => by cases e⟩))
    rw [HSB.out] at W3
    have hbdB := (htB.cell (p := ⟨bd, 0, none⟩) hlt.1 (by simp)).trans hbd
    have hbsB := (htB.cell (p := ⟨bs, 0, none⟩) hlt.2.1 (by simp)).trans hbs
    have HWB := hid hwB
    have HTB := hid htB
    have HDB := hid hDB
    have HSB2 := hid hsB
    clear hFB hDB htB hsB
    go_wp2
    go_region
    go_wp2_with fail
    rw [← HWB.out]
    refine W3.out.mono ?_
    rintro e w3 ⟨rfl, ht3, hD3⟩
    have ht03 : Touch w w3 [M] := (HTB.out.mono (by simp)).then ht3 (fun _ _ h => h)
    have hMF := HD.out.mem.2.1
    have hbb3 := (ht03.cell (p := ⟨bb, 0, none⟩) hlt.2.2 (by simp; intro e; exact hout.2.2 (e ▸ hMF))).trans hbb
    have hR3 : Row w3 lo H A len (U b) := hR.touch ht03 hH (fun i hi => by rw [List.mem_singleton.1 hi]; exact hFR M hMF)
    have hf3 : FileAt w3 w.heap.size none ⟨[], 0⟩ := by
      have := (hD3.at_ n ⟨[], 0⟩ (by simp [get_put])).2
      simpa using this
    obtain ⟨Af, cf, hc4, hfz4, hown, hAf, after⟩ := behind_file (len := len) (b := b) hf3 HLL.out
    have AFT := hid after
    have o1 : 0 + len ≤ maxLen := by unfold maxLen; rw [HLL.out]; omega
    have o2 : (0 + len) * 1 ≤ 140737488355328 := by rw [HLL.out]; omega
    have HD3 := hid hD3
    have HT03 := hid ht03
    have HF3 := hid hf3
    clear after hD3 ht03 hf3 ht3 hAf
    go_wp2
    go_region_law (first
      | (refine step_append_row _ rfl (.tmp 22) (.tmp 23) 29 rfl 0 5 i0 (.int .u8 0) 1 Try.underlying29 hi hz0 hz1 hz2 rfl (.slice Af 0 cf) 0 (U []) rfl (by exact hown) lo H A len cap rfl hA (U b) (by exact hR3) (U_one b) o1 o2 (Nat.zero_le _) ?_; intro v7 w7 own7 grow7 at7; obtain ⟨A7, c7, rfl, _, _⟩ := own_shape own7; obtain ⟨hc7, hf7, post7⟩ := AFT.out _ w7 own7 (only_undrew grow7) at7))
    all_goals
      go_end0
      obtain ⟨x', hfx, htx, hxx⟩ := post7
      have hget : Dsk.get (put D.fs n ⟨[], 0⟩) n = some ⟨[], 0⟩ := by simp [get_put]
      obtain ⟨F', hF1, hF2, hF3⟩ := HD3.out.wrote (put_rises HW.out.rises n _) (n := n) (x' := x') hget (by simpa using htx) (by simpa using hfx) (by simpa using hxx)
      rw [HFI.out]
      refine ⟨rfl, F', ?_, ?_, ?_⟩
      · have e := put_put HW.out.rises n ⟨[], 0⟩ ⟨[] ++ b, 0⟩
        rw [← e]
        exact hF1
      · refine (HT03.out.mono (F' := F) (fun i _ hi => by rw [List.mem_singleton.1 hi]; exact hMF)).then hF2 (fun i hi hm => ?_)
        rcases List.mem_append.1 hm with hm | hm
        · exact hm
        · simp at hm; omega
      · intro y hy
        rcases hF3 y hy with hy | hy
        · rcases List.mem_append.1 hy with hy | hy
          · exact .inl hy
          · simp at hy; exact .inr (by omega)
        · exact .inr (Nat.le_trans HT03.out.size hy)
end
end Go.Proofs.Ytkadljomimpnjaa
