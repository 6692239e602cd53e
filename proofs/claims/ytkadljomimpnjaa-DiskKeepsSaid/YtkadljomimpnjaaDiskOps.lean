/-
  Contracts of the operations on a disk: Append, Sync, Delete, Cut.
-/
import Derived.Test.YtkadljomimpnjaaDiskApp
namespace Go.Proofs.Ytkadljomimpnjaa
open Go.RowKit Go.Maps Go.Shelf Dsk

def Did0 (w : World) (d : Nat) (F : List Nat) (r : Int × Dk) (e : Ending) (w' : World) : Prop :=
  e = .returned (.int .i64 r.1) ∧ ∃ F', DAt w' d F' r.2 ∧ Touch w w' F ∧ ∀ b ∈ F', b ∈ F ∨ w.heap.size ≤ b
theorem burn_zero {D : Dk} (fs : Fs) (h : D.fuse = 0) : burn D fs = (9, { D with off := true }) := by unfold burn; rw [if_pos h]
theorem burn_do {D : Dk} (fs : Fs) (h : D.fuse ≠ 0) : burn D fs = (0, { D with fs := fs, fuse := burnt D.fuse }) := by unfold burn burnt; rw [if_neg h]
theorem append_wrong {D : Dk} {n : Nm} {b : List UInt8} (h : wrong D [n] ≠ 0) : dAppend D n b = (wrong D [n], D) := by
  unfold wrong at h
  unfold dAppend wrong
  simp only [List.all_cons, List.all_nil, Bool.and_true] at h ⊢
  cases ho : D.off <;> cases hk : okN n <;> simp [ho, hk] at h ⊢
theorem append_right {D : Dk} {n : Nm} {b : List UInt8} (h : wrong D [n] = 0) : dAppend D n b = if D.size < used D.fs + b.length then (7, D) else burn D (put D.fs n ⟨(file D n).b ++ b, (file D n).s⟩) := by
  unfold wrong at h
  unfold dAppend
  simp only [List.all_cons, List.all_nil, Bool.and_true] at h ⊢
  cases ho : D.off <;> cases hk : okN n <;> simp [ho, hk] at h ⊢
theorem whole_burnt {D : Dk} (h : Whole D) : Whole { D with fuse := burnt D.fuse } :=
  ⟨h.rises, h.names, h.synced, h.room, h.top, by have := h.fuse; show -1 ≤ burnt D.fuse; unfold burnt; split <;> omega⟩
section
variable {w : World} {d M : Nat} {Dm : DataW Unit} {gb : Nm → Nat} {hb : Nm → Option Nat} {F : List Nat} {D : Dk}
set_option maxHeartbeats 4000000 in
set_option maxRecDepth 20000 in
theorem append_m (h : DM w d M Dm gb hb F D) (hw : Whole D) (hfu : D.fuse ≤ 9223372036854775807) (n : Nm) (hl : n.length ≤ 1000) (hlen : D.fs.length < 1000000) (H : Nat) (A : Option Addr) (len cap : Nat) (b : List UInt8) (harg : Arg w F H A len cap (U b)) :
    Calls Try.prog 11 #[ptr d, S n, .slice A len cap] w fun e w' => Did0 w d F (dAppend D n b) e w' := by
  obtain ⟨lo, hR, hH, hFR, hA, hlc, hcm⟩ := harg
  obtain ⟨sb, hsb⟩ : ∃ sb, S n = .string sb := ⟨_, rfl⟩
  rw [hsb]
  obtain ⟨w4, hw4⟩ : ∃ w4, w4 = ((((w.alloc (.cells #[ptr d] 23)).alloc (.cells #[.string sb] 9)).alloc (.cells #[.slice A len cap] 29)).alloc (.cells #[.string sb] 9)) := ⟨_, rfl⟩
  have hb4 : Below w.heap.size w w4 := by
    rw [hw4]
    exact ((((Below.refl _ w).alloc (Nat.le_refl _) _).alloc (by simp) _).alloc (by simp; omega) _).alloc (by simp; omega) _
  have hs4 : w4.heap.size = w.heap.size + 4 := by rw [hw4]; simp
  have hD4 := h.below hb4
  have hR4 : Row w4 (w.heap.size + 3) (w.heap.size + 4) (some ⟨w.heap.size + 3, 0, none⟩) 1 (Ss [n]) := by
    rw [hw4]
    have := row_one (((w.alloc (.cells #[ptr d] 23)).alloc (.cells #[.string sb] 9)).alloc (.cells #[.slice A len cap] 29)) 9 (.string sb)
    rw [← hsb] at this ⊢
    simp at this
    exact this
  have W1 := hid (refusal_any hD4 (some ⟨w.heap.size + 3, 0, none⟩) 1 1 _ _ [n] (by simpa using hl) hR4 (by omega) (by omega))
  have k0 : w4.cell? ⟨w.heap.size, 0, none⟩ = some (ptr d) := by
    rw [hw4]
    exact (((Blk.new w 23 #[ptr d]).alloc _).alloc _).alloc _ |>.cell 0
  have k1 : w4.cell? ⟨w.heap.size + 1, 0, none⟩ = some (.string sb) := by
    rw [hw4]
    have := ((Blk.new (w.alloc (.cells #[ptr d] 23)) 9 #[.string sb]).alloc (.cells #[.slice A len cap] 29)).alloc (.cells #[.string sb] 9) |>.cell 0
    simpa using this
  have k2 : w4.cell? ⟨w.heap.size + 1 + 1, 0, none⟩ = some (.slice A len cap) := by
    rw [hw4]
    have := (Blk.new ((w.alloc (.cells #[ptr d] 23)).alloc (.cells #[.string sb] 9)) 29 #[.slice A len cap]).alloc (.cells #[.string sb] 9) |>.cell 0
    simpa using this
  have HD := hid h
  have HW := hid hw
  have HW4 := hid hw4
  have HB4 := hid hb4
  have HD4 := hid hD4
  have HS4 := hid hs4
  have HR := hid hR
  have HSB := hid hsb
  clear h hw hw4 hb4 hD4 hs4 hR4 hR hsb
  go_enter Try.func11, Try.ntmps11
  go_wp2_with fail
  rw [← HW4.out]
  refine W1.out.mono ?_
  rintro e w5 ⟨rfl, hb5⟩
  have c0 := (hb5.cell (p := ⟨w.heap.size, 0, none⟩) (by have := HS4.out; show w.heap.size < _; omega)).trans k0
  have c1 := (hb5.cell (p := ⟨w.heap.size + 1, 0, none⟩) (by have := HS4.out; show w.heap.size + 1 < _; omega)).trans k1
  have c2 := (hb5.cell (p := ⟨w.heap.size + 1 + 1, 0, none⟩) (by have := HS4.out; show w.heap.size + 1 + 1 < _; omega)).trans k2
  have HB5 := hid (HB4.out.trans (hb5.mono (by have := HS4.out; omega)))
  have HS5 : Hid (w.heap.size + 4 ≤ w5.heap.size) := hid (by have := HS4.out; have := hb5.size; omega)
  have HD5 := hid (HD4.out.below hb5)
  clear k0 k1 k2 hb5
  by_cases h0 : wrong D [n] = 0
  · have cd := HD5.out.blk.cell 1
    simp at cd
    have hdl := HD5.out.blk.lt
    have hll : len = b.length := by have := HR.out.len; rw [U_len] at this; exact this.symm
    have KP : ∀ W, Below w5.drew.heap.size w5.drew W → W.cell? ⟨w.heap.size, 0, none⟩ = some (ptr d) ∧ W.cell? ⟨w.heap.size + 1 + 1, 0, none⟩ = some (.slice A len cap) ∧ W.cell? ⟨d, 1, none⟩ = some (.int .i64 D.size) := fun W hW =>
      ⟨((below_undrew hW).cell (p := ⟨w.heap.size, 0, none⟩) (by have := HS5.out; show w.heap.size < w5.heap.size; omega)).trans c0, ((below_undrew hW).cell (p := ⟨w.heap.size + 1 + 1, 0, none⟩) (by have := HS5.out; show w.heap.size + 1 + 1 < w5.heap.size; omega)).trans c2, ((below_undrew hW).cell (p := ⟨d, 1, none⟩) hdl).trans cd⟩
    have W3 := hid (used_m (HD5.out.touch (touch_drew w5 []) (by simp)) HW.out)
    have hroom := HW.out.room
    have htop := HW.out.top
    obtain ⟨us, hus⟩ : ∃ us, us = used D.fs := ⟨_, rfl⟩
    rw [← hus] at W3 hroom
    have hwrap : IntKind.i64.wrap (D.size - (us : Int)) = D.size - (us : Int) := by simp [IntKind.wrap, IntKind.bits, IntKind.signed]; omega
    have HUS := hid hus
    have HLL := hid hll
    clear hus hll
    rw [h0]
    go_wp2_with fail
    go_region_held3 (fun W => W.cell? ⟨w.heap.size, 0, none⟩ = some (ptr d) ∧ W.cell? ⟨w.heap.size + 1 + 1, 0, none⟩ = some (.slice A len cap) ∧ W.cell? ⟨d, 1, none⟩ = some (.int .i64 D.size)) (first | exact ⟨c0, c2, cd⟩ | exact KP _ hb6)
      (first | (go_at_call 20; refine W3.out.mono ?_; rintro e w6 ⟨rfl, hb6⟩))
    have HK := hid (KP _ hb6)
    have hb6' := below_undrew hb6
    have HD6 := hid (HD5.out.below hb6')
    have HB6 := hid (HB5.out.trans (hb6'.mono HB5.out.size))
    obtain ⟨e0, e2, _⟩ := HK.out
    have e1 := (hb6'.cell (p := ⟨w.heap.size + 1, 0, none⟩) (by have := HS5.out; show w.heap.size + 1 < w5.heap.size; omega)).trans c1
    have HS6 : Hid (w.heap.size + 4 ≤ w6.heap.size) := hid (Nat.le_trans HS5.out hb6'.size)
    clear hb6 hb6' KP c0 c1 c2 cd
    by_cases hfull : D.size < (us : Int) + (len : Int)
    · have hf1 : D.size - (us : Int) < (len : Int) := by omega
      have W2 := hid (operate_any (w := w6) HD6.out ⟨HW.out.fuse, hfu⟩ 7 36 #[.pointer (some ⟨w.heap.size, 0, none⟩), .pointer (some ⟨w.heap.size + 1, 0, none⟩), .pointer (some ⟨w.heap.size + 1 + 1, 0, none⟩)] (enters_of Try.func36 (by kernel_rfl) rfl) (fun y w' => y = 7 ∧ w' = w6) (fun _ => ⟨rfl, rfl⟩) (fun e => absurd e (by decide)) (fun e => absurd e (by decide)))
      go_wp2_with fail
      refine W2.out.mono ?_
      rintro e w7 ⟨y, rfl, rfl, rfl⟩
      go_wp2_with fail
      go_ret
      rw [append_right h0, if_pos (by rw [← HUS.out, ← HLL.out]; exact hfull)]
      exact ⟨rfl, F, ⟨_, _, _, _, HD6.out⟩, touch_below HB6.out _, fun _ h => .inl h⟩
    · have hf1 : ¬ D.size - (us : Int) < (len : Int) := by omega
      have hbm : ∀ x ∈ F, x < w.heap.size := HD.out.lt
      have W2 := hid (operate_any (w := w6) HD6.out ⟨HW.out.fuse, hfu⟩ 0 36 #[.pointer (some ⟨w.heap.size, 0, none⟩), .pointer (some ⟨w.heap.size + 1, 0, none⟩), .pointer (some ⟨w.heap.size + 1 + 1, 0, none⟩)] (enters_of Try.func36 (by kernel_rfl) rfl)
        (fun y w' => Did0 w d F (dAppend D n b) (.returned (.int .i64 y)) w') (fun e => absurd rfl e) (fun _ hz w7 hD7 ht7 _ => by
          rw [append_right h0, if_neg (by rw [← HUS.out, ← HLL.out]; exact hfull), burn_zero _ hz]
          exact ⟨rfl, F, ⟨_, _, _, _, hD7⟩, (touch_below HB6.out _).then ht7 (fun i _ hi => by rw [List.mem_singleton.1 hi]; exact HD.out.mem.1), fun _ h => .inl h⟩) (fun _ hz w7 hD7 ht7 hs7 => by
          have hdF : d ∈ F := HD.out.mem.1
          have hdlt : d < w.heap.size := HD.out.lt d hdF
          have hH6 : H ≤ w6.heap.size := Nat.le_trans hH HB6.out.size
          refine (append1_any hD7 (whole_burnt HW.out) hlen n hl w.heap.size (w.heap.size + 1) (w.heap.size + 1 + 1) ((ht7.cell (p := ⟨w.heap.size, 0, none⟩) (by have := HS6.out; show w.heap.size < _; omega) (by simp; omega)).trans e0)
            (by rw [HSB.out]; exact (ht7.cell (p := ⟨w.heap.size + 1, 0, none⟩) (by have := HS6.out; show w.heap.size + 1 < _; omega) (by simp; omega)).trans e1) A len cap lo H b ((ht7.cell (p := ⟨w.heap.size + 1 + 1, 0, none⟩) (by have := HS6.out; show w.heap.size + 1 + 1 < _; omega) (by simp; omega)).trans e2)
            ((HR.out.below HB6.out hH).touch ht7 hH6 (fun i hi => by rw [List.mem_singleton.1 hi]; exact hFR d hdF)) hA (by rw [hs7]; exact hH6) hFR ⟨fun e => by have := hbm _ e; omega, fun e => by have := hbm _ e; omega, fun e => by have := hbm _ e; omega⟩ ⟨by have := HS6.out; omega, by have := HS6.out; omega, by have := HS6.out; omega⟩ (by
              have h1 := HUS.out
              have h2 := HLL.out
              show used D.fs + b.length ≤ _
              omega)).mono ?_
          rintro x w8 ⟨rfl, F', hF1, hF2, hF3⟩
          refine ⟨rfl, ?_⟩
          rw [append_right h0, if_neg (by rw [← HUS.out, ← HLL.out]; exact hfull), burn_do _ hz]
          refine ⟨rfl, F', hF1, ((touch_below HB6.out F).then ht7 (fun i _ hi => by rw [List.mem_singleton.1 hi]; exact hdF)).then hF2 (fun _ _ h => h), fun y hy => ?_⟩
          rcases hF3 y hy with hy | hy
          · exact .inl hy
          · exact .inr (by have := HS6.out; omega)))
      go_wp2_with fail
      refine W2.out.mono ?_
      rintro e w7 ⟨y, rfl, hdid⟩
      go_wp2_with fail
      go_ret
      exact hdid
  · have HAW := hid (append_wrong (b := b) h0)
    have hcase : wrong D [n] = 9 ∨ wrong D [n] = 2 := by
      unfold wrong at h0 ⊢
      cases ho : D.off <;> cases hk : [n].all okN <;> simp [ho, hk] at h0 ⊢
    rcases hcase with hr | hr
    all_goals
      rw [hr] at HAW ⊢
      clear h0
    · have W2 := fun q => hid (operate_any (w := w5.drewN q) (HD5.out.touch (touch_drewN w5 q []) (by simp)) ⟨HW.out.fuse, hfu⟩ 9 36 #[.pointer (some ⟨w.heap.size, 0, none⟩), .pointer (some ⟨w.heap.size + 1, 0, none⟩), .pointer (some ⟨w.heap.size + 1 + 1, 0, none⟩)] (enters_of Try.func36 (by kernel_rfl) rfl) (fun y w' => y = 9 ∧ w' = w5.drewN q) (fun _ => ⟨rfl, rfl⟩) (fun e => absurd e (by decide)) (fun e => absurd e (by decide)))
      clear hr
      go_wp2_with fail
      go_quiet (fail)
      go_wp2_with fail
      refine (W2 _).out.mono ?_
      rintro e w7 ⟨y, rfl, rfl, rfl⟩
      go_wp2_with fail
      go_ret
      rw [HAW.out]
      exact ⟨rfl, F, ⟨_, _, _, _, HD5.out.touch (touch_drewN w5 _ []) (by simp)⟩, (touch_below HB5.out F).then (touch_drewN w5 _ []) (fun _ _ h => by cases h), fun _ h => .inl h⟩
    · have W2 := fun q => hid (operate_any (w := w5.drewN q) (HD5.out.touch (touch_drewN w5 q []) (by simp)) ⟨HW.out.fuse, hfu⟩ 2 36 #[.pointer (some ⟨w.heap.size, 0, none⟩), .pointer (some ⟨w.heap.size + 1, 0, none⟩), .pointer (some ⟨w.heap.size + 1 + 1, 0, none⟩)] (enters_of Try.func36 (by kernel_rfl) rfl) (fun y w' => y = 2 ∧ w' = w5.drewN q) (fun _ => ⟨rfl, rfl⟩) (fun e => absurd e (by decide)) (fun e => absurd e (by decide)))
      clear hr
      go_wp2_with fail
      go_quiet (fail)
      go_wp2_with fail
      refine (W2 _).out.mono ?_
      rintro e w7 ⟨y, rfl, rfl, rfl⟩
      go_wp2_with fail
      go_ret
      rw [HAW.out]
      exact ⟨rfl, F, ⟨_, _, _, _, HD5.out.touch (touch_drewN w5 _ []) (by simp)⟩, (touch_below HB5.out F).then (touch_drewN w5 _ []) (fun _ _ h => by cases h), fun _ h => .inl h⟩
end
end Go.Proofs.Ytkadljomimpnjaa
