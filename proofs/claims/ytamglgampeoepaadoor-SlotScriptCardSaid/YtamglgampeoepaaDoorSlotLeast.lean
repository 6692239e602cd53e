/-
  Contract of slot's leastFree.
-/
import Derived.Test.YtamglgampeoepaaDoorSlotOps
namespace Go.Proofs.YtamglgampeoepaaDoor
set_option maxRecDepth 40000
open Go.RowKit Go.Joins

section
variable {w : World} {g : Nat} {F : List Nat} {s : SSt} {vv tv rv : Value} {ws : List Nat} {f : Nat}
/-- The rows with the first word that may have a nought moved. -/
theorem SRaw.fulls {w' : World} {k : Nat} (h : SRaw w g s vv tv rv ws f) (hk : FullTo ws k) {x : Int} (hx : x = (k : Int)) (he : w' = w.setCell ⟨g, 4, none⟩ (.int .i64 x)) : SRaw w' g s vv tv rv ws k := by
  subst he hx
  exact ⟨h.blk.set 4 _, ownsRow_setCell_other h.vo h.vg _, ownsRow_setCell_other h.to h.tg _, ownsRow_setCell_other h.ro h.rg _, h.told, hk, h.vg, h.tg, h.rg, h.vt, h.vr, h.tr⟩
/-- Another row of words. -/
theorem SRaw.words {w' : World} {tv' : Value} {ws' : List Nat} {G : List Nat} (h : SRaw w g s vv tv rv ws f) (ht : Touch w w' G) (hG : ∀ b ∈ blocks g vv (.slice none 0 0) rv, b ≠ g → b ∉ G) (hb : Blk w' g 60 (scells s vv tv' rv f)) (to : w'.ownsRow 0 63 1 tv' ws'.length (W64 ws'))
    (told : Told64 ws' s.st) (full : FullTo ws' f) (hr : ∀ e, tv'.ownBlock = some e → tv.ownBlock = some e ∨ w.heap.size ≤ e) : SRaw w' g s vv tv' rv ws' f := by
  refine ⟨hb, own_touched h.vo ht (fun e he => hG e (by simp [blocks, he]) (fun e2 => h.vg (by rw [he, e2]))), to, own_touched h.ro ht (fun e he => hG e (by simp [blocks, he]) (fun e2 => h.rg (by rw [he, e2]))), told, full, h.vg, fun e => ?_, h.rg, ?_, h.vr, ?_⟩
  · rcases hr g e with h1 | h1
    · exact h.tg h1
    · have := h.blk.lt; omega
  · rcases h.vt with h1 | h1
    · exact .inl h1
    · cases hv : vv.ownBlock with
      | none => exact .inl rfl
      | some e =>
        right
        intro e2
        rcases hr e e2.symm with h2 | h2
        · exact h1 (by rw [hv, h2])
        · have := (h.vo.lt e hv).2; omega
  · cases hv : tv'.ownBlock with
    | none => exact .inl rfl
    | some e =>
      right
      intro e2
      rcases hr e hv with h2 | h2
      · rcases h.tr with h1 | h1
        · rw [h1] at h2; cases h2
        · exact h1 (by rw [h2, e2])
      · have := (h.ro.lt e e2.symm).2; omega
/-- A word more. -/
theorem worded (h : SRaw w g s vv tv rv ws f) (hfw : f = ws.length) {o : Obj} {v2 : Value} {w2 : World} (own2 : w2.ownsRow 0 63 1 v2 (ws.length + 1) (W64 ws ++ [.int .u64 0])) (grow2 : (w.alloc o).grownBy w2 tv.ownBlock) (at2 : v2.ownBlock = tv.ownBlock ∨ v2.ownBlock = some (w.alloc o).heap.size) :
    SRaw (w2.setCell ⟨g, 3, none⟩ v2) g s vv v2 rv (ws ++ [0]) f ∧ Touch w (w2.setCell ⟨g, 3, none⟩ v2) (blocks g vv tv rv) ∧ ∀ b ∈ blocks g vv v2 rv, b ∈ blocks g vv tv rv ∨ w.heap.size ≤ b := by
  have hgl := h.blk.lt
  have hs : (w.alloc o).heap.size = w.heap.size + 1 := by simp
  have hv : ∀ e, v2.ownBlock = some e → tv.ownBlock = some e ∨ w.heap.size ≤ e := fun e he => by
    rcases at2 with h1 | h1
    · exact .inl (h1 ▸ he)
    · rw [h1] at he; injection he with he; right; omega
  have hvg : v2.ownBlock ≠ some g := fun e => by
    rcases hv g e with h1 | h1
    · exact h.tg h1
    · omega
  have k2 : Blk w2 g 60 (scells s vv tv rv f) := (h.blk.alloc o).grown grow2 (Ne.symm h.tg)
  have t1 : Touch w w2 tv.ownBlock.toList := (touch_below ((Below.refl _ w).alloc (Nat.le_refl _) o) _).then (touch_grown grow2 (fun e he => by rw [he]; simp)) (fun _ _ hi => hi)
  have t2 : Touch w (w2.setCell ⟨g, 3, none⟩ v2) (g :: tv.ownBlock.toList) := (t1.mono (fun _ _ hi => List.mem_cons_of_mem _ hi)).set List.mem_cons_self
  refine ⟨h.words t2 (fun b hb hne hm => ?_) (k2.set 3 v2) ?_ (h.told.more (by
    rcases Nat.eq_zero_or_pos ws.length with h0 | h0
    · omega
    · have h1 := has_lt (h.told.full h.full (i := ws.length * 64 - 1) (by rw [hfw]; omega))
      omega)) h.full.more hv, t2.mono (fun i _ hi => ?_), fun b hb => ?_⟩
  · simp only [blocks, List.mem_cons, List.mem_append, Option.mem_toList] at hb hm
    rcases hm with hm | hm
    · exact hne hm
    · rcases hb with hb | hb | hb | hb
      · exact hne hb
      · rcases h.vt with h1 | h1
        · rw [h1] at hb; cases hb
        · exact h1 (Eq.trans hb (Eq.symm hm))
      · cases hb
      · rcases h.tr with h1 | h1
        · rw [h1] at hm; cases hm
        · exact h1 (Eq.trans hm (Eq.symm hb))
  · have e : W64 (ws ++ [0]) = W64 ws ++ [.int .u64 0] := by simp [W64]
    rw [List.length_append, e]
    exact ownsRow_setCell_other own2 hvg _
  · simp only [blocks, List.mem_cons, List.mem_append] at hi ⊢
    rcases hi with hi | hi
    · exact .inl hi
    · exact .inr (.inr (.inl hi))
  · simp only [blocks, List.mem_cons, List.mem_append, Option.mem_toList] at hb ⊢
    rcases hb with hb | hb | hb | hb
    · exact .inl (.inl hb)
    · exact .inl (.inr (.inl hb))
    · rcases hv b hb with h1 | h1
      · exact .inl (.inr (.inr (.inl h1)))
      · exact .inr h1
    · exact .inl (.inr (.inr (.inr hb)))
theorem ones_xor {x : Nat} (h : x < 18446744073709551616) : 18446744073709551615 ^^^ x = 18446744073709551615 - x := by
  apply Nat.eq_of_testBit_eq
  intro i
  have h1 := Nat.testBit_two_pow_sub_succ (x := x) (n := 64) h i
  rw [show 2 ^ 64 - (x + 1) = 18446744073709551615 - x by omega] at h1
  have h2 := Nat.testBit_two_pow_sub_one 64 i
  rw [show (2 : Nat) ^ 64 - 1 = 18446744073709551615 by decide] at h2
  rw [Nat.testBit_xor, h1, h2]
  by_cases hi : i < 64
  · simp [hi]
  · have h3 : x.testBit i = false := Nat.testBit_lt_two_pow (Nat.lt_of_lt_of_le h (Nat.pow_le_pow_right (n := 2) (by omega) (show 64 ≤ i by omega)))
    simp [hi, h3]
theorem not_u64 {x : Nat} (h : x < 18446744073709551616) : bits .xor .u64 (if IntKind.u64.signed = true then -1 else IntKind.u64.max) (x : Int) = ((18446744073709551615 - x : Nat) : Int) := by
  rw [if_neg (by decide), show IntKind.u64.max = 18446744073709551615 by decide, ← ones_xor h]
  exact u64_xor_nat 18446744073709551615 x (by decide) h
def fullOf (g : Nat) (W : World) : Nat := (intOf ((W.cell? ⟨g, 4, none⟩).getD undef)).toNat
/-- What leastFree leaves. -/
def Least (w : World) (g : Nat) (s : SSt) (vv tv rv : Value) (e : Ending) (w' : World) : Prop :=
  ∃ (n : Nat) (tv' : Value) (ws' : List Nat) (f' : Nat), e = .returned (.int .i64 (n : Int)) ∧ Low s.st n ∧ SRaw w' g s vv tv' rv ws' f' ∧ n / 64 < ws'.length ∧ f' ≤ n / 64 ∧ Touch w w' (blocks g vv tv rv) ∧ ∀ b ∈ blocks g vv tv' rv, b ∈ blocks g vv tv rv ∨ w.heap.size ≤ b
theorem SRaw.fullOf (h : SRaw w g s vv tv rv ws f) : fullOf g w = f := by unfold Go.Proofs.YtamglgampeoepaaDoor.fullOf; rw [h.c4]; rfl
set_option maxHeartbeats 2000000 in
theorem least_s (h : SRaw w g s vv tv rv ws f) (hf : SFit s) (hT : ∀ W, Touch w W (blocks g vv tv rv) → Tab W) : Calls Tryd.prog 31 #[ptr g] w (Least w g s vv tv rv) := by
  obtain ⟨A, c, rfl, _⟩ := words_shape h.to
  have HR := hid h
  have HF := hid hf
  have HT := hid hT
  clear h hf hT
  go_enter Tryd.func31, Tryd.ntmps31
  go_wp2
  go_loopw [] (fun wr => ∃ k : Nat, Hid (SRaw wr g s vv (.slice A ws.length c) rv ws k) ∧ Hid (Touch w wr [g])) (fun wr => ws.length - fullOf g wr)
  case atStart => exact ⟨f, HR, hid (Touch.refl _ _)⟩
  case round =>
    obtain ⟨k, HK, HW⟩ := hrel
    have HFU := hid HK.out.fullOf
    have hkle := HK.out.full.1
    have HKF : Hid (k * 64 ≤ 16777216) := hid (by
      rcases Nat.eq_zero_or_pos k with h0 | h0
      · omega
      · have h1 := has_lt (HK.out.told.full HK.out.full (i := k * 64 - 1) (by omega))
        have := HF.out.wide
        have := HF.out.room
        omega)
    have hk18 : k ≤ 262144 := by have := HKF.out; omega
    have c3 := HK.out.c3
    have c4 := HK.out.c4
    rcases Nat.lt_or_ge k ws.length with hlt | hge
    case' inl =>
      obtain ⟨A', c', hv, hw⟩ := words_shape HK.out.to
      injection hv with hv1 _ hv3
      obtain ⟨b, hA, hcell⟩ := hw k hlt
      rw [← hv1] at hA
      subst hA
      clear hw hv1 hv3
      obtain ⟨x, hx⟩ : ∃ x, x = ws[k]?.getD 0 := ⟨_, rfl⟩
      rw [← hx] at hcell
      have HX := hid hx
      have hki : (k : Int) < (ws.length : Int) := by omega
      clear hx
      by_cases hall : x = 18446744073709551615
      · have q : ((x : Int) == 18446744073709551615) = true := by rw [hall]; rfl
        have HN : Hid (FullTo ws (k + 1)) := hid (HK.out.full.next (by
          have h2 := List.getElem?_eq_getElem hlt
          have h3 := HX.out
          rw [h2] at h3
          rw [h2, ← hall, h3]
          rfl))
        have f4 := HK.out.blk.frozen 4
        clear hall
        go_wp2
        go_quiet (fail)
        go_wp2
        have R2 := (HK.out.draws (k := nq)).fulls (k := k + 1) HN.out (x := (k : Int) + 1) (by simp) rfl
        exact ⟨⟨k + 1, hid R2, hid ((HW.out.drews nq).set List.mem_cons_self)⟩, by rw [R2.fullOf, HFU.out]; omega⟩
      have q : ((x : Int) == 18446744073709551615) = false := by simp; omega
      have hne : ((k : Int) == (ws.length : Int)) = false := by simp; omega
      have HALL := hid hall
      have hx64 : x < 18446744073709551616 := by have := HK.out.told.word_lt k; rwa [← HX.out] at this
      have hxor := not_u64 hx64
      obtain ⟨y, hy⟩ : ∃ y, y = 18446744073709551615 - x := ⟨_, rfl⟩
      rw [← hy] at hxor
      have HXOR := hid hxor
      have TZ := hid (fun n : Nat => tz_any y (wr.drewN n) (by omega) (HT.out _ ((HW.out.drews n).mono (fun i _ hi => by simp only [blocks, List.mem_cons]; rw [List.mem_singleton] at hi; exact .inl hi))))
      have HL := hid (HK.out.told.low_at HK.out.full (by rw [← HX.out]; exact hall))
      obtain ⟨z, hz⟩ : ∃ z, z = Lib.ctz 64 y := ⟨_, rfl⟩
      have HZL : Hid (Low s.st (k * 64 + z)) := hid (by rw [hz, hy, HX.out]; exact HL.out)
      have hz64 : z < 64 := by rw [hz]; exact (Lib.lowest_bit 64 y (by omega) (by omega)).2
      rw [← hz] at TZ
      clear hall hx64 hy hz HL hxor
      go_wp2
      go_quiet (fail)
      go_wp2
      go_quiet (fail)
      go_wp2
      have hxor := HXOR.out
      go_quiet (first | (go_at_call 40; exact (TZ.out _).mono fun _ _ hh => ⟨hh.1, _, hh.2⟩))
      go_wp2
      go_ret
      refine ⟨k * 64 + z, _, ws, k, ?_, HZL.out, ((HK.out.draws).draws).draws, by omega, by omega, ?_, fun b hb => .inl hb⟩
      · show Ending.returned (.int .i64 ((k : Int) * 64 + (z : Int))) = _
        simp
      · exact (((HW.out.drews _).drews _).drews _).mono (fun i _ hi => by simp only [blocks, List.mem_cons]; rw [List.mem_singleton] at hi; exact .inl hi)
    case' inr =>
      obtain rfl : k = ws.length := by omega
      obtain ⟨i0, hi, hz0, hz1, hz2⟩ := info_parts infou64
      have hwl : ws.length ≤ 262144 := by omega
      clear hge hkle
      go_wp2
      go_quiet (fail)
      obtain ⟨n1, hn1⟩ : ∃ n1, n1 = nq := ⟨_, rfl⟩
      rw [← hn1]
      clear hn1
      go_wp2
      go_quiet (fail)
      obtain ⟨wq, hwq⟩ : ∃ wq, wq = (wr.drewN n1).drewN nq := ⟨_, rfl⟩
      have HKq : Hid (SRaw wq g s vv (.slice A ws.length c) rv ws ws.length) := hid (by rw [hwq]; exact (HK.out.draws).draws)
      have HWq : Hid (Touch w wq [g]) := hid (by rw [hwq]; exact (HW.out.drews _).drews _)
      have hgq := HKq.out.blk.lt
      have d3 := HKq.out.c3
      rw [show (wr.drewN n1).drewN nq = wq from hwq.symm]
      have RN := hid (row_one wq 63 (.int .u64 0))
      clear hwq c3 c4
      go_wp2_with (at_builtin; go_loud (refine wpList_append_row _ rfl _ _ 58 rfl 0 63 i0 (.int .u64 0) 8 Tryd.underlying58 hi hz0 hz1 hz2 rfl (.slice A ws.length c) ws.length (W64 ws) rfl (HKq.out.to.alloc _) wq.heap.size (wq.heap.size + 1) (some ⟨wq.heap.size, 0, none⟩) 1 1 rfl (fun e => by cases e) [.int .u64 0] RN.out (by intro u hu; simp at hu; subst hu; rfl) (by unfold maxLen; omega) (by omega) (by simp) ?_); intro v2 w2 own2 grow2 at2; obtain ⟨R3, T3, B3⟩ := worded HKq.out rfl own2 grow2 at2; have k2 := (HKq.out.blk.alloc (.cells #[.int .u64 0] 63)).grown grow2 (Ne.symm HKq.out.tg); have f3 := k2.frozen 3; have c3' := k2.cell 3; obtain ⟨A2, c2, rfl, _, _⟩ := own_shape' own2; have HR3 := hid R3; have HT3 := hid T3; have HB3 := hid B3; clear R3 T3 B3 own2 grow2 at2; obtain ⟨w3, hw3⟩ : ∃ w3, w3 = w2.setCell ⟨g, 3, none⟩ (.slice A2 (ws.length + 1) c2) := ⟨_, rfl⟩; rw [← hw3] at HR3 HT3; have HW3 := hid hw3; clear hw3)
      rw [← HW3.out]
      obtain ⟨A', c', hv, hw⟩ := words_shape HR3.out.to
      have hl1 : (ws ++ [0]).length = ws.length + 1 := by simp
      have hat0 : (ws ++ [0])[ws.length]?.getD 0 = 0 := by simp
      obtain ⟨b, hA, hcell⟩ := hw ws.length (by omega)
      rw [hat0] at hcell
      have HAT0 := hid hat0
      have HL1 := hid hl1
      injection hv with hv1 hvn hv3
      rw [← hv1] at hA
      subst hA
      have e3 := HR3.out.c3
      have e4 := HR3.out.c4
      have hxor := not_u64 (x := 0) (by decide)
      rw [show ((0 : Nat) : Int) = 0 from rfl] at hxor hcell
      obtain ⟨y, hy⟩ : ∃ y, y = 18446744073709551615 - 0 := ⟨_, rfl⟩
      rw [← hy] at hxor
      have HT3w : Hid (Touch w w3 (blocks g vv (.slice A ws.length c) rv)) := hid ((HWq.out.mono (fun i _ hi => by simp only [blocks, List.mem_cons]; rw [List.mem_singleton] at hi; exact .inl hi)).then HT3.out (fun _ _ hi => hi))
      have TZ := hid (fun n : Nat => tz_any y (w3.drewN n) (by omega) (HT.out _ (HT3w.out.drews n)))
      have HL := hid (HR3.out.told.low_at HR3.out.full (by rw [HAT0.out]; decide))
      obtain ⟨z, hz⟩ : ∃ z, z = Lib.ctz 64 y := ⟨_, rfl⟩
      have HZL : Hid (Low s.st (ws.length * 64 + z)) := hid (by rw [hz, hy]; have := HL.out; rw [HAT0.out] at this; exact this)
      have hz64 : z < 64 := by rw [hz]; exact (Lib.lowest_bit 64 y (by omega) (by omega)).2
      rw [← hz] at TZ
      clear hy hz HL hw hv1 hvn hv3 hl1 hat0 d3 f3 c3' k2
      go_quiet (first | (go_at_call 40; exact (TZ.out _).mono fun _ _ hh => ⟨hh.1, _, hh.2⟩))
      go_wp2
      go_ret
      refine ⟨ws.length * 64 + z, _, ws ++ [0], ws.length, ?_, HZL.out, HR3.out.draws, by rw [HL1.out]; omega, by omega, HT3w.out.drews _, fun b hb => ?_⟩
      · show Ending.returned (.int .i64 ((ws.length : Int) * 64 + (z : Int))) = _
        simp
      · rcases HB3.out b hb with h | h
        · exact .inl h
        · exact .inr (Nat.le_trans HWq.out.size h)
end
end Go.Proofs.YtamglgampeoepaaDoor
