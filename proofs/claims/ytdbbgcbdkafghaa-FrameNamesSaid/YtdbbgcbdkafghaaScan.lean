/-
  Contracts of frame's payloads, Scan and All.
-/
import Derived.RangeFuncNested
import Derived.Test.YtdbbgcbdkafghaaPays
import Derived.Test.YtdbbgcbdkafghaaLives7
namespace Go.Proofs.Ytdbbgcbdkafghaa
open Go.RowKit Go.Shelf Go.Joins Regs
attribute [local go_sem] Oper.semAt_some

/-- Two slices that own their rows, of unlike elements, have unlike blocks. -/
theorem own_apart {w : World} {b b' s s' k k' : Nat} {e e' : TypeId} {v v' : Value} {xs xs' : List Value} (hne : e ≠ e') (h : w.ownsRow b e s v k xs) (h' : w.ownsRow b' e' s' v' k' xs') : v.ownBlock = none ∨ v.ownBlock ≠ v'.ownBlock := by
  rcases h.2 with ⟨rfl, _⟩ | ⟨g, cap, cur, rfl, _, hg, _⟩
  · exact .inl rfl
  · right
    intro ee
    rcases h'.2 with ⟨rfl, _⟩ | ⟨g', cap', cur', rfl, _, hg', _⟩
    · simp [Value.ownBlock] at ee
    · obtain rfl : g = g' := by simpa [Value.ownBlock] using ee
      rw [hg] at hg'
      simp at hg'
      exact hne hg'.2
theorem Paid.kept {n₀ : Nat} {x : Pay} {W W' : World} {row : Option Nat} (h : Paid n₀ x W) (hg : W.grownBy W' row) (hne : (Value.slice x.A x.n x.c).ownBlock = none ∨ (Value.slice x.A x.n x.c).ownBlock ≠ row) : Paid n₀ x W' := ⟨h.1, h.2.1, h.2.2.kept hg hne⟩
theorem paid_own (n₀ B : Nat) : OwnFrom B (fun (pre : List Pay) W => ∀ x ∈ pre, Paid n₀ x W) := fun pre X Y row hs hg hr x hx => by
  refine (hs x hx).kept hg ?_
  rcases (hs x hx).2.2.2 with ⟨e, _⟩ | ⟨g, cap, cur, e, _, hgb, _⟩
  · rw [e]; exact .inl rfl
  · rw [e]
    refine .inr fun e' => ?_
    obtain ⟨_, o, ho, hc⟩ := hr g (by simpa [Value.ownBlock] using e'.symm)
    rw [hgb] at ho
    cases ho
    cases hc
theorem Paid.set {n₀ : Nat} {x : Pay} {W : World} (h : Paid n₀ x W) {B : Nat} {t : TypeId} {u : Value} (hb : Boxed W B t u) (ht : t ≠ 5) (v' : Value) : Paid n₀ x (W.setCell ⟨B, 0, none⟩ v') :=
  h.kept (grownBy_setCell' W B v') (.inr (hb.not_row ht h.2.2).symm)
theorem Paid.appended {n₀ : Nat} {x : Pay} {W w2 : World} (h : Paid n₀ x W) {e : TypeId} {v : Value} {k : Nat} {xs : List Value} {tmp : Obj} (hrow : W.ownsRow n₀ e 1 v k xs) (he : 5 ≠ e) (hgrow : (W.alloc tmp).grownBy w2 v.ownBlock) : Paid n₀ x w2 := by
  have h1 : Paid n₀ x (W.alloc tmp) := h.kept (World.grownBy_alloc W tmp none) (by cases hh : (Value.slice x.A x.n x.c).ownBlock <;> simp)
  exact h1.kept hgrow (own_apart he h1.2.2 (hrow.alloc tmp))
/-- A row of payloads, each in memory of its own, is a list of bytes. -/
theorem bl_of_paid {W : World} {n₀ : Nat} {t : TypeId} {v : Value} {xs : List Pay} (hrow : W.ownsRow n₀ t 1 v xs.length (xs.map Pay.v)) (hp : ∀ x ∈ xs, Paid n₀ x W) :
    ∃ A c, v = .slice A xs.length c ∧ (A = none → c = 0) ∧ xs.length ≤ c ∧ c ≤ maxLen ∧ BL W n₀ W.heap.size A xs.length (xs.map (·.p)) (xs.map Pay.v) := by
  obtain ⟨A, c, rfl, hA, _⟩ := own_shape hrow
  obtain ⟨h1, h2⟩ := own_caps hrow
  refine ⟨A, c, rfl, hA, h1, h2, Row.of_own hrow, by simp, fun k l hk => ?_⟩
  rw [List.getElem?_map] at hk
  cases hx : xs[k]? with
  | none => rw [hx] at hk; cases hk
  | some x =>
    rw [hx] at hk
    simp only [Option.map_some, Option.some.injEq] at hk
    subst hk
    obtain ⟨q1, q2, q3⟩ := hp x (List.mem_of_getElem? hx)
    have qc := own_caps q3
    exact ⟨x.A, x.n, x.c, by rw [List.getElem?_map, hx]; rfl, Row.of_own q3, q2, qc.1, qc.2⟩
theorem Paid.putObj {n₀ : Nat} {x : Pay} {W : World} (h : Paid n₀ x W) {l : Nat} {o : Obj} (o' : Obj) (hl : W.heap[l]? = some o) (ho : o.isCells = false) : Paid n₀ x (W.putObj l o') := ⟨h.1, h.2.1, ownsRow_putObj h.2.2 o' hl ho⟩
theorem flat_len_snoc (l : List (List UInt8)) (p : List UInt8) : (flat (l ++ [p])).length = (flat l).length + (p.length + 8) := by rw [flat_snoc, List.length_append, frm_len]
theorem flat_many (l : List (List UInt8)) : 8 * l.length ≤ (flat l).length := by
  induction l with
  | nil => exact Nat.zero_le _
  | cons p l ih => rw [flat_cons, List.length_append, frm_len, List.length_cons]; omega
set_option maxHeartbeats 1000000 in
theorem payloads_any (A : Option Addr) (n c : Nat) (w : World) :
    Calls Try.prog 30 #[.slice A n c] w fun e w' => e = .returned (.func (.func 38) #[] #[.pointer (some ⟨w.heap.size, 0, none⟩)]) ∧ w' = w.alloc (.cells #[.slice A n c] 22) := by
  go_enter Try.func30, Try.ntmps30
  go_wp2
  go_ret
  exact ⟨rfl, rfl⟩
/-- What Scan tells: the payloads in memory of their own, and how long their frames are. -/
def ScanPost (w : World) (b : List UInt8) (e : Ending) (w' : World) : Prop :=
  ∃ ps r A n c vs, e = .returned (.tuple #[.slice A n c, .int .i64 ((flat ps).length : Int)]) ∧ Hid (Scans b ps r) ∧ Hid (BL w' w.heap.size w'.heap.size A n ps vs) ∧ Hid (A = none → c = 0) ∧ n ≤ c ∧ c ≤ maxLen ∧ Below w.heap.size w w'
theorem info_slice : (Try.prog.info? 22).map (fun i => (i.zero, i.size, i.bytes)) = some (some (.slice none 0 0), 1, 24) := by kernel_rfl
set_option maxRecDepth 100000 in
set_option maxHeartbeats 2000000 in
theorem scan_any (A : Option Addr) (n c lo up : Nat) (b : List UInt8) (w : World) (hR : Row w lo up A n (U b)) (hA : A = none → c = 0) (hup : up ≤ w.heap.size) (hc : n ≤ c ∧ c ≤ maxLen) (hn : n ≤ 300000) :
    Calls Try.prog 11 #[.slice A n c] w (ScanPost w b) := by
  have hbl : b.length = n := by have := hR.len; rwa [U_len] at this
  obtain ⟨i0, hi, hz0, hz1, hz2⟩ := info_parts info_slice
  have HR := hid hR
  have HA := hid hA
  clear hR hA
  refine (callsIn_wide (n := 4)).1 ?_
  refine callsIn_of_wp_marks Try.func11 rfl trivial ?_ rfl
  simp only [Try.ntmps11, List.size_toArray, List.length_cons, List.length_nil, Nat.reduceAdd, Nat.reduceSub, Array.replicate_succ, Array.replicate_zero, List.push_toArray, List.append_toArray, List.nil_append, List.cons_append]
  gi_wp2_with (refine ⟨trivial, ?_⟩; gi_at_call 30; refine (callsIn_wide.2 (payloads_any A n c _)).mono ?_; rintro e w' ⟨rfl, rfl⟩)
  obtain ⟨w1, hw1⟩ : ∃ w1, w1 = (((w.alloc (Obj.cells #[Value.slice none 0 0] 26)).alloc (Obj.cells #[Value.int IntKind.i64 0] 3)).alloc (Obj.cells #[Value.slice A n c] 22)) := ⟨_, rfl⟩
  have b1 : Boxed w1 w.heap.size 26 (.slice none 0 0) := by rw [hw1]; exact ((Boxed.new w _ _).alloc _).alloc _
  have b2 : Boxed w1 (w.heap.size + 1) 3 (.int .i64 0) := by rw [hw1]; have := (Boxed.new (w.alloc (Obj.cells #[Value.slice none 0 0] 26)) 3 (.int .i64 0)).alloc (Obj.cells #[Value.slice A n c] 22); rwa [World.size_alloc] at this
  have b3 : w1.cell? ⟨w.heap.size + 1 + 1, 0, none⟩ = some (.slice A n c) := by
    rw [hw1]
    have := (Boxed.new ((w.alloc (Obj.cells #[Value.slice none 0 0] 26)).alloc (Obj.cells #[Value.int IntKind.i64 0] 3)) 22 (.slice A n c)).cell
    rwa [World.size_alloc, World.size_alloc] at this
  have hsz : w1.heap.size = w.heap.size + 3 := by rw [hw1]; simp
  have hB1 : Below w.heap.size w w1 := by rw [hw1]; exact (((Below.refl _ w).alloc (Nat.le_refl _) _).alloc (by simp) _).alloc (by simp; omega) _
  rw [← hw1]
  clear hw1
  have HR1 := HR.out.below hB1 hup
  refine range_told rfl (by omega) (gf := 38) (lb := #[.pointer (some ⟨w.heap.size + 1 + 1, 0, none⟩)]) rfl trivial (enters_of Try.func38 (by kernel_rfl) rfl)
    (encs := fun x : Pay => #[.slice x.A x.n x.c]) (fun _ => rfl) (n₀ := w.heap.size) (by omega) (Paid w.heap.size)
    (fun pre W => ((∃ v, Boxed W w.heap.size 26 v ∧ W.ownsRow w.heap.size 22 1 v pre.length (pre.map Pay.v) ∧ True) ∧ Boxed W (w.heap.size + 1) 3 (.int .i64 ((flat (pre.map (·.p))).length : Int))) ∧ (∀ x ∈ pre, Paid w.heap.size x W) ∧ Below w.heap.size w W)
    (fun xs => (flat (xs.map (·.p))).length ≤ b.length) (fun xs => ∃ r, Scans b (xs.map (·.p)) r)
    (fun x => ?hT) ?hI ?h0
    (fun x => { tmps := #[Value.slice A n c, undef, Value.slice none 0 0, Value.int IntKind.i64 0, Value.pointer (some { block := w.heap.size, off := 0 }), Value.pointer (some { block := w.heap.size + 1, off := 0 }), .slice x.A x.n x.c, Value.slice A n c, Value.func (Fn.func 38) #[] #[Value.pointer (some { block := w.heap.size + 1 + 1, off := 0 })], .slice x.A x.n x.c, undef, undef, undef, undef, undef, undef, undef, undef, undef, undef, undef], defers := [] })
    (payloads1_in w.heap.size (w.heap.size + 1 + 1) lo up A n c b w1 (by omega) (by omega) hup HR1 HA.out hc hn b3) ?assign ?body ?done
  case hT => exact (fun s X Y row hs hg hr => by
    have := paid_own w.heap.size w1.heap.size [x] X Y row (fun y hy => by rw [List.mem_singleton] at hy; subst hy; exact hs) hg hr
    exact this x (List.mem_singleton.2 rfl))
  case hI => exact OwnFrom.and (Own.from (fun s X Y row hs hg hr => ⟨holdsRow_own w.heap.size w.heap.size 26 22 1 (fun pre => pre.length) (fun pre => pre.map Pay.v) (fun _ _ => True) s X Y row hs.1 hg hr, boxed_own (w.heap.size + 1) 3 (fun pre : List Pay => .int .i64 ((flat (pre.map (·.p))).length : Int)) s X Y row hs.2 hg hr⟩) _) (OwnFrom.and (paid_own _ _) (ownFrom_below (Nat.le_refl _) (by omega)))
  case h0 => exact ⟨⟨⟨_, b1, World.ownsRow_nil _ _ _ _, trivial⟩, b2⟩, (fun x hx => by cases hx), hB1⟩
  case assign =>
    intro l x W K hK
    gi_wp2
    exact hK
  case body =>
    rintro l pre x W ⟨⟨⟨v, hv, hrow, _⟩, hend⟩, hpaid, hB⟩ hx hG
    have hmx : Try.prog.follows .mixedOrders = true := by kernel_rfl
    have hGl : (flat ((pre ++ [x]).map (·.p))).length = (flat (pre.map (·.p))).length + (x.n + 8) := by
      rw [List.map_append, List.map_cons, List.map_nil, flat_len_snoc, hx.1]
    have hmany := flat_many (pre.map (·.p))
    rw [List.length_map] at hmany
    rw [hGl] at hG
    have HGL := hid hGl
    clear hGl
    obtain ⟨z, hz⟩ : ∃ z, z = (flat (pre.map (·.p))).length := ⟨_, rfl⟩
    rw [← hz] at hend hG hmany HGL
    clear hz
    have hc := hv.cell
    have hxn : x.n ≤ 300000 := by omega
    have hz3 : z ≤ 300000 := by omega
    have hf : fsize (x.n : Int) = 8 + (x.n : Int) := by unfold fsize; rw [if_neg (by omega)]
    have SZ : Hid (∀ W', Calls Try.prog 13 #[.int .i64 (x.n : Int)] W' fun e w' => e = .returned (.int .i64 (8 + (x.n : Int))) ∧ w' = W') := hid fun W' => by have := size_any (x.n : Int) W'; rwa [hf] at this
    clear hf
    gi_wp2_with (gi_at_builtin; refine wpListIn_append_own _ rfl _ _ 26 rfl w.heap.size 22 i0 (.slice none 0 0) 1 24 Try.underlying26 hi hz0 hz1 hz2 rfl (by decide) _ _ _ rfl (hrow.alloc _) ⟨W.heap.size, 0, none⟩ 1 1 [x.v] rfl rfl (cell_one_new _ _ _) (by simp [Value.oneCell', Pay.v]) (by unfold maxLen; omega) (by omega) (by have := hB.size; simp; omega) ?_; intro v' w2 hown' hgrow _; obtain ⟨g', cap', rfl⟩ := ownsRow_succ hown'; obtain ⟨hv1, hv2, hr2, hk2, hb2⟩ := hv.appended (by decide) hrow hB.size (Nat.le_refl _) hown' hgrow; have hc1 := hv1.cell; have hf1 := hv1.frozen; have hend3 := ((hend.alloc _).kept hgrow (hend.not_row (by decide) hrow)).other (B' := w.heap.size) (by omega) (Value.slice (some ⟨g', 0, none⟩) (pre.length + 1) cap'); have hc3 := hend3.cell; have hf3 := hend3.frozen; have hpd : ∀ y ∈ pre ++ [x], Paid w.heap.size y (w2.setCell ⟨w.heap.size, 0, none⟩ (Value.slice (some ⟨g', 0, none⟩) (pre.length + 1) cap')) := (fun y hy => ((List.mem_append.1 hy).elim (fun h => hpaid y h) (fun h => by rw [List.mem_singleton.1 h]; exact hx)).appended hrow (by decide) hgrow |>.set hv1 (by decide) _))
    gi_region_with_o (refine ⟨trivial, ?_⟩; gi_at_call 13; refine (CallsIn.inRound l (callsIn_wide.2 (SZ.out _))).mono ?_; rintro e w' ⟨rfl, rfl⟩)
    all_goals gi_wp2
    all_goals (try go_bits)
    all_goals
      generalize w2.setCell ⟨w.heap.size, 0, none⟩ (Value.slice (some ⟨g', 0, none⟩) (pre.length + 1) cap') = w3 at *
      have hlen : (pre ++ [x]).length = pre.length + 1 := by simp
      have hmap : (pre ++ [x]).map Pay.v = pre.map Pay.v ++ [x.v] := by simp
      rw [hlen, hmap, HGL.out]
      have ez : ((z + (x.n + 8) : Nat) : Int) = (z : Int) + (8 + (x.n : Int)) := by omega
      rw [ez]
      generalize (z : Int) + (8 + (x.n : Int)) = q
      have hb3 := (hb2.setCell (p := ⟨w.heap.size + 1, 0, none⟩) (by show w.heap.size ≤ w.heap.size + 1; omega) (Value.int IntKind.i64 q)).drew
      have hr4 := hr2.kept (grownBy_setCell' w3 (w.heap.size + 1) (Value.int IntKind.i64 q)) (.inr (hend3.not_row (by decide) hr2).symm)
      have hp4 := fun y hy => (hpd y hy).set hend3 (by decide) (Value.int IntKind.i64 q)
      have hv4 := hv2.other (B' := w.heap.size + 1) (by omega) (Value.int IntKind.i64 q)
      have he4 := hend3.set (Value.int IntKind.i64 q)
      exact ⟨(hk2.trans ((KeepsOthers.setCell _ _ _).trans (KeepsOthers.drew _))).from _, hb3, ⟨⟨⟨_, hv4, hr4, trivial⟩, he4⟩, hp4, hB.trans hb3⟩⟩
  case done =>
    rintro D xs W hD ⟨r, hS⟩ ⟨⟨⟨v, hv, hrow, _⟩, hend⟩, hpaid, hB⟩ hK
    have hmx : Try.prog.follows .mixedOrders = true := by kernel_rfl
    have hc1 := hv.cell
    have hc2 := hend.cell
    have hK2 : W.drew.heap[D]? = some (Obj.deferred (some [])) := hK
    obtain ⟨A', c', rfl, hA', h1', h2', hbl⟩ := bl_of_paid (W := W.drew.putObj D (.deferred none)) (ownsRow_putObj (W := W.drew) hrow (.deferred none) hK2 rfl) (fun x hx => Paid.putObj (W := W.drew) (hpaid x hx) (.deferred none) hK2 rfl)
    have done' : ScanPost w b (.returned (.tuple #[.slice A' xs.length c', .int .i64 ((flat (xs.map (·.p))).length : Int)])) (W.drew.putObj D (.deferred none)) :=
      ⟨xs.map (·.p), r, A', xs.length, c', xs.map Pay.v, rfl, hid hS, hid hbl, hid hA', h1', h2', hB.drew.trans (belowK_b (w := w) (Nat.le_refl _) W.drew D _ _ (by omega) hK2 rfl rfl)⟩
    clear hbl
    gi_wp2
    gi_region
    all_goals gi_wp2
    all_goals refine ⟨by simp, .inl ⟨_, _, rfl, run_takeDeferred (w := W.drew) hK, ?_⟩⟩
    all_goals refine ⟨_, results_tmp2 rfl _ _ _, ?_⟩
    all_goals exact done'
/-- What All tells. -/
def AllPost (w : World) (b : List UInt8) (e : Ending) (w' : World) : Prop :=
  ∃ ps r A n c vs z, Hid (Scans b ps r) ∧ e = .returned (.tuple #[.slice A n c, .int .i64 z]) ∧ Hid (A = none → c = 0) ∧ n ≤ c ∧ c ≤ maxLen ∧ Below w.heap.size w w' ∧
    ((Hid (r = []) ∧ z = 0 ∧ Hid (BL w' w.heap.size w'.heap.size A n ps vs)) ∨ (Hid (r ≠ []) ∧ z = 4 ∧ A = none ∧ n = 0 ∧ Hid (BL w' w.heap.size w'.heap.size A n [] vs)))
theorem bl_nil (w : World) (lo hi : Nat) : BL w lo hi none 0 [] [] := ⟨Row.empty, rfl, fun k l h => by simp at h⟩
set_option maxHeartbeats 1000000 in
theorem all_any (A : Option Addr) (n c lo up : Nat) (b : List UInt8) (w : World) (hR : Row w lo up A n (U b)) (hA : A = none → c = 0) (hup : up ≤ w.heap.size) (hc : n ≤ c ∧ c ≤ maxLen) (hn : n ≤ 300000) :
    Calls Try.prog 10 #[.slice A n c] w (AllPost w b) := by
  have hbl : b.length = n := by have := hR.len; rwa [U_len] at this
  have S1 := hid (scan_any A n c lo up b w hR hA hup hc hn)
  clear hR hA
  go_enter Try.func10, Try.ntmps10
  go_wp2_with fail
  refine S1.out.mono ?_
  rintro e w1 ⟨ps, r, A1, n1, c1, vs, rfl, hS, hB, hA1, hc1, hc2, hb1⟩
  have hl : b.length = (flat ps).length + r.length := by have := congrArg List.length hS.out.bytes; rwa [List.length_append] at this
  obtain ⟨z, hz⟩ : ∃ z, z = (flat ps).length := ⟨_, rfl⟩
  rw [← hz] at hl ⊢
  clear hz
  have HB1 := hid hb1
  clear hb1
  by_cases hr : r = []
  · have hzn : z = n := by rw [hr] at hl; simp at hl; omega
    have HRR := hid hr
    clear hr hl
    have hlt : ¬ ((z : Int) < (n : Int)) := by omega
    have HZ := hid hzn
    clear hzn
    go_wp2
    go_ret2
    exact ⟨ps, r, A1, n1, c1, vs, 0, hS, rfl, hA1, hc1, hc2, HB1.out, .inl ⟨HRR, rfl, hB⟩⟩
  · have hlt : z < n := by have := List.length_pos_iff.2 hr; omega
    have HRR := hid hr
    clear hr hl
    go_wp2
    go_ret2
    exact ⟨ps, r, none, 0, 0, [], 4, hS, rfl, hid (fun _ => rfl), Nat.le_refl _, Nat.zero_le _, HB1.out, .inr ⟨HRR, rfl, rfl, rfl, hid (bl_nil _ _ _)⟩⟩
end Go.Proofs.Ytdbbgcbdkafghaa
