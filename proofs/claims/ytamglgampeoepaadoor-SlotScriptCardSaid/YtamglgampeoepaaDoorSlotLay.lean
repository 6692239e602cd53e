/-
  Contract of slot's lay.
-/
import Derived.Test.YtamglgampeoepaaDoorSlotLeast
namespace Go.Proofs.YtamglgampeoepaaDoor
set_option maxRecDepth 40000
open Go.RowKit Go.Joins

/-- The rows behind lay: the vector lies there, the words and the count don't tell it yet. -/
structure Laid (w : World) (g : Nat) (s : SSt) (st' : Sts) (vv tv rv : Value) (ws : List Nat) (f : Nat) : Prop where
  blk : Blk w g 60 (scells s vv tv rv f)
  vo : w.ownsRow 0 39 1 vv (st'.length * s.dim) (IK .i16 (flatS s.dim st'))
  to : w.ownsRow 0 63 1 tv ws.length (W64 ws)
  ro : w.ownsRow 0 3 1 rv s.tr.length (IK .i64 s.tr)
  vg : vv.ownBlock ≠ some g
  tg : tv.ownBlock ≠ some g
  rg : rv.ownBlock ≠ some g
  vt : vv.ownBlock = none ∨ vv.ownBlock ≠ tv.ownBlock
  vr : vv.ownBlock = none ∨ vv.ownBlock ≠ rv.ownBlock
  tr : tv.ownBlock = none ∨ tv.ownBlock ≠ rv.ownBlock
section
variable {w : World} {g : Nat} {s : SSt} {vv tv rv : Value} {ws : List Nat} {f : Nat}
theorem SRaw.laid {w' : World} {vv' : Value} {st' : Sts} {G : List Nat} (h : SRaw w g s vv tv rv ws f) (ht : Touch w w' G) (hG : ∀ b ∈ blocks g (.slice none 0 0) tv rv, b ≠ g → b ∉ G) (hb : Blk w' g 60 (scells s vv' tv rv f)) (vo : w'.ownsRow 0 39 1 vv' (st'.length * s.dim) (IK .i16 (flatS s.dim st')))
    (hr : ∀ e, vv'.ownBlock = some e → vv.ownBlock = some e ∨ w.heap.size ≤ e) : Laid w' g s st' vv' tv rv ws f := by
  refine ⟨hb, vo, own_touched h.to ht (fun e he => hG e (by simp [blocks, he]) (fun e2 => h.tg (by rw [he, e2]))), own_touched h.ro ht (fun e he => hG e (by simp [blocks, he]) (fun e2 => h.rg (by rw [he, e2]))), fun e => ?_, h.tg, h.rg, ?_, ?_, h.tr⟩
  · rcases hr g e with h1 | h1
    · exact h.vg h1
    · have := h.blk.lt; omega
  · cases hv : vv'.ownBlock with
    | none => exact .inl rfl
    | some e =>
      right
      intro e2
      rcases hr e hv with h2 | h2
      · rcases h.vt with h1 | h1
        · rw [h1] at h2; cases h2
        · exact h1 (by rw [h2, e2])
      · have := (h.to.lt e e2.symm).2; omega
  · cases hv : vv'.ownBlock with
    | none => exact .inl rfl
    | some e =>
      right
      intro e2
      rcases hr e hv with h2 | h2
      · rcases h.vr with h1 | h1
        · rw [h1] at h2; cases h2
        · exact h1 (by rw [h2, e2])
      · have := (h.ro.lt e e2.symm).2; omega
/-- The vectors' row with a vector more. -/
theorem vectored (h : SRaw w g s vv tv rv ws f) (hf : SFit s) {v : List Int} (hv : v.length = s.dim) {v2 : Value} {w2 : World} (own2 : w2.ownsRow 0 39 1 v2 (s.st.length * s.dim + s.dim) (IK .i16 (flatS s.dim s.st) ++ IK .i16 v)) (grow2 : w.grownBy w2 vv.ownBlock) (at2 : v2.ownBlock = vv.ownBlock ∨ v2.ownBlock = some w.heap.size) :
    Laid (w2.setCell ⟨g, 2, none⟩ v2) g s (putS s.st s.st.length v) v2 tv rv ws f ∧ Touch w (w2.setCell ⟨g, 2, none⟩ v2) (blocks g vv tv rv) ∧ ∀ b ∈ blocks g v2 tv rv, b ∈ blocks g vv tv rv ∨ w.heap.size ≤ b := by
  have hgl := h.blk.lt
  have hvv : ∀ e, v2.ownBlock = some e → vv.ownBlock = some e ∨ w.heap.size ≤ e := fun e he => by
    rcases at2 with h1 | h1
    · exact .inl (h1 ▸ he)
    · rw [h1] at he; injection he with he; right; omega
  have hvg : v2.ownBlock ≠ some g := fun e => by
    rcases hvv g e with h1 | h1
    · exact h.vg h1
    · omega
  have k2 : Blk w2 g 60 (scells s vv tv rv f) := h.blk.grown grow2 (Ne.symm h.vg)
  have t1 : Touch w w2 vv.ownBlock.toList := touch_grown grow2 (fun e he => by rw [he]; simp)
  have t2 : Touch w (w2.setCell ⟨g, 2, none⟩ v2) (g :: vv.ownBlock.toList) := (t1.mono (fun _ _ hi => List.mem_cons_of_mem _ hi)).set List.mem_cons_self
  refine ⟨h.laid t2 (fun b hb hne hm => ?_) (k2.set 2 v2) ?_ hvv, t2.mono (fun i _ hi => ?_), fun b hb => ?_⟩
  · simp only [blocks, List.mem_cons, List.mem_append, Option.mem_toList] at hb hm
    rcases hm with hm | hm
    · exact hne hm
    · rcases hb with hb | hb | hb | hb
      · exact hne hb
      · cases hb
      · rcases h.vt with h1 | h1
        · rw [h1] at hm; cases hm
        · exact h1 (Eq.trans hm (Eq.symm hb))
      · rcases h.vr with h1 | h1
        · rw [h1] at hm; cases hm
        · exact h1 (Eq.trans hm (Eq.symm hb))
  · have e1 : flatS s.dim (putS s.st s.st.length v) = flatS s.dim s.st ++ v := by rw [flat_put hf.fit hv, if_neg (by omega)]
    have e2 : (putS s.st s.st.length v).length * s.dim = s.st.length * s.dim + s.dim := by rw [put_len (Nat.le_refl _), show max s.st.length (s.st.length + 1) = s.st.length + 1 by omega, Nat.succ_mul]
    rw [e1, e2, IK_append]
    exact ownsRow_setCell_other own2 hvg _
  · simp only [blocks, List.mem_cons, List.mem_append] at hi ⊢
    rcases hi with hi | hi
    · exact .inl hi
    · exact .inr (.inl hi)
  · simp only [blocks, List.mem_cons, List.mem_append, Option.mem_toList] at hb ⊢
    rcases hb with hb | hb | hb | hb
    · exact .inl (.inl hb)
    · rcases hvv b hb with h1 | h1
      · exact .inl (.inr (.inl h1))
      · exact .inr h1
    · exact .inl (.inr (.inr (.inl hb)))
    · exact .inl (.inr (.inr (.inr hb)))
/-- A row of the call's own with cells laid over it. -/
def over (cur : Array Value) (off : Nat) (cs : List Value) : Array Value := (cur.toList.take off ++ (cs ++ cur.toList.drop (off + cs.length))).toArray
theorem own_over {w : World} {e : TypeId} {b n cap off : Nat} {xs cs : List Value} (h : w.ownsRow 0 e 1 (.slice (some ⟨b, 0, none⟩) n cap) n xs) (hf : off + cs.length ≤ n) :
    ∃ cur, w.heap[b]? = some (.cells cur e (0, 0)) ∧ off + cs.length ≤ cur.size ∧ (w.setRow b (over cur off cs)).ownsRow 0 e 1 (.slice (some ⟨b, 0, none⟩) n cap) n (splice xs off cs) := by
  obtain ⟨h1, h2⟩ := h
  rcases h2 with ⟨h2, _⟩ | ⟨b', cap', cur, h2, hb, hg, hnc, hcm, hcs, ht⟩
  · cases h2
  injection h2 with h21 _ h23
  injection h21 with h21
  injection h21 with h21
  subst h21 h23
  rw [Nat.mul_one] at hcs ht h1
  have hl : cur.toList.length = cap := by rw [Array.length_toList]; exact hcs
  refine ⟨cur, hg, by omega, by rw [Nat.mul_one, length_splice _ _ _ (by omega)]; exact h1, .inr ⟨b, cap, _, rfl, hb, setRow_heap w b cur _ e (0, 0) hg, hnc, hcm, ?_, ?_⟩⟩
  · rw [Nat.mul_one]
    simp only [over, List.size_toArray, List.length_append, List.length_take, List.length_drop, hl]
    omega
  · rw [Nat.mul_one]
    unfold over splice
    rw [List.toList_toArray, ← ht, List.take_append, List.take_append, List.take_take, List.take_take, List.drop_take, List.length_take, hl, show min n off = off by omega, show min off n = off by omega, List.take_of_length_le (show cs.length ≤ n - min off cap by omega)]
    congr 2
    rw [show n - min off cap - cs.length = n - (off + cs.length) by omega]
theorem IK_splice (K : IntKind) (l cs : List Int) (k : Nat) : IK K (splice l k cs) = splice (IK K l) k (IK K cs) := by unfold splice IK; simp [List.map_append, List.map_take, List.map_drop]
theorem touch_setRow {w : World} {b : Nat} {cs : Array Value} : Touch w (w.setRow b cs) [b] := ⟨rfl, rfl, rfl, by simp, fun i _ hn => setRow_other w b i cs (fun e => hn (by rw [e]; exact List.mem_cons_self))⟩
/-- A vector laid over another one. -/
theorem overed (h : SRaw w g s vv tv rv ws f) {b n cV : Nat} {cur : Array Value} {st' : Sts} {cs : List Int} (hvv : vv = .slice (some ⟨b, 0, none⟩) (s.st.length * s.dim) cV) (ho : (w.setRow b (over cur (n * s.dim) (IK .i16 cs))).ownsRow 0 39 1 (.slice (some ⟨b, 0, none⟩) (s.st.length * s.dim) cV) (s.st.length * s.dim) (splice (IK .i16 (flatS s.dim s.st)) (n * s.dim) (IK .i16 cs)))
    (hl : st'.length = s.st.length) (he : flatS s.dim st' = splice (flatS s.dim s.st) (n * s.dim) cs) : Laid (w.setRow b (over cur (n * s.dim) (IK .i16 cs))) g s st' vv tv rv ws f ∧ Touch w (w.setRow b (over cur (n * s.dim) (IK .i16 cs))) (blocks g vv tv rv) := by
  subst hvv
  have hgb : g ≠ b := fun e => h.vg (by rw [e]; rfl)
  refine ⟨h.laid touch_setRow (fun x hx hne hm => ?_) (Blk.touch h.blk touch_setRow (fun hm => hgb (List.mem_singleton.1 hm))) (by rw [hl, he, IK_splice]; exact ho) (fun e he => .inl he), touch_setRow.mono (fun i _ hi => ?_)⟩
  · have hxb := List.mem_singleton.1 hm
    subst hxb
    simp only [blocks, List.mem_cons, List.mem_append, Option.mem_toList] at hx
    rcases hx with hx | hx | hx | hx
    · exact hne hx
    · cases hx
    · rcases h.vt with h1 | h1
      · cases h1
      · exact h1 (Eq.symm hx)
    · rcases h.vr with h1 | h1
      · cases h1
      · exact h1 (Eq.symm hx)
  · rw [List.mem_singleton] at hi
    subst hi
    simp [blocks, Value.ownBlock]
def Lays9 (w : World) (g : Nat) (s : SSt) (n : Nat) (v : List Int) (vv tv rv : Value) (ws : List Nat) (f : Nat) (e : Ending) (w' : World) : Prop :=
  ∃ vv', e = .returned (.tuple #[]) ∧ Laid w' g s (putS s.st n v) vv' tv rv ws f ∧ Touch w w' (blocks g vv tv rv) ∧ ∀ b ∈ blocks g vv' tv rv, b ∈ blocks g vv tv rv ∨ w.heap.size ≤ b
set_option maxHeartbeats 1000000 in
theorem lay_s (h : SRaw w g s vv tv rv ws f) (hf : SFit s) (n : Nat) (hn : n ≤ s.st.length) (A : Option Addr) (c lo : Nat) (v : List Int) (hR : Row w lo w.heap.size A s.dim (IK .i16 v)) (hA : A = none → c = 0) :
    Calls Tryd.prog 32 #[ptr g, .int .i64 (n : Int), .slice A s.dim c] w (Lays9 w g s n v vv tv rv ws f) := by
  obtain ⟨hd1, hd2⟩ := hf.dim
  obtain ⟨hr1, hr2⟩ := hf.room
  have hw := hf.wide
  have hvl : v.length = s.dim := by have := hR.len; rwa [IK_len] at this
  have hbig : s.st.length * s.dim ≤ 17179869184 := by
    have := Nat.mul_le_mul (show s.st.length ≤ 16777216 by omega) hd2
    omega
  have hnle : n * s.dim ≤ s.st.length * s.dim := Nat.mul_le_mul_right _ hn
  obtain ⟨AV, cV, rfl, hAV, hcV⟩ := own_shape' h.vo
  have c0 := h.c0
  have c2 := h.c2
  have HR := hid h
  have HF := hid hf
  have HVL := hid hvl
  obtain ⟨p, hp⟩ : ∃ p, p = n * s.dim := ⟨_, rfl⟩
  obtain ⟨len, hlen⟩ : ∃ len, len = s.st.length * s.dim := ⟨_, rfl⟩
  have m1 : (n : Int) * (s.dim : Int) = (p : Int) := by rw [hp]; simp
  have b1 : p ≤ 9223372036854775807 := by omega
  have HLEN := hid hlen
  have HRW := hid hR
  have HAA := hid hA
  rw [← hlen] at c2
  rcases Nat.lt_or_eq_of_le hn with hlt | heq
  · have hpl : p + s.dim ≤ len := by
      have := Nat.mul_le_mul_right s.dim (show n + 1 ≤ s.st.length by omega)
      rw [Nat.succ_mul] at this
      omega
    have hne : ((p : Int) == (len : Int)) = false := by simp; omega
    have PLX := hid (fun k : Nat => place_s (HR.out.draws (k := k)) HF.out n hlt)
    have HLT := hid hlt
    have HP := hid hp
    have HPL := hid hpl
    have hmin : s.dim ≤ 1024 := hd2
    have w1 := wrap64_nat b1
    have w3 := wrap_nat b1
    have usz := hid (show (Tryd.prog.info? 39).map (·.size) = some 1 by kernel_rfl)
    clear h hf hR hvl hp hlen hnle hbig hn hA hAV hcV hpl hlt
    go_enter Tryd.func32, Tryd.ntmps32
    go_wp2
    go_quiet (fail)
    obtain ⟨b, cap, hvv, hle, PL⟩ := PLX.out nq
    injection hvv with hv1 _ hv3
    subst hv1 hv3
    have HPLC := hid PL
    clear PL PLX hle
    go_wp2_with fail
    refine HPLC.out.mono ?_
    rintro e w4 ⟨rfl, k4, rfl⟩
    obtain ⟨wq, hwq⟩ : ∃ wq, wq = (w.drewN nq).drewN k4 := ⟨_, rfl⟩
    have HRq : Hid (SRaw wq g s (.slice (some ⟨b, 0, none⟩) (s.st.length * s.dim) cV) tv rv ws f) := hid (by rw [hwq]; exact (HR.out.draws).draws)
    have RWq : Hid (Row wq lo wq.heap.size A s.dim (IK .i16 v)) := hid (by rw [hwq]; exact HRW.out)
    have HTq : Hid (Touch w wq (blocks g (.slice (some ⟨b, 0, none⟩) (s.st.length * s.dim) cV) tv rv)) := hid (by rw [hwq]; exact (touch_drewN w nq _).drews k4)
    rw [← hwq]
    obtain ⟨cur, hcur, hfit, HOV⟩ := own_over HRq.out.vo (off := n * s.dim) (cs := IK .i16 v) (by rw [IK_len, HVL.out, ← HP.out, ← HLEN.out]; exact HPL.out)
    have HOVX := hid HOV
    have HCUR := hid hcur
    have hdpos : 0 < s.dim := hd1
    obtain ⟨sb, soff, rfl, _, _, hscell⟩ := RWq.out.2 hdpos
    have hlenv : (IK .i16 v).length = s.dim := by rw [IK_len]; exact HVL.out
    have HSC := hid hscell
    clear HOV hwq c0 c2 m1 b1 w1 w3 hcur
    have RUN := run_copy_row (P := Tryd.prog) wq 32 32 3 39 b (n * s.dim) s.dim s.dim ⟨sb, soff, none⟩ s.dim c cur 39 (IK .i16 v) Tryd.underlying32 usz.out HCUR.out (by rw [hlenv]; simp) (fun j u hu => by rw [addr_add]; exact HSC.out j u hu) hfit (IK_one _ _)
    rw [show (cur.toList.take (n * s.dim) ++ IK .i16 v ++ cur.toList.drop (n * s.dim + (IK .i16 v).length)).toArray = over cur (n * s.dim) (IK .i16 v) by unfold over; rw [List.append_assoc]] at RUN
    clear hscell hlenv hfit
    go_wp2
    go_end0
    obtain ⟨L5, T5⟩ := overed HRq.out (st' := putS s.st n v) (cs := v) rfl HOVX.out (by rw [put_len (Nat.le_of_lt HLT.out)]; have := HLT.out; omega) (by rw [flat_put HF.out.fit HVL.out, if_pos HLT.out])
    exact ⟨_, rfl, L5, HTq.out.then T5 (fun _ _ hi => hi), fun b hb => .inl hb⟩
  · have heqp : p = len := by rw [hp, hlen, heq]
    have HEQ := hid heq
    subst heqp
    obtain ⟨i0, hi, hz0, hz1, hz2⟩ := info_parts info16
    have OWN := hid (show w.ownsRow 0 39 1 (.slice AV p cV) p (IK .i16 (flatS s.dim s.st)) by have := HR.out.vo; rw [HLEN.out]; exact this)
    have hsd : s.dim ≤ 1024 := hd2
    have hp17 : p ≤ 17179869184 := by omega
    have HG := h.blk.lt
    have w1 := wrap64_nat b1
    have w3 := wrap_nat b1
    clear h hf hR hvl hp hlen hnle hbig heq hn hA hAV hcV
    go_enter Tryd.func32, Tryd.ntmps32
    go_wp2
    go_quiet (fail)
    obtain ⟨wq, hwq⟩ : ∃ wq, wq = w.drewN nq := ⟨_, rfl⟩
    have HRq : Hid (SRaw wq g s (.slice AV (s.st.length * s.dim) cV) tv rv ws f) := hid (by rw [hwq]; exact HR.out.draws)
    have OWNq : Hid (wq.ownsRow 0 39 1 (.slice AV p cV) p (IK .i16 (flatS s.dim s.st))) := hid (by rw [hwq]; exact OWN.out)
    have RWq : Hid (Row wq lo wq.heap.size A s.dim (IK .i16 v)) := hid (by rw [hwq]; exact HRW.out)
    have HTq : Hid (Touch w wq (blocks g (.slice AV (s.st.length * s.dim) cV) tv rv)) := hid (by rw [hwq]; exact touch_drewN w nq _)
    have d2 : wq.cell? ⟨g, 2, none⟩ = some (.slice AV p cV) := by rw [hwq]; exact c2
    have hgq : g < wq.heap.size := by rw [hwq]; exact HG
    rw [← hwq]
    have HWQ := hid hwq
    clear hwq c0 c2 m1 b1 w1 w3
    go_wp2_with (at_builtin; go_loud (refine wpList_append_row _ rfl _ _ 32 rfl 0 39 i0 (.int .i16 0) 2 Tryd.underlying32 hi hz0 hz1 hz2 rfl (.slice AV p cV) p (IK .i16 (flatS s.dim s.st)) rfl OWNq.out lo wq.heap.size A s.dim c rfl HAA.out (IK .i16 v) RWq.out (IK_one _ _) (by unfold maxLen; omega) (by omega) (Nat.zero_le _) ?_; intro v2 w2 own2 grow2 at2; have own3 := own2; have grow3 := grow2; have at3 := at2; rw [HLEN.out] at own3 grow3 at3; obtain ⟨R3, T3, B3⟩ := vectored HRq.out HF.out HVL.out own3 grow3 at3; have k2 := HRq.out.blk.grown grow3 (Ne.symm HRq.out.vg); clear own3 grow3 at3; have f2 := k2.frozen 2; have c2' := k2.cell 2; obtain ⟨A2, c2, rfl, _, _⟩ := own_shape' own2; have HR3 := hid R3; have HT3 := hid T3; have HB3 := hid B3; clear R3 T3 B3 own2 grow2 at2))
    go_end0
    exact ⟨_, rfl, by rw [HEQ.out]; exact HR3.out, HTq.out.then HT3.out (fun _ _ hi => hi), fun b hb => by
      rcases HB3.out b hb with h | h
      · exact .inl h
      · right; rw [HWQ.out] at h; exact h⟩
end
end Go.Proofs.YtamglgampeoepaaDoor
