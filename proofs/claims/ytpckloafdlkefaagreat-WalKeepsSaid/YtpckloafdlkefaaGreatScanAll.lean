/-
  Contract of the closure of frame's payloads, by the law of XTold.
  Chapter 7's example, asked ahead of each law.
  Contracts of frame's payloads, Scan and All.
  Slices that read as bytes, each; an append at an operation that is asked for.
-/
import Derived.Shelf.Abstract
import Derived.Shelf.RegionOpen
import Derived.WalkKit
import Derived.OwnWalkIn
import Derived.TacticsInMore
import Derived.LoopNIn
import Derived.LoopIn
import Derived.Test.YtpckloafdlkefaaGreatFrameOne
import Derived.Test.YtpckloafdlkefaaGreatTold
import Derived.Test.YtpckloafdlkefaaGreatListsOf
import Derived.Test.YtpckloafdlkefaaGreatMadeBytes
import Derived.RangeFuncNested
namespace Go.Proofs.YtpckloafdlkefaaGreat
set_option maxRecDepth 40000
open Go.RowKit Go.Shelf Go.Joins Regs
attribute [local go_sem] Oper.semAt_some

/-- A payload that was handed over: its bytes, and the slice that holds them. -/
structure Pay where
  p : List UInt8
  A : Option Addr
  n : Nat
  c : Nat
def Pay.v (x : Pay) : Value := .slice x.A x.n x.c
/-- It lies in memory of its own, from n₀ on. -/
def Paid (n₀ : Nat) (x : Pay) (W : World) : Prop := x.p.length = x.n ∧ (x.A = none → x.c = 0) ∧ W.ownsRow n₀ 5 1 (.slice x.A x.n x.c) x.n (U x.p)
theorem flat_snoc (l : List (List UInt8)) (p : List UInt8) : flat (l ++ [p]) = flat l ++ frm p := by rw [flat_append, flat_cons]; simp [flat]

set_option maxRecDepth 100000 in
set_option maxHeartbeats 2000000 in
theorem payloads1_in (n₀ Bx lo up : Nat) (A0 : Option Addr) (m0 c0 : Nat) (b : List UInt8) (w : World) (hBx : Bx < w.heap.size) (hn₀ : n₀ ≤ w.heap.size) (hup : up ≤ n₀) (hR : Row w lo up A0 m0 (U b)) (hA : A0 = none → c0 = 0) (hc : m0 ≤ c0 ∧ c0 ≤ maxLen) (hm : m0 ≤ 300000)
    (hbox : w.cell? ⟨Bx, 0, none⟩ = some (.slice A0 m0 c0)) :
    Tells Fence.wide 3 Tryz.prog 111 #[.pointer (some ⟨Bx, 0, none⟩)] (fun x : Pay => #[.slice x.A x.n x.c]) n₀ (Paid n₀) (fun xs => (flat (xs.map (·.p))).length ≤ b.length) (fun xs => ∃ r, Scans b (xs.map (·.p)) r) w := by
  intro l J W hW hJ hY h0
  have hbox1 : W.cell? ⟨Bx, 0, none⟩ = some (.slice A0 m0 c0) := (hW.cell (p := ⟨Bx, 0, none⟩) hBx).trans hbox
  have hR1 : Row W lo up A0 m0 (U b) := hR.below hW (by omega)
  have hWs : n₀ ≤ W.heap.size := Nat.le_trans hn₀ hW.size
  have HJ := hid hJ
  have HY := hid hY
  have HR1 := hid hR1
  have HA := hid hA
  clear hJ hY hR1 hA hR
  refine callsIn_of_wp Tryz.func111 rfl trivial ?_ rfl
  simp only [Tryz.ntmps111, List.size_toArray, List.length_cons, List.length_nil, Nat.reduceAdd, Nat.reduceSub, Array.replicate_succ, Array.replicate_zero, List.push_toArray, List.append_toArray, List.nil_append, List.cons_append]
  gi_wp2
  gi_loopw [3] (fun v wr => ∃ (pre : List Pay) (rest : List UInt8) (A : Option Addr) (m c : Nat), v = .slice A m c ∧ Hid (Row wr lo up A m (U rest)) ∧ Hid (A = none → c = 0) ∧ m ≤ c ∧ c ≤ maxLen ∧ m ≤ 300000 ∧ Hid (b = flat (pre.map (·.p)) ++ rest) ∧ Hid (∀ x ∈ pre, x.p.length ≤ 33554432) ∧ Hid (J pre wr) ∧ n₀ ≤ wr.heap.size)
    (fun v _ => match v with | .slice _ m _ => m | _ => 0)
  case atStart => exact ⟨[], b, A0, m0, c0, rfl, HR1, HA, hc.1, hc.2, hm, hid (by simp [flat]), hid (fun x hx => by cases hx), hid h0, hWs⟩
  case round =>
    obtain ⟨pre, rest, A, m, c, rfl, HRr, HAr, hmc, hcm, hm3, HB, HP, HJr, hsz⟩ := hrel
    have O1 := hid (one_any A m c lo up rest wr HRr.out HAr.out (by omega) hm3 ⟨hmc, hcm⟩)
    by_cases hz : (one rest).1 = 0
    · obtain ⟨p, k, hone⟩ := one_zero hz
      clear hz
      obtain ⟨hp1, hk, hbs, hkl⟩ := one_ok hone
      have hrl : rest.length = m := by have := HRr.out.len; rwa [U_len] at this
      have hkm : k ≤ m := by omega
      have hk8 : 8 ≤ k := by omega
      rw [hone] at O1
      have HBS := hid hbs
      have HP1 := hid hp1
      have HKE := hid hk
      have HRL := hid hrl
      clear hone hbs hp1 hk hkl hrl
      have hd := HRr.out.drop (k := k) (cap := c) hkm hmc
      rw [U_drop] at hd
      have hbs := HBS.out
      clear HBS
      generalize rest.drop k = rs at hd hbs
      have HD := hid hd
      have HBS := hid hbs
      clear hd hbs
      have GE : Hid (∀ A2 n2 c2, b = flat ((pre ++ [(⟨p, A2, n2, c2⟩ : Pay)]).map (·.p)) ++ rs) := hid fun A2 n2 c2 => by
        rw [List.map_append, List.map_cons, List.map_nil, flat_snoc, List.append_assoc, ← HBS.out]
        exact HB.out
      have GB : Hid (∀ A2 n2 c2, (flat ((pre ++ [(⟨p, A2, n2, c2⟩ : Pay)]).map (·.p))).length ≤ b.length) := hid fun A2 n2 c2 => by
        have := congrArg List.length (GE.out A2 n2 c2)
        rw [List.length_append] at this
        omega
      rcases Nat.lt_or_ge k c with hkc | hkc
      case' inl =>
        have hkc2 : ¬ c = k := by omega
        have hki : ((k : Int) == (c : Int)) = false := by simp; omega
      case' inr =>
        obtain rfl : c = k := by omega
      all_goals
        gi_wp2_with (refine ⟨trivial, ?_⟩; gi_at_call 112; refine (callsIn_wide.2 O1.out).mono ?_; rintro e w2 ⟨A2, n2, c2, rfl, hl2, hA2, hown2, hb2⟩; obtain ⟨fn, tmps, assign, body, hy, hR⟩ := HY.out pre ⟨p, A2, n2, c2⟩ w2 (HJ.out _ _ _ HJr.out hb2) ⟨hl2.out, hA2.out, ownsRow_le hown2 hsz⟩ (GB.out A2 n2 c2); dsimp only at hy)
        refine hR.mono ?_
        rintro e w3 ⟨rfl, hJ3, hb3⟩
        have HJ3 := hid hJ3
        have HB3 := hid ((hb2.mono hsz).trans hb3)
        have HS3 : n₀ ≤ w3.heap.size := Nat.le_trans hsz HB3.out.size
        clear hJ3 hb3 hy hR hb2 hown2
        have HB' := hid (GE.out A2 n2 c2)
        have HP' : Hid (∀ x ∈ pre ++ [(⟨p, A2, n2, c2⟩ : Pay)], x.p.length ≤ 33554432) := hid (fun x hx => by
          rcases List.mem_append.1 hx with hx | hx
          · exact HP.out x hx
          · rw [List.mem_singleton] at hx
            subst hx
            exact HP1.out)
        gi_wp2
        go_roundw
        case rel =>
          first
            | (refine ⟨_, _, _, _, _, rfl, hid ?_, hid ?_, ?_, ?_, ?_, HB', HP', HJ3, HS3⟩
               · have := HD.out
                 rw [if_neg hkc2] at this
                 exact this.below HB3.out hup
               · intro e
                 cases A with
                 | none => have := HAr.out rfl; omega
                 | some a => cases e
               · omega
               · omega
               · omega)
            | (refine ⟨_, _, _, _, _, rfl, hid ?_, hid ?_, ?_, ?_, ?_, HB', HP', HJ3, HS3⟩
               · have := HD.out
                 have e0 : m - c = 0 := by omega
                 rw [if_pos trivial, e0] at this
                 exact this.below HB3.out hup
               · intro _; rfl
               · omega
               · omega
               · omega)
        case measure => simp; omega
    · obtain ⟨z, hzz⟩ : ∃ z, z = (one rest).1 := ⟨_, rfl⟩
      have hr2 := one_code rest hz
      have hone : one rest = (z, [], 0) := by rw [hzz, ← hr2]
      rw [hone] at O1
      have HSTOP := hid hz
      rw [← hzz] at hz
      clear hone hr2 hzz
      have hzb : (z != 0) = true := by simpa using hz
      gi_wp2_with (refine ⟨trivial, ?_⟩; gi_at_call 112; refine (callsIn_wide.2 O1.out).mono ?_; rintro e w2 ⟨A2, n2, c2, rfl, _, _, _, hb2⟩)
      refine ⟨fun _ h => (by cases h), ?_⟩
      gi_wp2
      refine bodyPost_ret (results_none rfl _ _ _) rfl ?_
      exact ⟨⟨_, rfl⟩, pre, ⟨rest, ⟨HB.out, fun q hq => by obtain ⟨x, hx, rfl⟩ := List.mem_map.1 hq; exact HP.out x hx, HSTOP.out⟩⟩, HJ.out _ _ _ HJr.out hb2⟩
end Go.Proofs.YtpckloafdlkefaaGreat
namespace Go.Proofs.YtpckloafdlkefaaGreat
set_option maxRecDepth 40000
open Go.RowKit Go.Joins Regs

theorem own_caps {w : World} {base : Nat} {e : TypeId} {A : Option Addr} {n c : Nat} {xs : List Value} (h : w.ownsRow base e 1 (.slice A n c) n xs) : n ≤ c ∧ c ≤ maxLen := by
  rcases h.2 with ⟨e, _⟩ | ⟨g, cap, cur, e, _, _, h1, h2, _⟩
  · simp only [Value.slice.injEq] at e
    obtain ⟨_, e2, e3⟩ := e
    rw [e2, e3]
    exact ⟨Nat.le_refl _, Nat.zero_le _⟩
  · simp only [Value.slice.injEq] at e
    obtain ⟨_, _, e3⟩ := e
    rw [e3]
    exact ⟨h1, h2⟩
theorem hdr_nil : hdr [] = [0, 0, 0, 0] := by decide +kernel
theorem one_self {p : List UInt8} (h : p.length ≤ 33554432) : one (frm p) = (0, p, 8 + p.length) := by
  have := one_frm h []
  rwa [List.append_nil] at this
end Go.Proofs.YtpckloafdlkefaaGreat
namespace Go.Proofs.YtpckloafdlkefaaGreat
set_option maxRecDepth 40000
open Go.RowKit Go.Shelf Go.Joins Regs
attribute [local go_sem] Oper.semAt_some

/-- Two slices that own their rows, of unlike elements, have unlike blocks. -/
theorem own_apart {w : World} {b b' s s' k k' : Nat} {e e' : TypeId} {v v' : Value} {xs xs' : List Value} (hne : e ≠ e') (h : w.ownsRow b e s v k xs) (h' : w.ownsRow b' e' s' v' k' xs') : v.ownBlock = none ∨ v.ownBlock ≠ v'.ownBlock := by
  rcases h.2 with ⟨rfl, _⟩ | ⟨g, cap, cur, rfl, _, hg, _⟩
  · exact .inl rfl
  · right
    intro ee
    rcases h'.2 with ⟨rfl, _⟩ | ⟨g', cap', cur', rfl, _, hg', _⟩
    · simp [Value.ownBlock] at ee
    · obtain rfl : g = g' := by simpa [Value.ownBlock] using ee
      rw [hg] at hg'
      simp at hg'
      exact hne hg'.2
theorem Paid.kept {n₀ : Nat} {x : Pay} {W W' : World} {row : Option Nat} (h : Paid n₀ x W) (hg : W.grownBy W' row) (hne : (Value.slice x.A x.n x.c).ownBlock = none ∨ (Value.slice x.A x.n x.c).ownBlock ≠ row) : Paid n₀ x W' := ⟨h.1, h.2.1, h.2.2.kept hg hne⟩
theorem paid_own (n₀ B : Nat) : OwnFrom B (fun (pre : List Pay) W => ∀ x ∈ pre, Paid n₀ x W) := fun pre X Y row hs hg hr x hx => by
  refine (hs x hx).kept hg ?_
  rcases (hs x hx).2.2.2 with ⟨e, _⟩ | ⟨g, cap, cur, e, _, hgb, _⟩
  · rw [e]; exact .inl rfl
  · rw [e]
    refine .inr fun e' => ?_
    obtain ⟨_, o, ho, hc⟩ := hr g (by simpa [Value.ownBlock] using e'.symm)
    rw [hgb] at ho
    cases ho
    cases hc
theorem Paid.set {n₀ : Nat} {x : Pay} {W : World} (h : Paid n₀ x W) {B : Nat} {t : TypeId} {u : Value} (hb : Boxed W B t u) (ht : t ≠ 5) (v' : Value) : Paid n₀ x (W.setCell ⟨B, 0, none⟩ v') :=
  h.kept (grownBy_setCell' W B v') (.inr (hb.not_row ht h.2.2).symm)
theorem Paid.appended {n₀ : Nat} {x : Pay} {W w2 : World} (h : Paid n₀ x W) {e : TypeId} {v : Value} {k : Nat} {xs : List Value} {tmp : Obj} (hrow : W.ownsRow n₀ e 1 v k xs) (he : 5 ≠ e) (hgrow : (W.alloc tmp).grownBy w2 v.ownBlock) : Paid n₀ x w2 := by
  have h1 : Paid n₀ x (W.alloc tmp) := h.kept (World.grownBy_alloc W tmp none) (by cases hh : (Value.slice x.A x.n x.c).ownBlock <;> simp)
  exact h1.kept hgrow (own_apart he h1.2.2 (hrow.alloc tmp))
/-- A row of payloads, each in memory of its own, is a list of bytes. -/
theorem bl_of_paid {W : World} {n₀ : Nat} {t : TypeId} {v : Value} {xs : List Pay} (hrow : W.ownsRow n₀ t 1 v xs.length (xs.map Pay.v)) (hp : ∀ x ∈ xs, Paid n₀ x W) :
    ∃ A c, v = .slice A xs.length c ∧ (A = none → c = 0) ∧ xs.length ≤ c ∧ c ≤ maxLen ∧ BL W n₀ W.heap.size A xs.length (xs.map (·.p)) (xs.map Pay.v) := by
  obtain ⟨A, c, rfl, hA, _⟩ := own_shape hrow
  obtain ⟨h1, h2⟩ := own_caps hrow
  refine ⟨A, c, rfl, hA, h1, h2, Row.of_own hrow, by simp, fun k l hk => ?_⟩
  rw [List.getElem?_map] at hk
  cases hx : xs[k]? with
  | none => rw [hx] at hk; cases hk
  | some x =>
    rw [hx] at hk
    simp only [Option.map_some, Option.some.injEq] at hk
    subst hk
    obtain ⟨q1, q2, q3⟩ := hp x (List.mem_of_getElem? hx)
    have qc := own_caps q3
    exact ⟨x.A, x.n, x.c, by rw [List.getElem?_map, hx]; rfl, Row.of_own q3, q2, qc.1, qc.2⟩
theorem Paid.putObj {n₀ : Nat} {x : Pay} {W : World} (h : Paid n₀ x W) {l : Nat} {o : Obj} (o' : Obj) (hl : W.heap[l]? = some o) (ho : o.isCells = false) : Paid n₀ x (W.putObj l o') := ⟨h.1, h.2.1, ownsRow_putObj h.2.2 o' hl ho⟩
theorem flat_len_snoc (l : List (List UInt8)) (p : List UInt8) : (flat (l ++ [p])).length = (flat l).length + (p.length + 8) := by rw [flat_snoc, List.length_append, frm_len]
theorem flat_many (l : List (List UInt8)) : 8 * l.length ≤ (flat l).length := by
  induction l with
  | nil => exact Nat.zero_le _
  | cons p l ih => rw [flat_cons, List.length_append, frm_len, List.length_cons]; omega
set_option maxHeartbeats 1000000 in
theorem payloads_any (A : Option Addr) (n c : Nat) (w : World) :
    Calls Tryz.prog 101 #[.slice A n c] w fun e w' => e = .returned (.func (.func 111) #[] #[.pointer (some ⟨w.heap.size, 0, none⟩)]) ∧ w' = w.alloc (.cells #[.slice A n c] 33) := by
  go_enter Tryz.func101, Tryz.ntmps101
  go_wp2
  go_ret
  exact ⟨rfl, rfl⟩
/-- What Scan tells: the payloads in memory of their own, and how long their frames are. -/
def ScanPost (w : World) (b : List UInt8) (e : Ending) (w' : World) : Prop :=
  ∃ ps r A n c vs, e = .returned (.tuple #[.slice A n c, .int .i64 ((flat ps).length : Int)]) ∧ Hid (Scans b ps r) ∧ Hid (BL w' w.heap.size w'.heap.size A n ps vs) ∧ Hid (A = none → c = 0) ∧ n ≤ c ∧ c ≤ maxLen ∧ Below w.heap.size w w'
theorem info_slice : (Tryz.prog.info? 33).map (fun i => (i.zero, i.size, i.bytes)) = some (some (.slice none 0 0), 1, 24) := by kernel_rfl
set_option maxRecDepth 100000 in
set_option maxHeartbeats 2000000 in
theorem scan_any (A : Option Addr) (n c lo up : Nat) (b : List UInt8) (w : World) (hR : Row w lo up A n (U b)) (hA : A = none → c = 0) (hup : up ≤ w.heap.size) (hc : n ≤ c ∧ c ≤ maxLen) (hn : n ≤ 300000) :
    Calls Tryz.prog 72 #[.slice A n c] w (ScanPost w b) := by
  have hbl : b.length = n := by have := hR.len; rwa [U_len] at this
  obtain ⟨i0, hi, hz0, hz1, hz2⟩ := info_parts info_slice
  have HR := hid hR
  have HA := hid hA
  clear hR hA
  refine (callsIn_wide (n := 4)).1 ?_
  refine callsIn_of_wp_marks Tryz.func72 rfl trivial ?_ rfl
  simp only [Tryz.ntmps72, List.size_toArray, List.length_cons, List.length_nil, Nat.reduceAdd, Nat.reduceSub, Array.replicate_succ, Array.replicate_zero, List.push_toArray, List.append_toArray, List.nil_append, List.cons_append]
  gi_wp2_with (refine ⟨trivial, ?_⟩; gi_at_call 101; refine (callsIn_wide.2 (payloads_any A n c _)).mono ?_; rintro e w' ⟨rfl, rfl⟩)
  obtain ⟨w1, hw1⟩ : ∃ w1, w1 = (((w.alloc (Obj.cells #[Value.slice none 0 0] 106)).alloc (Obj.cells #[Value.int IntKind.i64 0] 3)).alloc (Obj.cells #[Value.slice A n c] 33)) := ⟨_, rfl⟩
  have b1 : Boxed w1 w.heap.size 106 (.slice none 0 0) := by rw [hw1]; exact ((Boxed.new w _ _).alloc _).alloc _
  have b2 : Boxed w1 (w.heap.size + 1) 3 (.int .i64 0) := by rw [hw1]; have := (Boxed.new (w.alloc (Obj.cells #[Value.slice none 0 0] 106)) 3 (.int .i64 0)).alloc (Obj.cells #[Value.slice A n c] 33); rwa [World.size_alloc] at this
  have b3 : w1.cell? ⟨w.heap.size + 1 + 1, 0, none⟩ = some (.slice A n c) := by
    rw [hw1]
    have := (Boxed.new ((w.alloc (Obj.cells #[Value.slice none 0 0] 106)).alloc (Obj.cells #[Value.int IntKind.i64 0] 3)) 33 (.slice A n c)).cell
    rwa [World.size_alloc, World.size_alloc] at this
  have hsz : w1.heap.size = w.heap.size + 3 := by rw [hw1]; simp
  have hB1 : Below w.heap.size w w1 := by rw [hw1]; exact (((Below.refl _ w).alloc (Nat.le_refl _) _).alloc (by simp) _).alloc (by simp; omega) _
  rw [← hw1]
  clear hw1
  have HR1 := HR.out.below hB1 hup
  refine range_told rfl (by omega) (gf := 111) (lb := #[.pointer (some ⟨w.heap.size + 1 + 1, 0, none⟩)]) rfl trivial (enters_of Tryz.func111 (by kernel_rfl) rfl)
    (encs := fun x : Pay => #[.slice x.A x.n x.c]) (fun _ => rfl) (n₀ := w.heap.size) (by omega) (Paid w.heap.size)
    (fun pre W => ((∃ v, Boxed W w.heap.size 106 v ∧ W.ownsRow w.heap.size 33 1 v pre.length (pre.map Pay.v) ∧ True) ∧ Boxed W (w.heap.size + 1) 3 (.int .i64 ((flat (pre.map (·.p))).length : Int))) ∧ (∀ x ∈ pre, Paid w.heap.size x W) ∧ Below w.heap.size w W)
    (fun xs => (flat (xs.map (·.p))).length ≤ b.length) (fun xs => ∃ r, Scans b (xs.map (·.p)) r)
    (fun x => ?hT) ?hI ?h0
    (fun x => { tmps := #[Value.slice A n c, undef, Value.slice none 0 0, Value.int IntKind.i64 0, Value.pointer (some { block := w.heap.size, off := 0 }), Value.pointer (some { block := w.heap.size + 1, off := 0 }), .slice x.A x.n x.c, Value.slice A n c, Value.func (Fn.func 111) #[] #[Value.pointer (some { block := w.heap.size + 1 + 1, off := 0 })], .slice x.A x.n x.c, undef, undef, undef, undef, undef, undef, undef, undef, undef, undef, undef], defers := [] })
    (payloads1_in w.heap.size (w.heap.size + 1 + 1) lo up A n c b w1 (by omega) (by omega) hup HR1 HA.out hc hn b3) ?assign ?body ?done
  case hT => exact (fun s X Y row hs hg hr => by
    have := paid_own w.heap.size w1.heap.size [x] X Y row (fun y hy => by rw [List.mem_singleton] at hy; subst hy; exact hs) hg hr
    exact this x (List.mem_singleton.2 rfl))
  case hI => exact OwnFrom.and (Own.from (fun s X Y row hs hg hr => ⟨holdsRow_own w.heap.size w.heap.size 106 33 1 (fun pre => pre.length) (fun pre => pre.map Pay.v) (fun _ _ => True) s X Y row hs.1 hg hr, boxed_own (w.heap.size + 1) 3 (fun pre : List Pay => .int .i64 ((flat (pre.map (·.p))).length : Int)) s X Y row hs.2 hg hr⟩) _) (OwnFrom.and (paid_own _ _) (ownFrom_below (Nat.le_refl _) (by omega)))
  case h0 => exact ⟨⟨⟨_, b1, World.ownsRow_nil _ _ _ _, trivial⟩, b2⟩, (fun x hx => by cases hx), hB1⟩
  case assign =>
    intro l x W K hK
    gi_wp2
    exact hK
  case body =>
    rintro l pre x W ⟨⟨⟨v, hv, hrow, _⟩, hend⟩, hpaid, hB⟩ hx hG
    have hmx : Tryz.prog.follows .mixedOrders = true := by kernel_rfl
    have hGl : (flat ((pre ++ [x]).map (·.p))).length = (flat (pre.map (·.p))).length + (x.n + 8) := by
      rw [List.map_append, List.map_cons, List.map_nil, flat_len_snoc, hx.1]
    have hmany := flat_many (pre.map (·.p))
    rw [List.length_map] at hmany
    rw [hGl] at hG
    have HGL := hid hGl
    clear hGl
    obtain ⟨z, hz⟩ : ∃ z, z = (flat (pre.map (·.p))).length := ⟨_, rfl⟩
    rw [← hz] at hend hG hmany HGL
    clear hz
    have hc := hv.cell
    have hxn : x.n ≤ 300000 := by omega
    have hz3 : z ≤ 300000 := by omega
    have hf : fsize (x.n : Int) = 8 + (x.n : Int) := by unfold fsize; rw [if_neg (by omega)]
    have SZ : Hid (∀ W', Calls Tryz.prog 102 #[.int .i64 (x.n : Int)] W' fun e w' => e = .returned (.int .i64 (8 + (x.n : Int))) ∧ w' = W') := hid fun W' => by have := size_any (x.n : Int) W'; rwa [hf] at this
    clear hf
    gi_wp2_with (gi_at_builtin; refine wpListIn_append_own _ rfl _ _ 106 rfl w.heap.size 33 i0 (.slice none 0 0) 1 24 Tryz.underlying106 hi hz0 hz1 hz2 rfl (by decide) _ _ _ rfl (hrow.alloc _) ⟨W.heap.size, 0, none⟩ 1 1 [x.v] rfl rfl (cell_one_new _ _ _) (by simp [Value.oneCell', Pay.v]) (by unfold maxLen; omega) (by omega) (by have := hB.size; simp; omega) ?_; intro v' w2 hown' hgrow _; obtain ⟨g', cap', rfl⟩ := ownsRow_succ hown'; obtain ⟨hv1, hv2, hr2, hk2, hb2⟩ := hv.appended (by decide) hrow hB.size (Nat.le_refl _) hown' hgrow; have hc1 := hv1.cell; have hf1 := hv1.frozen; have hend3 := ((hend.alloc _).kept hgrow (hend.not_row (by decide) hrow)).other (B' := w.heap.size) (by omega) (Value.slice (some ⟨g', 0, none⟩) (pre.length + 1) cap'); have hc3 := hend3.cell; have hf3 := hend3.frozen; have hpd : ∀ y ∈ pre ++ [x], Paid w.heap.size y (w2.setCell ⟨w.heap.size, 0, none⟩ (Value.slice (some ⟨g', 0, none⟩) (pre.length + 1) cap')) := (fun y hy => ((List.mem_append.1 hy).elim (fun h => hpaid y h) (fun h => by rw [List.mem_singleton.1 h]; exact hx)).appended hrow (by decide) hgrow |>.set hv1 (by decide) _))
    gi_region_with_o (refine ⟨trivial, ?_⟩; gi_at_call 102; refine (CallsIn.inRound l (callsIn_wide.2 (SZ.out _))).mono ?_; rintro e w' ⟨rfl, rfl⟩)
    all_goals gi_wp2
    all_goals (try go_bits)
    all_goals
      generalize w2.setCell ⟨w.heap.size, 0, none⟩ (Value.slice (some ⟨g', 0, none⟩) (pre.length + 1) cap') = w3 at *
      have hlen : (pre ++ [x]).length = pre.length + 1 := by simp
      have hmap : (pre ++ [x]).map Pay.v = pre.map Pay.v ++ [x.v] := by simp
      rw [hlen, hmap, HGL.out]
      have ez : ((z + (x.n + 8) : Nat) : Int) = (z : Int) + (8 + (x.n : Int)) := by omega
      rw [ez]
      generalize (z : Int) + (8 + (x.n : Int)) = q
      have hb3 := (hb2.setCell (p := ⟨w.heap.size + 1, 0, none⟩) (by show w.heap.size ≤ w.heap.size + 1; omega) (Value.int IntKind.i64 q)).drew
      have hr4 := hr2.kept (grownBy_setCell' w3 (w.heap.size + 1) (Value.int IntKind.i64 q)) (.inr (hend3.not_row (by decide) hr2).symm)
      have hp4 := fun y hy => (hpd y hy).set hend3 (by decide) (Value.int IntKind.i64 q)
      have hv4 := hv2.other (B' := w.heap.size + 1) (by omega) (Value.int IntKind.i64 q)
      have he4 := hend3.set (Value.int IntKind.i64 q)
      exact ⟨(hk2.trans ((KeepsOthers.setCell _ _ _).trans (KeepsOthers.drew _))).from _, hb3, ⟨⟨⟨_, hv4, hr4, trivial⟩, he4⟩, hp4, hB.trans hb3⟩⟩
  case done =>
    rintro D xs W hD ⟨r, hS⟩ ⟨⟨⟨v, hv, hrow, _⟩, hend⟩, hpaid, hB⟩ hK
    have hmx : Tryz.prog.follows .mixedOrders = true := by kernel_rfl
    have hc1 := hv.cell
    have hc2 := hend.cell
    have hK2 : W.drew.heap[D]? = some (Obj.deferred (some [])) := hK
    obtain ⟨A', c', rfl, hA', h1', h2', hbl⟩ := bl_of_paid (W := W.drew.putObj D (.deferred none)) (ownsRow_putObj (W := W.drew) hrow (.deferred none) hK2 rfl) (fun x hx => Paid.putObj (W := W.drew) (hpaid x hx) (.deferred none) hK2 rfl)
    have done' : ScanPost w b (.returned (.tuple #[.slice A' xs.length c', .int .i64 ((flat (xs.map (·.p))).length : Int)])) (W.drew.putObj D (.deferred none)) :=
      ⟨xs.map (·.p), r, A', xs.length, c', xs.map Pay.v, rfl, hid hS, hid hbl, hid hA', h1', h2', hB.drew.trans (belowK_b (w := w) (Nat.le_refl _) W.drew D _ _ (by omega) hK2 rfl rfl)⟩
    clear hbl
    gi_wp2
    gi_region
    all_goals gi_wp2
    all_goals refine ⟨by simp, .inl ⟨_, _, rfl, run_takeDeferred (w := W.drew) hK, ?_⟩⟩
    all_goals refine ⟨_, results_tmp2 rfl _ _ _, ?_⟩
    all_goals exact done'
/-- What All tells. -/
def AllPost (w : World) (b : List UInt8) (e : Ending) (w' : World) : Prop :=
  ∃ ps r A n c vs z, Hid (Scans b ps r) ∧ e = .returned (.tuple #[.slice A n c, .int .i64 z]) ∧ Hid (A = none → c = 0) ∧ n ≤ c ∧ c ≤ maxLen ∧ Below w.heap.size w w' ∧
    ((Hid (r = []) ∧ z = 0 ∧ Hid (BL w' w.heap.size w'.heap.size A n ps vs)) ∨ (Hid (r ≠ []) ∧ z = 4 ∧ A = none ∧ n = 0 ∧ Hid (BL w' w.heap.size w'.heap.size A n [] vs)))
theorem bl_nil (w : World) (lo hi : Nat) : BL w lo hi none 0 [] [] := ⟨Row.empty, rfl, fun k l h => by simp at h⟩
end Go.Proofs.YtpckloafdlkefaaGreat
namespace Go.Proofs.YtpckloafdlkefaaGreat
set_option maxRecDepth 40000
open Go.RowKit Go.Joins Regs

theorem take_next {α : Type} {l : List α} {k : Nat} {x : α} (h : l[k]? = some x) : l.take (k + 1) = l.take k ++ [x] := by rw [List.take_add_one, h]; rfl
theorem BL.take {w : World} {lo up n : Nat} {A : Option Addr} {ls : List (List UInt8)} {vs : List Value} (h : BL w lo up A n ls vs) {k : Nat} (hk : k ≤ n) : BL w lo up A k (ls.take k) (vs.take k) :=
  ⟨h.row.take hk, by rw [List.length_take, h.len]; omega, fun j l hl => by
    have hj : j < k := by have := (List.getElem?_eq_some_iff.1 hl).1; rw [List.length_take] at this; omega
    rw [List.getElem?_take_of_lt hj] at hl
    obtain ⟨B, m, c, e, r⟩ := h.at_ j l hl
    exact ⟨B, m, c, by rw [List.getElem?_take_of_lt hj]; exact e, r⟩⟩
theorem pay_below {n₀ : Nat} {x : Pay} {W W' : World} (h : Paid n₀ x W) (hb : Below W.heap.size W W') : Paid n₀ x W' := h.kept (only_of_below hb none) (by cases (Value.slice x.A x.n x.c).ownBlock <;> simp)
theorem own_on {w w' : World} {base : Nat} {e : TypeId} {size : Nat} {v : Value} {n : Nat} {xs : List Value} (h : w.ownsRow base e size v n xs) (hb : Below w.heap.size w w') : w'.ownsRow base e size v n xs :=
  h.kept (only_of_below hb none) (by cases v.ownBlock <;> simp)
/-- An append onto a row of the call's own, at an operation that is asked for. -/
theorem wpList_append_row_asked {P : Program} (w : World) {ops : Array Oper} {rest : List Oper} {o : Oper} {a : Act} {Q : Exit → Act → World → Prop} (hwant : Region.wanted o (yielded ops a.tmps) = true) (s x : Operand) (t : TypeId)
    (ho : o.op = .call { callee := .builtin .append, args := #[s, x], argTypes := #[t, t] })
    (base : Nat) (e : TypeId) (i : TypeInfo) (z : Value) (bytes : Nat) (ht : P.underlying t = some (.slice e)) (hi : P.info? e = some i) (hz : i.zero = some z)
    (hsize : i.size = 1) (hby : i.bytes = bytes) (hzs : z.cells.size = 1) (v : Value) (n : Nat) (xs : List Value) (hs : a.eval s = v) (hown : w.ownsRow base e 1 v n xs)
    (lo up : Nat) (A : Option Addr) (m c : Nat) (hx : a.eval x = .slice A m c) (hA : A = none → c = 0) (news : List Value) (hr : Row w lo up A m news) (h1 : ∀ u ∈ news, u.oneCell' = true)
    (h63 : n + m ≤ maxLen) (hbytes : (n + m) * bytes ≤ 140737488355328) (hbase : base ≤ w.heap.size)
    (h : ∀ v' w', w'.ownsRow base e 1 v' (n + m) (xs ++ news) → w.grownBy w' v.ownBlock → (v'.ownBlock = v.ownBlock ∨ v'.ownBlock = some w.heap.size) → wpList P ops Q rest (a.put o.dst v') w') :
    wpList P ops Q (o :: rest) a w :=
  wpList_step fun K hK => by
    rw [if_pos hwant]
    obtain ⟨v', w', hr, h2, h3, h5⟩ := run_append_row (P := P) w base t o.type e i z bytes ht hi hz hsize hby hzs v n xs hown lo up A m c hA news hr h1 h63 hbytes hbase
    unfold Oper.wp execOp
    simp only [ho, resolve, invoke, builtin, Sem.run_bind, Sem.run_pure, Result.andThen_ok, List.map_toArray, List.map_cons, List.map_nil, hs, hx, hr]
    exact hK _ _ (h v' w' h2 h3 h5)
theorem slices_one {lo up : Nat} {w : World} {A : Option Addr} {n : Nat} {ls : List (List UInt8)} {vs : List Value} (h : BL w lo up A n ls vs) : ∀ u ∈ vs, u.oneCell' = true := by
  intro u hu
  obtain ⟨k, hk, rfl⟩ := List.mem_iff_getElem.1 hu
  have hk2 : k < ls.length := by rw [h.len, ← h.row.len]; exact hk
  obtain ⟨B, m, c, e, _⟩ := h.at_ k ls[k] (List.getElem?_eq_getElem hk2)
  rw [List.getElem?_eq_getElem hk] at e
  injection e with e
  rw [e]
  rfl
/-- Slices that read as these bytes. -/
def Each (w : World) (lo hi : Nat) (ls : List (List UInt8)) (vs : List Value) : Prop :=
  ls.length = vs.length ∧ ∀ (k : Nat) (l : List UInt8), ls[k]? = some l → ∃ B m c, vs[k]? = some (.slice B m c) ∧ Row w lo hi B m (U l) ∧ (B = none → c = 0) ∧ m ≤ c ∧ c ≤ maxLen
theorem BL.each {w : World} {lo hi n : Nat} {A : Option Addr} {ls : List (List UInt8)} {vs : List Value} (h : BL w lo hi A n ls vs) : Each w lo hi ls vs := ⟨by rw [h.len, h.row.len], h.at_⟩
theorem Each.bl {w : World} {lo hi n : Nat} {A : Option Addr} {ls : List (List UInt8)} {vs : List Value} (h : Each w lo hi ls vs) (hr : Row w lo hi A n vs) : BL w lo hi A n ls vs := ⟨hr, by rw [h.1, hr.len], h.2⟩
theorem Each.wide {w : World} {lo hi lo' hi' : Nat} {ls : List (List UInt8)} {vs : List Value} (h : Each w lo hi ls vs) (h1 : lo' ≤ lo) (h2 : hi ≤ hi') : Each w lo' hi' ls vs :=
  ⟨h.1, fun k l hk => by
    obtain ⟨B, m, c, e, hr, r⟩ := h.2 k l hk
    exact ⟨B, m, c, e, hr.wide h1 h2, r⟩⟩
theorem Each.below {w w' : World} {lo hi : Nat} {ls : List (List UInt8)} {vs : List Value} (h : Each w lo hi ls vs) {B : Nat} (hb : Below B w w') (hB : hi ≤ B) : Each w' lo hi ls vs :=
  ⟨h.1, fun k l hk => by
    obtain ⟨B, m, c, e, hr, r⟩ := h.2 k l hk
    exact ⟨B, m, c, e, hr.below hb hB, r⟩⟩
theorem Each.grown {w w' : World} {lo hi : Nat} {ls : List (List UInt8)} {vs : List Value} (h : Each w lo hi ls vs) {row : Option Nat} (hg : w.grownBy w' row) (hB : hi ≤ w.heap.size) (hr : ∀ g, row = some g → g < lo ∨ hi ≤ g) : Each w' lo hi ls vs :=
  ⟨h.1, fun k l hk => by
    obtain ⟨B, m, c, e, hrr, r⟩ := h.2 k l hk
    exact ⟨B, m, c, e, hrr.grown hg hB hr, r⟩⟩
theorem Each.append {w : World} {lo hi : Nat} {ls ms : List (List UInt8)} {vs us : List Value} (h : Each w lo hi ls vs) (h' : Each w lo hi ms us) : Each w lo hi (ls ++ ms) (vs ++ us) := by
  refine ⟨by rw [List.length_append, List.length_append, h.1, h'.1], fun k x hk => ?_⟩
  rcases Nat.lt_or_ge k ls.length with hkn | hkn
  · rw [List.getElem?_append_left hkn] at hk
    obtain ⟨D, q, c, f1, f2⟩ := h.2 k x hk
    exact ⟨D, q, c, by rw [List.getElem?_append_left (by rw [← h.1]; exact hkn)]; exact f1, f2⟩
  · rw [List.getElem?_append_right hkn] at hk
    obtain ⟨D, q, c, f1, f2⟩ := h'.2 _ x hk
    exact ⟨D, q, c, by rw [List.getElem?_append_right (by rw [← h.1]; exact hkn), ← h.1]; exact f1, f2⟩
theorem each_paid {w : World} {n₀ : Nat} {xs : List Pay} (h : ∀ x ∈ xs, Paid n₀ x w) : Each w n₀ w.heap.size (xs.map (·.p)) (xs.map Pay.v) := by
  refine ⟨by simp, fun k l hk => ?_⟩
  rw [List.getElem?_map] at hk
  cases hx : xs[k]? with
  | none => rw [hx] at hk; cases hk
  | some x =>
    rw [hx] at hk
    simp only [Option.map_some, Option.some.injEq] at hk
    subst hk
    obtain ⟨q1, q2, q3⟩ := h x (List.mem_of_getElem? hx)
    have qc := own_caps q3
    exact ⟨x.A, x.n, x.c, by rw [List.getElem?_map, hx]; rfl, Row.of_own q3, q2, qc.1, qc.2⟩
end Go.Proofs.YtpckloafdlkefaaGreat
