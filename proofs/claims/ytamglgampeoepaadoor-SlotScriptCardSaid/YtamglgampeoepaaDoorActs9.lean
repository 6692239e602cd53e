/-
  The acts of chapter 9's scripts in memory: a struct of two numbers and short numbers; a slice of such; how they come in; whether they are gone through.
-/
import Derived.Test.YtamglgampeoepaaDoorIn9
import Derived.Test.YtamglgampeoepaaDoorWords
namespace Go.Proofs.YtamglgampeoepaaDoor
set_option maxRecDepth 40000
open Go.RowKit Go.ChangeShapes Go.WideShapes Go.Deep Go.Joins

structure Ar where
  kind : Int
  n : Int
  va : Option Addr
  vl : Nat
  vc : Nat
  v : List Int
instance : Inhabited Ar := ⟨⟨0, 0, none, 0, 0, []⟩⟩
def Ar.cells (a : Ar) : List Value := [.int .i64 a.kind, .int .i64 a.n, .slice a.va a.vl a.vc]
/-- What an act leads to. -/
structure Fine (w : World) (H : Nat) (a : Ar) : Prop where
  rv : Row w 0 H a.va a.vl (IK .i16 a.v)
  nv : a.va = none → a.vc = 0
  lv : a.vl ≤ a.vc ∧ a.vc ≤ maxLen
  wv : ∀ x ∈ a.v, (Lit.int .i16 x).wf = true
  w1 : (Lit.int .i64 a.kind).wf = true
  w2 : (Lit.int .i64 a.n).wf = true
theorem Fine.below {w w' : World} {H : Nat} {a : Ar} (h : Fine w H a) (hb : Below H w w') : Fine w' H a :=
  ⟨h.rv.below hb (Nat.le_refl _), h.nv, h.lv, h.wv, h.w1, h.w2⟩
/-- A slice of acts. -/
structure Acts (w : World) (H : Nat) (A : Option Addr) (n : Nat) (l : List Ar) : Prop where
  len : l.length = n
  fine : ∀ a ∈ l, Fine w H a
  at_ : 0 < n → ∃ b off, A = some ⟨b, off, none⟩ ∧ b < H ∧ ∀ j a, l[j]? = some a → ∀ i v, a.cells[i]? = some v → w.cell? ⟨b, off + j * 3 + i, none⟩ = some v
theorem Acts.below {w w' : World} {H : Nat} {A : Option Addr} {n : Nat} {l : List Ar} (h : Acts w H A n l) (hb : Below H w w') : Acts w' H A n l :=
  ⟨h.len, fun a ha => (h.fine a ha).below hb, fun hn => by
    obtain ⟨b, off, e, hl, hc⟩ := h.at_ hn
    exact ⟨b, off, e, hl, fun j a ha i v hv => (hb.cell hl).trans (hc j a ha i v hv)⟩⟩

section
variable {Hx : Type} {enc : TypeId × Value → Hx} {w : World}
set_option maxRecDepth 20000 in
/-- An act out of its cells. -/
theorem act_read {fuel : Nat} {cs : List Value} {x : DataW Hx × List MemPlace} (hlen : cs.length = 3) (h : DataW.trod enc Tryd.prog w 0 (fun _ => true) true fuel 34 cs = some x) :
    ∃ a : Ar, cs = a.cells ∧ Fine w w.heap.size a := by
  obtain ⟨xs, k, hk, hxy, _, hxl, hf⟩ := DataW.trod_struct Tryd.underlying34 h
  match cs, hlen with
  | [v0, v1, v2], _ =>
    have c1 : Tryd.prog.cellsOf 3 = 1 := by kernel_rfl
    have c3 : Tryd.prog.cellsOf 32 = 1 := by kernel_rfl
    match xs, hxl with
    | [y0, y1, y2], _ =>
      have g0 := hf 0 _ rfl
      have g1 := hf 1 _ rfl
      have g2 := hf 2 _ rfl
      simp [c1, c3] at g0 g1 g2
      obtain ⟨n0, e0, _, q0⟩ := DataW.trod_int Tryd.underlying3 g0
      obtain ⟨n1, e1, _, q1⟩ := DataW.trod_int Tryd.underlying3 g1
      simp at e0 e1
      subst e0 e1
      obtain ⟨va, vl, vc, v, rfl, r1, r2, r3, r4, r5⟩ := shorts_read g2
      exact ⟨⟨n0, n1, va, vl, vc, v⟩, rfl, r1, r3, ⟨r4, r5⟩, r2, q0, q1⟩
set_option maxRecDepth 20000 in
/-- A slice of acts that came in. -/
theorem acts_read {fuel : Nat} {v : Value} {x : DataW Hx × List MemPlace} (h : DataW.trod enc Tryd.prog w 0 (fun _ => true) true fuel 22 [v] = some x) :
    ∃ a len cap l, v = .slice a len cap ∧ Acts w w.heap.size a len l ∧ len ≤ cap ∧ cap ≤ maxLen := by
  rcases open_slice Tryd.underlying22 h with ⟨hcs, _⟩ | ⟨a, len, cap, m, n, D, Pl, hcs, _, hl, hm, hmm, _, hx⟩
  · simp at hcs
    subst hcs
    exact ⟨none, 0, 0, [], rfl, ⟨rfl, (fun a ha => by cases ha), fun h => absurd h (Nat.lt_irrefl 0)⟩, Nat.le_refl _, Nat.zero_le _⟩
  · simp at hcs
    subst hcs
    have ce : Tryd.prog.cellsOf 34 = 3 := by kernel_rfl
    have hlm : len ≤ m := by rw [hmm]; split <;> omega
    have each : ∀ i, i < len → ∃ q : Ar, Fine w w.heap.size q ∧ ∀ j v, q.cells[j]? = some v → w.cell? (a.add (i * 3 + j)) = some v := by
      intro i hi
      obtain ⟨cs', h1, h2⟩ := hx i (by omega)
      rw [ce] at h1
      obtain ⟨_, hlen, hcell⟩ := World.cells?_some h1
      obtain ⟨q, rfl, hq⟩ := act_read hlen h2
      refine ⟨q, hq, fun j v hv => ?_⟩
      have hj : j < q.cells.length := (List.getElem?_eq_some_iff.1 hv).1
      have := hcell j (by simpa [Ar.cells] using hj)
      rw [add_add] at this
      rw [this]
      exact hv
    obtain ⟨f, hf⟩ := choose_lt each
    refine ⟨some a, len, cap, (List.range len).map f, rfl, ⟨by simp, ?_, ?_⟩, hl, hm⟩
    · intro q hq
      simp only [List.mem_map, List.mem_range] at hq
      obtain ⟨i, hi, rfl⟩ := hq
      exact (hf i hi).1
    · intro hpos
      obtain ⟨b, off, spot⟩ := a
      have h0 := (hf 0 hpos).2 0 _ rfl
      have hs : spot = none := by simpa [Addr.add] using World.cell?_spot h0
      subst hs
      have hlt := World.block_lt_of_cell? w _ h0
      rw [addr_add] at hlt
      refine ⟨b, off, rfl, hlt, fun j q hq i v hv => ?_⟩
      have hj : j < len := by have := (List.getElem?_eq_some_iff.1 hq).1; simpa using this
      have e : f j = q := by simpa [hj] using hq
      have := (hf j hj).2 i v (by rw [e]; exact hv)
      rw [addr_add, ← Nat.add_assoc] at this
      exact this
set_option maxRecDepth 20000 in
theorem acts_in {a : Option Addr} {len cap : Nat} {d : DataW Hx} {p : List MemPlace} (h : DataW.Trod enc Tryd.prog w 0 (fun _ => true) true 22 (.slice a len cap) d p) :
    ∃ l, Acts w w.heap.size a len l ∧ len ≤ cap ∧ cap ≤ maxLen := by
  obtain ⟨fuel, hf⟩ := h
  obtain ⟨_, _, _, l, e, r⟩ := acts_read (v := .slice a len cap) (by simpa [Value.cells] using hf)
  injection e with e1 e2 e3
  subst e1 e2 e3
  exact ⟨l, r⟩
end
def Light9 (l : List Ar) : Prop := l.length ≤ 100 ∧ ∀ a ∈ l, a.vl ≤ 100
def Light9Post (w : World) (l : List Ar) (e : Ending) (w' : World) : Prop := ∃ b, e = .returned (.bool b) ∧ (b = true → Light9 l) ∧ w' = w
set_option maxHeartbeats 2000000 in
set_option maxRecDepth 20000 in
theorem light9_any (A : Option Addr) (n c H : Nat) (l : List Ar) (w : World) (h : Acts w H A n l) (hn : n ≤ 9223372036854775807) :
    Calls Tryd.prog 7 #[.slice A n c] w (Light9Post w l) := by
  have HL := hid h.len
  have HA := hid h
  have hat := h.at_
  clear h
  go_enter Tryd.func7, Tryd.ntmps7
  go_wp2
  go_loopw [3] (fun i wr => ∃ k : Nat, k ≤ n ∧ k ≤ 101 ∧ i = .int .i64 k ∧ Hid (∀ j a, j < k → l[j]? = some a → a.vl ≤ 100) ∧ wr = w) (fun i _ => n - (intOf i).toNat)
  case atStart => exact ⟨0, Nat.zero_le _, by omega, rfl, hid (fun j a hj => by omega), rfl⟩
  case round =>
    obtain ⟨k, hk, hk2, rfl, HALL, rfl⟩ := hrel
    by_cases hlt : k < n
    · by_cases hk3 : k ≤ 100
      · obtain ⟨b, off, rfl, hbl, hcell⟩ := hat (by omega)
        obtain ⟨a, ha⟩ : ∃ a, l[k]? = some a := ⟨l[k]'(by rw [HL.out]; exact hlt), List.getElem?_eq_getElem _⟩
        have g2 := hcell k a ha 2 _ rfl
        have HAa := hid ha
        clear hcell hat HA ha
        by_cases hb : a.vl ≤ 100
        · go_wp2
          refine ⟨⟨k + 1, by omega, by omega, by go_num, hid fun j x hj hx => ?_, by trivial⟩, by simp [intOf]; omega⟩
          rcases Nat.lt_or_ge j k with hj' | hj'
          · exact HALL.out j x hj' hx
          · obtain rfl : j = k := by omega
            rw [HAa.out] at hx
            injection hx with hx
            rw [← hx]
            exact hb
        · go_wp2
          go_ret
          exact ⟨false, rfl, (fun h => by cases h), rfl⟩
      · go_wp2
        go_ret
        exact ⟨_, rfl, (fun h => by simp at h; omega), rfl⟩
    · obtain rfl : k = n := by omega
      go_wp2
      go_ret
      refine ⟨_, rfl, (fun h => ⟨by rw [HL.out]; simp at h; omega, fun a ha => ?_⟩), rfl⟩
      obtain ⟨j, hj, hja⟩ := List.mem_iff_getElem.1 ha
      exact HALL.out j a (by rw [← HL.out]; exact hj) (by rw [List.getElem?_eq_getElem hj, hja])
end Go.Proofs.YtamglgampeoepaaDoor
