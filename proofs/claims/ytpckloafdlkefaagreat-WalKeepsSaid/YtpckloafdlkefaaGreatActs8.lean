/-
  The acts of chapter 8's scripts in memory: a struct of two numbers, bytes and numbers; a slice of such; how they come in.
-/
import Derived.Test.YtpckloafdlkefaaGreatProg
import Derived.Test.YtpckloafdlkefaaGreatWords
import Derived.ProofKit
import Derived.OpenShut
import Derived.Deep.Slices
import Derived.Lib.SmallJoins
namespace Go.Proofs.YtpckloafdlkefaaGreat
set_option maxRecDepth 40000
open Go.RowKit Go.ChangeShapes Go.WideShapes Go.Deep Go.Joins

structure Ar where
  kind : Int
  n : Int
  ba : Option Addr
  bl : Nat
  bc : Nat
  b : List UInt8
  ka : Option Addr
  kl : Nat
  kc : Nat
  ks : List Int
instance : Inhabited Ar := ⟨⟨0, 0, none, 0, 0, [], none, 0, 0, []⟩⟩
def Ar.cells (a : Ar) : List Value := [.int .i64 a.kind, .int .i64 a.n, .slice a.ba a.bl a.bc, .slice a.ka a.kl a.kc]
/-- What an act leads to. -/
structure Fine (w : World) (H : Nat) (a : Ar) : Prop where
  rb : Row w 0 H a.ba a.bl (U a.b)
  nb : a.ba = none → a.bc = 0
  lb : a.bl ≤ a.bc ∧ a.bc ≤ maxLen
  rk : Row w 0 H a.ka a.kl (I a.ks)
  nk : a.ka = none → a.kc = 0
  lk : a.kl ≤ a.kc ∧ a.kc ≤ maxLen
  wk : ∀ x ∈ a.ks, (Lit.int .i64 x).wf = true
  w1 : (Lit.int .i64 a.kind).wf = true
  w2 : (Lit.int .i64 a.n).wf = true
theorem Fine.below {w w' : World} {H : Nat} {a : Ar} (h : Fine w H a) (hb : Below H w w') : Fine w' H a :=
  ⟨h.rb.below hb (Nat.le_refl _), h.nb, h.lb, h.rk.below hb (Nat.le_refl _), h.nk, h.lk, h.wk, h.w1, h.w2⟩
/-- A slice of acts. -/
structure Acts (w : World) (H : Nat) (A : Option Addr) (n : Nat) (l : List Ar) : Prop where
  len : l.length = n
  fine : ∀ a ∈ l, Fine w H a
  at_ : 0 < n → ∃ b off, A = some ⟨b, off, none⟩ ∧ b < H ∧ ∀ j a, l[j]? = some a → ∀ i v, a.cells[i]? = some v → w.cell? ⟨b, off + j * 4 + i, none⟩ = some v
theorem Acts.below {w w' : World} {H : Nat} {A : Option Addr} {n : Nat} {l : List Ar} (h : Acts w H A n l) (hb : Below H w w') : Acts w' H A n l :=
  ⟨h.len, fun a ha => (h.fine a ha).below hb, fun hn => by
    obtain ⟨b, off, e, hl, hc⟩ := h.at_ hn
    exact ⟨b, off, e, hl, fun j a ha i v hv => (hb.cell hl).trans (hc j a ha i v hv)⟩⟩

section
variable {Hx : Type} {enc : TypeId × Value → Hx} {w : World}
theorem bytes_read {fuel : Nat} {v : Value} {x : DataW Hx × List MemPlace} (h : DataW.trod enc Tryz.prog w 0 (fun _ => true) true fuel 33 [v] = some x) :
    ∃ a len cap l, v = .slice a len cap ∧ Row w 0 w.heap.size a len (U l) ∧ (a = none → cap = 0) ∧ len ≤ cap ∧ cap ≤ maxLen := by
  rcases open_ints Tryz.underlying33 Tryz.underlying5 (by kernel_rfl) h with ⟨hcs, _⟩ | ⟨x, l, c, zs, hcs, _, hl, hm, hz, _, hcell, hwz⟩
  · simp at hcs
    subst hcs
    obtain ⟨l, h1⟩ := row_in (w := w) (a := none) (len := 0) (cap := 0) (zs := []) (.inl ⟨rfl, rfl, rfl, rfl⟩)
    exact ⟨none, 0, 0, l, rfl, h1⟩
  · simp at hcs
    subst hcs
    obtain ⟨l, h1⟩ := row_in (.inr ⟨_, rfl, hl, hm, by simpa using hz, hcell, hwz⟩)
    exact ⟨_, _, _, l, rfl, h1⟩
theorem ints_read {fuel : Nat} {v : Value} {x : DataW Hx × List MemPlace} (h : DataW.trod enc Tryz.prog w 0 (fun _ => true) true fuel 34 [v] = some x) :
    ∃ a len cap l, v = .slice a len cap ∧ Row w 0 w.heap.size a len (I l) ∧ (∀ n ∈ l, (Lit.int .i64 n).wf = true) ∧ (a = none → cap = 0) ∧ len ≤ cap ∧ cap ≤ maxLen := by
  rcases open_ints Tryz.underlying34 Tryz.underlying3 (by kernel_rfl) h with ⟨hcs, _⟩ | ⟨x, l, c, zs, hcs, _, hl, hm, hz, _, hcell, hwz⟩
  · simp at hcs
    subst hcs
    obtain ⟨l, h1⟩ := rowi_in (w := w) (a := none) (len := 0) (cap := 0) (zs := []) (.inl ⟨rfl, rfl, rfl, rfl⟩)
    exact ⟨none, 0, 0, l, rfl, h1⟩
  · simp at hcs
    subst hcs
    obtain ⟨l, h1⟩ := rowi_in (.inr ⟨_, rfl, hl, hm, by simpa using hz, hcell, hwz⟩)
    exact ⟨_, _, _, l, rfl, h1⟩
set_option maxRecDepth 20000 in
/-- An act out of its cells. -/
theorem act_read {fuel : Nat} {cs : List Value} {x : DataW Hx × List MemPlace} (hlen : cs.length = 4) (h : DataW.trod enc Tryz.prog w 0 (fun _ => true) true fuel 36 cs = some x) :
    ∃ a : Ar, cs = a.cells ∧ Fine w w.heap.size a := by
  obtain ⟨xs, k, hk, hxy, _, hxl, hf⟩ := DataW.trod_struct Tryz.underlying36 h
  match cs, hlen with
  | [v0, v1, v2, v3], _ =>
    have c1 : Tryz.prog.cellsOf 3 = 1 := by kernel_rfl
    have c3 : Tryz.prog.cellsOf 33 = 1 := by kernel_rfl
    have c4 : Tryz.prog.cellsOf 34 = 1 := by kernel_rfl
    match xs, hxl with
    | [y0, y1, y2, y3], _ =>
      have g0 := hf 0 _ rfl
      have g1 := hf 1 _ rfl
      have g2 := hf 2 _ rfl
      have g3 := hf 3 _ rfl
      simp [c1, c3, c4] at g0 g1 g2 g3
      obtain ⟨n0, e0, _, q0⟩ := DataW.trod_int Tryz.underlying3 g0
      obtain ⟨n1, e1, _, q1⟩ := DataW.trod_int Tryz.underlying3 g1
      simp at e0 e1
      subst e0 e1
      obtain ⟨ba, bl, bc, b, rfl, r1, r2, r3, r4⟩ := bytes_read g2
      obtain ⟨ka, kl, kc, ks, rfl, s1, s2, s3, s4, s5⟩ := ints_read g3
      exact ⟨⟨n0, n1, ba, bl, bc, b, ka, kl, kc, ks⟩, rfl, r1, r2, ⟨r3, r4⟩, s1, s3, ⟨s4, s5⟩, s2, q0, q1⟩
set_option maxRecDepth 20000 in
/-- A slice of acts that came in. -/
theorem acts_read {fuel : Nat} {v : Value} {x : DataW Hx × List MemPlace} (h : DataW.trod enc Tryz.prog w 0 (fun _ => true) true fuel 22 [v] = some x) :
    ∃ a len cap l, v = .slice a len cap ∧ Acts w w.heap.size a len l ∧ len ≤ cap ∧ cap ≤ maxLen := by
  rcases open_slice Tryz.underlying22 h with ⟨hcs, _⟩ | ⟨a, len, cap, m, n, D, Pl, hcs, _, hl, hm, hmm, _, hx⟩
  · simp at hcs
    subst hcs
    exact ⟨none, 0, 0, [], rfl, ⟨rfl, (fun a ha => by cases ha), fun h => absurd h (Nat.lt_irrefl 0)⟩, Nat.le_refl _, Nat.zero_le _⟩
  · simp at hcs
    subst hcs
    have ce : Tryz.prog.cellsOf 36 = 4 := by kernel_rfl
    have hlm : len ≤ m := by rw [hmm]; split <;> omega
    have each : ∀ i, i < len → ∃ q : Ar, Fine w w.heap.size q ∧ ∀ j v, q.cells[j]? = some v → w.cell? (a.add (i * 4 + j)) = some v := by
      intro i hi
      obtain ⟨cs', h1, h2⟩ := hx i (by omega)
      rw [ce] at h1
      obtain ⟨_, hlen, hcell⟩ := World.cells?_some h1
      obtain ⟨q, rfl, hq⟩ := act_read hlen h2
      refine ⟨q, hq, fun j v hv => ?_⟩
      have hj : j < q.cells.length := (List.getElem?_eq_some_iff.1 hv).1
      have := hcell j (by simpa [Ar.cells] using hj)
      rw [add_add] at this
      rw [this]
      exact hv
    obtain ⟨f, hf⟩ := choose_lt each
    refine ⟨some a, len, cap, (List.range len).map f, rfl, ⟨by simp, ?_, ?_⟩, hl, hm⟩
    · intro q hq
      simp only [List.mem_map, List.mem_range] at hq
      obtain ⟨i, hi, rfl⟩ := hq
      exact (hf i hi).1
    · intro hpos
      obtain ⟨b, off, spot⟩ := a
      have h0 := (hf 0 hpos).2 0 _ rfl
      have hs : spot = none := by simpa [Addr.add] using World.cell?_spot h0
      subst hs
      have hlt := World.block_lt_of_cell? w _ h0
      rw [addr_add] at hlt
      refine ⟨b, off, rfl, hlt, fun j q hq i v hv => ?_⟩
      have hj : j < len := by have := (List.getElem?_eq_some_iff.1 hq).1; simpa using this
      have e : f j = q := by simpa [hj] using hq
      have := (hf j hj).2 i v (by rw [e]; exact hv)
      rw [addr_add, ← Nat.add_assoc] at this
      exact this
theorem bytes_in {a : Option Addr} {len cap : Nat} {d : DataW Hx} {p : List MemPlace} (h : DataW.Trod enc Tryz.prog w 0 (fun _ => true) true 33 (.slice a len cap) d p) :
    ∃ l, Row w 0 w.heap.size a len (U l) ∧ (a = none → cap = 0) ∧ len ≤ cap ∧ cap ≤ maxLen := by
  obtain ⟨fuel, hf⟩ := h
  obtain ⟨_, _, _, l, e, r⟩ := bytes_read (v := .slice a len cap) (by simpa [Value.cells] using hf)
  injection e with e1 e2 e3
  subst e1 e2 e3
  exact ⟨l, r⟩
theorem ints_in {a : Option Addr} {len cap : Nat} {d : DataW Hx} {p : List MemPlace} (h : DataW.Trod enc Tryz.prog w 0 (fun _ => true) true 34 (.slice a len cap) d p) :
    ∃ l, Row w 0 w.heap.size a len (I l) ∧ (∀ n ∈ l, (Lit.int .i64 n).wf = true) ∧ (a = none → cap = 0) ∧ len ≤ cap ∧ cap ≤ maxLen := by
  obtain ⟨fuel, hf⟩ := h
  obtain ⟨_, _, _, l, e, r⟩ := ints_read (v := .slice a len cap) (by simpa [Value.cells] using hf)
  injection e with e1 e2 e3
  subst e1 e2 e3
  exact ⟨l, r⟩
set_option maxRecDepth 20000 in
theorem acts_in {a : Option Addr} {len cap : Nat} {d : DataW Hx} {p : List MemPlace} (h : DataW.Trod enc Tryz.prog w 0 (fun _ => true) true 22 (.slice a len cap) d p) :
    ∃ l, Acts w w.heap.size a len l ∧ len ≤ cap ∧ cap ≤ maxLen := by
  obtain ⟨fuel, hf⟩ := h
  obtain ⟨_, _, _, l, e, r⟩ := acts_read (v := .slice a len cap) (by simpa [Value.cells] using hf)
  injection e with e1 e2 e3
  subst e1 e2 e3
  exact ⟨l, r⟩
end
end Go.Proofs.YtpckloafdlkefaaGreat
