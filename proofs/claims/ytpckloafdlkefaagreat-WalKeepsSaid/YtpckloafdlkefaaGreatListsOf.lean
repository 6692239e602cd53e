/-
  Lists of bytes in memory: a slice of slices; the kit's Light and Lists over them.
-/
import Derived.Test.YtpckloafdlkefaaGreatKit
import Derived.Deep.RegionHeld3
namespace Go.Proofs.YtpckloafdlkefaaGreat
set_option maxRecDepth 40000
open Go.RowKit

/-- A slice of n slices of bytes, all of whose cells lie in blocks of [lo, hi). -/
structure BL (w : World) (lo hi : Nat) (A : Option Addr) (n : Nat) (ls : List (List UInt8)) (vs : List Value) : Prop where
  row : Row w lo hi A n vs
  len : ls.length = n
  at_ : ∀ (k : Nat) (l : List UInt8), ls[k]? = some l → ∃ B m c, vs[k]? = some (.slice B m c) ∧ Row w lo hi B m (U l) ∧ (B = none → c = 0) ∧ m ≤ c ∧ c ≤ maxLen
theorem BL.below {w w' : World} {lo hi n : Nat} {A : Option Addr} {ls : List (List UInt8)} {vs : List Value} (h : BL w lo hi A n ls vs) {B : Nat} (hb : Below B w w') (hB : hi ≤ B) : BL w' lo hi A n ls vs :=
  ⟨h.row.below hb hB, h.len, fun k l hk => by
    obtain ⟨B, m, c, h1, h2, h3⟩ := h.at_ k l hk
    exact ⟨B, m, c, h1, h2.below hb hB, h3⟩⟩
theorem BL.drewN {w : World} {lo hi n : Nat} {A : Option Addr} {ls : List (List UInt8)} {vs : List Value} (h : BL w lo hi A n ls vs) (k : Nat) : BL (w.drewN k) lo hi A n ls vs := ⟨h.row.drewN k, h.len, h.at_⟩
/-- The slice at a place, as the walk loads it. -/
theorem BL.get {w : World} {lo hi n : Nat} {A : Option Addr} {ls : List (List UInt8)} {vs : List Value} (h : BL w lo hi A n ls vs) {k : Nat} (hk : k < n) :
    ∃ b off l B m c, A = some ⟨b, off, none⟩ ∧ ls[k]? = some l ∧ w.cell? ⟨b, off + k, none⟩ = some (.slice B m c) ∧ Row w lo hi B m (U l) ∧ (B = none → c = 0) ∧ m ≤ c ∧ c ≤ maxLen := by
  obtain ⟨b, off, u, rfl, _, _, hu, hc⟩ := h.row.at_ hk
  obtain ⟨l, hl⟩ : ∃ l, ls[k]? = some l := ⟨ls[k]'(by rw [h.len]; exact hk), List.getElem?_eq_getElem _⟩
  obtain ⟨B, m, c, h1, h2, h3, h4, h5⟩ := h.at_ k l hl
  rw [h1] at hu
  injection hu with hu
  subst hu
  exact ⟨b, off, l, B, m, c, rfl, hl, hc, h2, h3, h4, h5⟩
def LightB (w : World) (ls : List (List UInt8)) (many long : Nat) (e : Ending) (w' : World) : Prop :=
  ∃ b, e = .returned (.bool b) ∧ (b = true → ls.length ≤ many ∧ ∀ l ∈ ls, l.length ≤ long) ∧ w' = w
end Go.Proofs.YtpckloafdlkefaaGreat
