/-
  Lists of bytes in memory: a slice of slices; the kit's Light and Lists over them.
-/
import Derived.Test.YtchimkkpjdbdpaaKit
import Derived.Deep.RegionHeld3
namespace Go.Proofs.Ytchimkkpjdbdpaa
set_option maxRecDepth 40000
open Go.RowKit

/-- A slice of n slices of bytes, all of whose cells lie in blocks of [lo, hi). -/
structure BL (w : World) (lo hi : Nat) (A : Option Addr) (n : Nat) (ls : List (List UInt8)) (vs : List Value) : Prop where
  row : Row w lo hi A n vs
  len : ls.length = n
  at_ : ∀ (k : Nat) (l : List UInt8), ls[k]? = some l → ∃ B m c, vs[k]? = some (.slice B m c) ∧ Row w lo hi B m (U l) ∧ (B = none → c = 0) ∧ m ≤ c ∧ c ≤ maxLen
theorem BL.below {w w' : World} {lo hi n : Nat} {A : Option Addr} {ls : List (List UInt8)} {vs : List Value} (h : BL w lo hi A n ls vs) {B : Nat} (hb : Below B w w') (hB : hi ≤ B) : BL w' lo hi A n ls vs :=
  ⟨h.row.below hb hB, h.len, fun k l hk => by
    obtain ⟨B, m, c, h1, h2, h3⟩ := h.at_ k l hk
    exact ⟨B, m, c, h1, h2.below hb hB, h3⟩⟩
theorem BL.drewN {w : World} {lo hi n : Nat} {A : Option Addr} {ls : List (List UInt8)} {vs : List Value} (h : BL w lo hi A n ls vs) (k : Nat) : BL (w.drewN k) lo hi A n ls vs := ⟨h.row.drewN k, h.len, h.at_⟩
/-- The slice at a place, as the walk loads it. -/
theorem BL.get {w : World} {lo hi n : Nat} {A : Option Addr} {ls : List (List UInt8)} {vs : List Value} (h : BL w lo hi A n ls vs) {k : Nat} (hk : k < n) :
    ∃ b off l B m c, A = some ⟨b, off, none⟩ ∧ ls[k]? = some l ∧ w.cell? ⟨b, off + k, none⟩ = some (.slice B m c) ∧ Row w lo hi B m (U l) ∧ (B = none → c = 0) ∧ m ≤ c ∧ c ≤ maxLen := by
  obtain ⟨b, off, u, rfl, _, _, hu, hc⟩ := h.row.at_ hk
  obtain ⟨l, hl⟩ : ∃ l, ls[k]? = some l := ⟨ls[k]'(by rw [h.len]; exact hk), List.getElem?_eq_getElem _⟩
  obtain ⟨B, m, c, h1, h2, h3, h4, h5⟩ := h.at_ k l hl
  rw [h1] at hu
  injection hu with hu
  subst hu
  exact ⟨b, off, l, B, m, c, rfl, hl, hc, h2, h3, h4, h5⟩
def LightB (w : World) (ls : List (List UInt8)) (many long : Nat) (e : Ending) (w' : World) : Prop :=
  ∃ b, e = .returned (.bool b) ∧ (b = true → ls.length ≤ many ∧ ∀ l ∈ ls, l.length ≤ long) ∧ w' = w
set_option maxHeartbeats 1000000 in
theorem lightb_any (A : Option Addr) (n c lo hi : Nat) (ls : List (List UInt8)) (vs : List Value) (many long : Nat) (w : World) (h : BL w lo hi A n ls vs) (hn : n ≤ 9223372036854775807) :
    Calls Try.prog 27 #[.slice A n c, .int .i64 (many : Int), .int .i64 (long : Int)] w (LightB w ls many long) := by
  have HB := hid h
  have HL := hid h.len
  clear h
  by_cases hm : many < n
  · go_enter Try.func27, Try.ntmps27
    go_wp2
    go_ret
    exact ⟨false, rfl, (fun e => by cases e), rfl⟩
  · go_enter Try.func27, Try.ntmps27
    go_wp2
    go_loopw [7] (fun i wr => ∃ k : Nat, k ≤ n ∧ i = .int .i64 (k : Int) ∧ (∀ j l, j < k → ls[j]? = some l → l.length ≤ long) ∧ w = wr) (fun i _ => n - (intOf i).toNat)
    case atStart => exact ⟨0, Nat.zero_le _, rfl, (fun j l hj => by omega), rfl⟩
    case round =>
      obtain ⟨k, hk, rfl, hall, rfl⟩ := hrel
      have HALL := hid hall
      clear hall
      by_cases hlt : k < n
      · obtain ⟨b, off, l, B, m, cc, rfl, hl, hc, hr, _, _, _⟩ := HB.out.get hlt
        have hlm : l.length = m := by have := hr.len; rwa [U_len] at this
        have HLM := hid hlm
        have HLK := hid hl
        clear hr hl hlm
        by_cases hlong : long < m
        · go_wp2
          go_ret
          exact ⟨false, rfl, (fun e => by cases e), rfl⟩
        · go_wp2
          go_roundw
          case rel =>
            refine ⟨k + 1, by omega, by go_num, fun j x hj hx => ?_, by trivial⟩
            rcases Nat.lt_or_ge j k with hj' | hj'
            · exact HALL.out j x hj' hx
            · obtain rfl : j = k := by omega
              rw [HLK.out] at hx
              injection hx with hx
              subst hx
              rw [HLM.out]
              omega
          case measure => simp [intOf]; omega
      · obtain rfl : k = n := by omega
        go_wp2
        go_ret
        refine ⟨true, rfl, fun _ => ⟨by rw [HL.out]; omega, fun x hx => ?_⟩, rfl⟩
        obtain ⟨j, hj, hja⟩ := List.mem_iff_getElem.1 hx
        exact HALL.out j x (by rw [← HL.out]; exact hj) (by rw [List.getElem?_eq_getElem hj, hja])
end Go.Proofs.Ytchimkkpjdbdpaa
