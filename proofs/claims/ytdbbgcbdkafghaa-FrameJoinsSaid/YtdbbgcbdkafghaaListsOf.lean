/-
  Lists of bytes in memory: a slice of slices; the kit's Light and Lists over them.
-/
import Derived.Test.YtdbbgcbdkafghaaKit
import Derived.Deep.RegionHeld3
namespace Go.Proofs.Ytdbbgcbdkafghaa
open Go.RowKit

/-- A slice of n slices of bytes, all of whose cells lie in blocks of [lo, hi). -/
structure BL (w : World) (lo hi : Nat) (A : Option Addr) (n : Nat) (ls : List (List UInt8)) (vs : List Value) : Prop where
  row : Row w lo hi A n vs
  len : ls.length = n
  at_ : ∀ (k : Nat) (l : List UInt8), ls[k]? = some l → ∃ B m c, vs[k]? = some (.slice B m c) ∧ Row w lo hi B m (U l) ∧ (B = none → c = 0) ∧ m ≤ c ∧ c ≤ maxLen
theorem BL.below {w w' : World} {lo hi n : Nat} {A : Option Addr} {ls : List (List UInt8)} {vs : List Value} (h : BL w lo hi A n ls vs) {B : Nat} (hb : Below B w w') (hB : hi ≤ B) : BL w' lo hi A n ls vs :=
  ⟨h.row.below hb hB, h.len, fun k l hk => by
    obtain ⟨B, m, c, h1, h2, h3⟩ := h.at_ k l hk
    exact ⟨B, m, c, h1, h2.below hb hB, h3⟩⟩
theorem BL.drewN {w : World} {lo hi n : Nat} {A : Option Addr} {ls : List (List UInt8)} {vs : List Value} (h : BL w lo hi A n ls vs) (k : Nat) : BL (w.drewN k) lo hi A n ls vs := ⟨h.row.drewN k, h.len, h.at_⟩
/-- The slice at a place, as the walk loads it. -/
theorem BL.get {w : World} {lo hi n : Nat} {A : Option Addr} {ls : List (List UInt8)} {vs : List Value} (h : BL w lo hi A n ls vs) {k : Nat} (hk : k < n) :
    ∃ b off l B m c, A = some ⟨b, off, none⟩ ∧ ls[k]? = some l ∧ w.cell? ⟨b, off + k, none⟩ = some (.slice B m c) ∧ Row w lo hi B m (U l) ∧ (B = none → c = 0) ∧ m ≤ c ∧ c ≤ maxLen := by
  obtain ⟨b, off, u, rfl, _, _, hu, hc⟩ := h.row.at_ hk
  obtain ⟨l, hl⟩ : ∃ l, ls[k]? = some l := ⟨ls[k]'(by rw [h.len]; exact hk), List.getElem?_eq_getElem _⟩
  obtain ⟨B, m, c, h1, h2, h3, h4, h5⟩ := h.at_ k l hl
  rw [h1] at hu
  injection hu with hu
  subst hu
  exact ⟨b, off, l, B, m, c, rfl, hl, hc, h2, h3, h4, h5⟩
def LightB (w : World) (ls : List (List UInt8)) (many long : Nat) (e : Ending) (w' : World) : Prop :=
  ∃ b, e = .returned (.bool b) ∧ (b = true → ls.length ≤ many ∧ ∀ l ∈ ls, l.length ≤ long) ∧ w' = w
set_option maxHeartbeats 1000000 in
theorem lightb_any (A : Option Addr) (n c lo hi : Nat) (ls : List (List UInt8)) (vs : List Value) (many long : Nat) (w : World) (h : BL w lo hi A n ls vs) (hn : n ≤ 9223372036854775807) :
    Calls Try.prog 23 #[.slice A n c, .int .i64 (many : Int), .int .i64 (long : Int)] w (LightB w ls many long) := by
  have HB := hid h
  have HL := hid h.len
  clear h
  by_cases hm : many < n
  · go_enter Try.func23, Try.ntmps23
    go_wp2
    go_ret
    exact ⟨false, rfl, (fun e => by cases e), rfl⟩
  · go_enter Try.func23, Try.ntmps23
    go_wp2
    go_loopw [7] (fun i wr => ∃ k : Nat, k ≤ n ∧ i = .int .i64 (k : Int) ∧ (∀ j l, j < k → ls[j]? = some l → l.length ≤ long) ∧ w = wr) (fun i _ => n - (intOf i).toNat)
    case atStart => exact ⟨0, Nat.zero_le _, rfl, (fun j l hj => by omega), rfl⟩
    case round =>
      obtain ⟨k, hk, rfl, hall, rfl⟩ := hrel
      have HALL := hid hall
      clear hall
      by_cases hlt : k < n
      · obtain ⟨b, off, l, B, m, cc, rfl, hl, hc, hr, _, _, _⟩ := HB.out.get hlt
        have hlm : l.length = m := by have := hr.len; rwa [U_len] at this
        have HLM := hid hlm
        have HLK := hid hl
        clear hr hl hlm
        by_cases hlong : long < m
        · go_wp2
          go_ret
          exact ⟨false, rfl, (fun e => by cases e), rfl⟩
        · go_wp2
          go_roundw
          case rel =>
            refine ⟨k + 1, by omega, by go_num, fun j x hj hx => ?_, by trivial⟩
            rcases Nat.lt_or_ge j k with hj' | hj'
            · exact HALL.out j x hj' hx
            · obtain rfl : j = k := by omega
              rw [HLK.out] at hx
              injection hx with hx
              subst hx
              rw [HLM.out]
              omega
          case measure => simp [intOf]; omega
      · obtain rfl : k = n := by omega
        go_wp2
        go_ret
        refine ⟨true, rfl, fun _ => ⟨by rw [HL.out]; omega, fun x hx => ?_⟩, rfl⟩
        obtain ⟨j, hj, hja⟩ := List.mem_iff_getElem.1 hx
        exact HALL.out j x (by rw [← HL.out]; exact hj) (by rw [List.getElem?_eq_getElem hj, hja])
set_option maxHeartbeats 1000000 in
set_option maxRecDepth 20000 in
theorem lists_any (A A' : Option Addr) (n n' c c' lo hi lo' hi' : Nat) (ls ls' : List (List UInt8)) (vs vs' : List Value) (w : World) (h : BL w lo hi A n ls vs) (h' : BL w lo' hi' A' n' ls' vs') (hup : hi ≤ w.heap.size) (hup' : hi' ≤ w.heap.size) (hn : n ≤ 9223372036854775807) :
    Calls Try.prog 21 #[.slice A n c, .slice A' n' c'] w fun e w' => e = .returned (.bool (decide (ls = ls'))) ∧ Below w.heap.size w w' := by
  have HB := hid h
  have HB' := hid h'
  have HL := hid h.len
  have HL' := hid h'.len
  clear h h'
  by_cases hnn : n = n'
  case neg =>
    have hne : ((n : Int) != (n' : Int)) = true := by simp; omega
    have hdec : decide (ls = ls') = false := decide_eq_false fun e => hnn (by rw [← HL.out, ← HL'.out, e])
    rw [hdec]
    clear hdec
    go_enter Try.func21, Try.ntmps21
    go_wp2
    go_ret
    exact ⟨rfl, Below.refl _ _⟩
  case pos =>
    subst hnn
    go_enter Try.func21, Try.ntmps21
    go_wp2
    go_loopw [5] (fun i wr => ∃ (k : Nat), k ≤ n ∧ i = .int .i64 (k : Int) ∧ (∀ j, j < k → ls[j]? = ls'[j]?) ∧ Below w.heap.size w wr) (fun i _ => n - (intOf i).toNat)
    case atStart => exact ⟨0, Nat.zero_le _, rfl, (fun j hj => by omega), Below.refl _ _⟩
    case round =>
      obtain ⟨k, hk, rfl, hall, hbr⟩ := hrel
      have HBR := hid hbr
      clear hbr
      have HALL := hid hall
      clear hall
      by_cases hlt : k < n
      · obtain ⟨b, off, l, B, m, cc, rfl, hl, hc, hr, _, _, hcm⟩ := HB.out.get hlt
        obtain ⟨b', off', l', B', m', cc', rfl, hl', hc', hr', _, _, _⟩ := HB'.out.get hlt
        have hm : m ≤ 9223372036854775807 := by unfold maxLen at hcm; omega
        have SM : Hid (∀ W, Below w.heap.size w W → Calls Try.prog 20 #[.slice B m cc, .slice B' m' cc'] W fun e w' => e = .returned (.bool (decide (l = l'))) ∧ Below w.heap.size w w') := hid fun W hW =>
          (same_any B B' m m' cc cc' lo hi lo' hi' l l' W (hr.below hW hup) (hr'.below hW hup') hm).mono fun e w' ⟨h1, j, h2⟩ => ⟨h1, by rw [h2]; exact below_drewN hW j⟩
        have K1 : Hid (∀ W, Below w.heap.size w W → W.cell? ⟨b, off + k, none⟩ = some (.slice B m cc) ∧ W.cell? ⟨b', off' + k, none⟩ = some (.slice B' m' cc')) := hid fun W hW => by
          obtain ⟨x1, x2, _, e1, _, x3, _, x4⟩ := HB.out.row.at_ hlt
          obtain ⟨y1, y2, _, f1, _, y3, _, y4⟩ := HB'.out.row.at_ hlt
          simp only [Option.some.injEq, Addr.mk.injEq] at e1 f1
          exact ⟨(hW.cell (p := ⟨b, off + k, none⟩) (by show b < _; omega)).trans hc, (hW.cell (p := ⟨b', off' + k, none⟩) (by show b' < _; omega)).trans hc'⟩
        have HLK := hid hl
        have HLK' := hid hl'
        have d12 := K1.out wr HBR.out
        have g1 : (k : Int) < (n : Int) := by omega
        clear hr hr' hl hl' hcm hm hc hc'
        by_cases he : l = l'
        case' pos =>
          have HD : Hid (decide (l = l') = true) := hid (decide_eq_true he)
        case' neg =>
          have HD : Hid (decide (l = l') = false) := hid (decide_eq_false he)
        all_goals
          rw [HD.out] at SM
          have HE := hid he
          clear he
          go_wp2_with fail
          go_region_held3 (fun W => W.cell? ⟨b, off + k, none⟩ = some (.slice B m cc) ∧ W.cell? ⟨b', off' + k, none⟩ = some (.slice B' m' cc'))
            (first | exact d12 | exact K1.out _ hb9)
            (first | (go_at_call 20; refine (SM.out _ (by exact (HBR.out).drew)).mono ?_; rintro e w9 ⟨rfl, hb9⟩))
          have HB9 := hid hb9
          clear hb9 d12
          first
            | (go_wp2
               go_roundw
               case rel =>
                 refine ⟨k + 1, by omega, by go_num, fun j hj => ?_, HB9.out⟩
                 rcases Nat.lt_or_ge j k with hj' | hj'
                 · exact HALL.out j hj'
                 · obtain rfl : j = k := by omega
                   rw [HLK.out, HLK'.out, HE.out]
               case measure => simp [intOf]; omega)
            | (go_wp2
               go_ret
               exact ⟨by rw [decide_eq_false (fun e => HE.out (by have h1 := HLK.out; rw [e, HLK'.out] at h1; injection h1 with h1; exact h1.symm))]; rfl, HB9.out⟩)
      · obtain rfl : k = n := by omega
        have hdec : decide (ls = ls') = true := decide_eq_true (by
          apply List.ext_getElem?
          intro j
          rcases Nat.lt_or_ge j k with hj | hj
          · exact HALL.out j hj
          · rw [List.getElem?_eq_none (by rw [HL.out]; exact hj), List.getElem?_eq_none (by rw [HL'.out]; exact hj)])
        have HDEC := hid hdec
        clear hdec
        go_wp2
        go_ret
        exact ⟨by rw [HDEC.out]; rfl, HBR.out⟩
end Go.Proofs.Ytdbbgcbdkafghaa
