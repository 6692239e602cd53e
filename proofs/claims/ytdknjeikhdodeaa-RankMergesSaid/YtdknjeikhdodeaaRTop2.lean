/-
  The reference's Sorted, New, Worst, Add of layer 4.
-/
import Derived.Test.YtdknjeikhdodeaaRTop
namespace Go.Proofs.Ytdknjeikhdodeaa
open Go.RowKit Go.Sort

set_option maxHeartbeats 1600000 in
theorem rsorted_any (A : Option Addr) (n c lo up : Nat) (l : List (Int × Int)) (w : World) (h : Nears w lo up A n l) (hup : up ≤ w.heap.size) (hn : n ≤ 10000000) :
    Calls Try.prog 21 #[.slice A n c] w fun e w' => ∃ v, e = .returned v ∧ w'.ownsRow w.heap.size 29 2 v n (NC (srt l)) ∧ Below w.heap.size w w' := by
  have HL := hid h.1
  go_enter Try.func21, Try.ntmps21
  go_wp2
  go_loopw [3, 4] (fun v i wr => ∃ k : Nat, k ≤ n ∧ i = .int .i64 k ∧ wr.ownsRow w.heap.size 29 2 v k (NC (srt (l.take k))) ∧ Below w.heap.size w wr) (fun _ i _ => n - (intOf i).toNat)
  case atStart => exact ⟨0, Nat.zero_le _, rfl, World.ownsRow_nil _ _ _ _, Below.refl _ _⟩
  case round =>
    obtain ⟨k, hk, rfl, hown, hb⟩ := hrel
    by_cases hlt : k < n
    · have hr := h.below hb hup
      obtain ⟨b, off, rfl, hb1, hb2, c1, c2⟩ := hr.at_ hlt
      obtain ⟨⟨y1, y2⟩, HY⟩ : ∃ y, Hid (l.getD k (0, 0) = y) := ⟨_, hid rfl⟩
      rw [HY.out] at c1 c2
      obtain ⟨A1, e1, rfl⟩ := own_shape2 hown
      obtain ⟨hN, hA1, hle, hmx⟩ := nears_own hown
      have hs : Hid (srt (l.take (k + 1)) = ins (srt (l.take k)) (y1, y2)) := by
        have hk' : k < l.length := by rw [HL.out]; exact hlt
        have e : l.take (k + 1) = l.take k ++ [(y1, y2)] := by
          rw [List.take_succ_eq_append_getElem hk', ← HY.out]
          simp [List.getD_eq_getElem?_getD, hk']
        exact hid (by rw [e, srt_snoc])
      have hsz := hb.size
      clear hown hr
      go_wp2_with fail
      refine (rinto_any A1 k e1 _ _ _ (y1, y2) wr hN hA1 hle hmx (Nat.le_refl _) (by omega) (srt_ord _)).mono ?_
      rintro e w1 ⟨v1, rfl, hown1, hb1'⟩
      rw [← hs.out] at hown1
      have hb2' := hb.trans (hb1'.mono hsz)
      have hown2 := own_base hown1 hsz
      clear hb1' hown1
      go_wp2
      go_roundw
      case rel => exact ⟨k + 1, by omega, by go_num, hown2, hb2'⟩
      case measure => simp [intOf]; omega
    · obtain rfl : k = n := by omega
      rw [List.take_of_length_le (by rw [HL.out]; exact Nat.le_refl _)] at hown
      go_wp2
      go_ret
      exact ⟨_, rfl, hown, hb⟩

/-- Block T is the reference's Top of k, it has the first k of l, in block R if there is one. -/
def RAt (w : World) (T : Nat) (R : Option Nat) (k : Nat) (l : List (Int × Int)) : Prop :=
  ∃ A c, Blk w T 43 #[.int .i64 k, .slice A (keep k l).length c] ∧ (Value.slice A (keep k l).length c).ownBlock = R ∧ w.ownsRow (T + 1) 29 2 (.slice A (keep k l).length c) (keep k l).length (NC (keep k l))
section
variable {w w' : World} {T k : Nat} {R : Option Nat} {l : List (Int × Int)} {F : List Nat}
theorem RAt.touch (hT : RAt w T R k l) (ht : Touch w w' F) (h1 : T ∉ F) (h2 : ∀ g, R = some g → g ∉ F) : RAt w' T R k l := by
  obtain ⟨A, c, hB, hG, hown⟩ := hT
  exact ⟨A, c, hB.touch ht h1, hG, own_touch hown ht (by rw [hG]; exact h2)⟩
theorem RAt.lays (hT : RAt w T R k l) (ht : Lays w w') : RAt w' T R k l := hT.touch (touch_lays ht []) (by simp) (by simp)
theorem RAt.lt (hT : RAt w T R k l) : T < w.heap.size ∧ ∀ g, R = some g → T < g ∧ g < w.heap.size := by
  obtain ⟨A, c, hB, hG, hown⟩ := hT
  exact ⟨hB.lt, fun g hg => by have := hown.lt g (hG.trans hg); omega⟩
end
theorem rnew_bad (k : Int) (hk : k < 0 ∨ 16777216 < k) (w : World) : Calls Try.prog 16 #[.int .i64 k] w fun e w' => e = .returned (.tuple #[.pointer none, .int .i64 2]) ∧ w = w' := by
  by_cases h : k < 0
  · clear hk
    go_enter Try.func16, Try.ntmps16
    go_wp2
    go_ret2
    exact ⟨rfl, rfl⟩
  · have h1 : 0 ≤ k := by omega
    have h2 : 16777216 < k := by omega
    clear hk h
    go_enter Try.func16, Try.ntmps16
    go_wp2
    go_ret2
    exact ⟨rfl, rfl⟩
theorem rnew_ok (k : Nat) (hk : k ≤ 16777216) (w : World) : Calls Try.prog 16 #[.int .i64 k] w fun e w' => e = .returned (.tuple #[.pointer (some ⟨w.heap.size, 0, none⟩), .int .i64 0]) ∧ RAt w' w.heap.size none k [] ∧ Lays w w' := by
  go_enter Try.func16, Try.ntmps16
  go_wp2
  go_ret2
  refine ⟨rfl, ⟨none, 0, ?_, rfl, ?_⟩, lays_alloc _ _⟩
  · rw [keep_none]; exact Blk.new _ _ _
  · rw [keep_none]; exact World.ownsRow_nil _ _ _ _
/-- What is told of the last one of those kept. -/
def wok (k : Nat) (l : List (Int × Int)) : Bool := decide (0 < k ∧ (keep k l).length = k)
def wst (k : Nat) (l : List (Int × Int)) : Int × Int := if 0 < k ∧ (keep k l).length = k then (keep k l).getLastD (0, 0) else (0, 0)
theorem worst_any (w : World) (T k : Nat) (G : Option Nat) (l : List (Int × Int)) (hT : TopAt w T G k l) :
    Calls Try.prog 11 #[.pointer (some ⟨T, 0, none⟩)] w fun e w' => e = .returned (.tuple #[.agg #[.int .i64 (wst k l).1, .int .i64 (wst k l).2], .bool (wok k l)]) ∧ Lays w w' := by
  obtain ⟨h, hT, hh, hp⟩ := hT
  have hl := hp.length_eq
  by_cases hc : 0 < k ∧ (keep k l).length = k
  · have hs : keep k l ≠ [] := by intro e; rw [e] at hc; simp at hc; omega
    have e1 : wok k l = true := decide_eq_true hc
    have e2 : wst k l = h.getD 0 (0, 0) := by unfold wst; rw [if_pos hc, last_of _ hs, hp_worst hh hp hs]
    rw [e1, e2]
    exact worst_yes w T k G h hT (by omega) hc.1
  · have e1 : wok k l = false := decide_eq_false hc
    have e2 : wst k l = (0, 0) := by unfold wst; rw [if_neg hc]
    rw [e1, e2]
    exact worst_no w T k G h hT (by omega)
theorem lastD_get (l : List (Int × Int)) (h : 0 < l.length) : l.getLastD (0, 0) = l.getD (l.length - 1) (0, 0) := by
  have hs : l ≠ [] := by intro e; rw [e] at h; simp at h
  rw [last_of l hs, List.getLast_eq_getElem, List.getD_eq_getElem?_getD, List.getElem?_eq_getElem (by omega)]
  rfl
set_option maxHeartbeats 1600000 in
theorem rworst_any (w : World) (T k : Nat) (R : Option Nat) (l : List (Int × Int)) (hT : RAt w T R k l) (hk : k ≤ 16777216) :
    Calls Try.prog 23 #[.pointer (some ⟨T, 0, none⟩)] w fun e w' => e = .returned (.tuple #[.agg #[.int .i64 (wst k l).1, .int .i64 (wst k l).2], .bool (wok k l)]) ∧ Lays w w' := by
  obtain ⟨A, c, hB, hG, hown⟩ := hT
  obtain ⟨n, HN⟩ : ∃ n, Hid ((keep k l).length = n) := ⟨_, hid rfl⟩
  have hnk : n ≤ k := by rw [← HN.out, keep_len]; omega
  rw [HN.out] at hB hown
  have hTl := hB.lt
  have L0 := lays_alloc w (.cells #[.int .i64 0, .int .i64 0] 29)
  have c0 : ∀ o, (w.alloc o).cell? ⟨T, 0, none⟩ = some (.int .i64 k) := fun o => (cell_old w o _ hTl).trans (hB.cell 0)
  have c1 : ∀ o, (w.alloc o).cell? ⟨T, 1, none⟩ = some (.slice A n c) := fun o => (cell_old w o _ hTl).trans (hB.cell 1)
  by_cases hk0 : k = 0
  · subst hk0
    have e1 : wok 0 l = false := decide_eq_false (by omega)
    have e2 : wst 0 l = (0, 0) := by unfold wst; rw [if_neg (by omega)]
    rw [e1, e2]
    go_enter Try.func23, Try.ntmps23
    go_wp2
    go_quiet (fail)
    obtain ⟨w0, hw0, hs⟩ : ∃ w0, w0 = w.drewN nq ∧ w0.heap.size = w.heap.size := ⟨_, rfl, rfl⟩
    have HL : Hid (Lays w w0) := hid (by rw [hw0]; exact lays_drewN w nq)
    have hc0 : ∀ o, (w0.alloc o).cell? ⟨T, 0, none⟩ = some (.int .i64 0) := by rw [hw0]; exact c0
    have hc1 : ∀ o, (w0.alloc o).cell? ⟨T, 1, none⟩ = some (.slice A n c) := by rw [hw0]; exact c1
    rw [drewN_alloc, ← hw0, ← hs]
    clear hw0 hs c0 c1
    go_wp2
    go_returns
    exact ⟨rfl, HL.out.trans (lays_alloc _ _)⟩
  · have hkz : ((k : Int) == 0) = false := by simp; omega
    by_cases hn : n = k
    · subst hn
      have hcc : 0 < n ∧ (keep n l).length = n := ⟨by omega, HN.out⟩
      obtain ⟨_, ⟨_, h2⟩ | ⟨g, cap, e2, hg, hh⟩⟩ := heap_of_own hown
      · rw [h2] at hcc; simp at hcc; omega
      injection e2 with e2 _ e3
      subst e2 e3
      obtain ⟨m, hm⟩ : ∃ m, n = m + 1 := ⟨n - 1, by omega⟩
      have e1 : wok n l = true := decide_eq_true hcc
      have e2 : wst n l = (keep n l).getD m (0, 0) := by
        unfold wst
        rw [if_pos hcc, lastD_get _ (by omega), HN.out, hm, Nat.add_sub_cancel]
      obtain ⟨⟨y1, y2⟩, HY⟩ : ∃ y, Hid ((keep n l).getD m (0, 0) = y) := ⟨_, hid rfl⟩
      rw [e1, e2, HY.out]
      obtain ⟨d0, d1⟩ := hh.cell (j := m) (by rw [HN.out]; omega)
      rw [HY.out] at d0 d1
      have hgl := hh.lt
      have g0 : ∀ o, (w.alloc o).cell? ⟨g, m * 2, none⟩ = some (.int .i64 y1) := fun o => (cell_old w o _ hgl).trans d0
      have g1 : ∀ o, (w.alloc o).cell? ⟨g, m * 2 + 1, none⟩ = some (.int .i64 y2) := fun o => (cell_old w o _ hgl).trans d1
      have hlt : ((n : Int) < (n : Int)) = False := by simp
      have hmn : m < n := by omega
      have hnm : (n : Int) - 1 = (m : Int) := by omega
      have hwr : IntKind.i64.wrap (m : Int) = (m : Int) := wrap_i64 (by omega) (by omega)
      clear e1 e2 hm hcc hown d0 d1
      go_enter Try.func23, Try.ntmps23
      go_wp2
      go_quiet (fail)
      obtain ⟨w0, hw0, hs⟩ : ∃ w0, w0 = w.drewN nq ∧ w0.heap.size = w.heap.size := ⟨_, rfl, rfl⟩
      have HL : Hid (Lays w w0) := hid (by rw [hw0]; exact lays_drewN w nq)
      have hc0 : ∀ o, (w0.alloc o).cell? ⟨T, 0, none⟩ = some (.int .i64 n) := by rw [hw0]; exact c0
      have hc1 : ∀ o, (w0.alloc o).cell? ⟨T, 1, none⟩ = some (.slice (some ⟨g, 0, none⟩) n c) := by rw [hw0]; exact c1
      rw [drewN_alloc, ← hw0, ← hs]
      have hg0 : ∀ o, (w0.alloc o).cell? ⟨g, m * 2, none⟩ = some (.int .i64 y1) := by rw [hw0]; exact g0
      have hg1 : ∀ o, (w0.alloc o).cell? ⟨g, m * 2 + 1, none⟩ = some (.int .i64 y2) := by rw [hw0]; exact g1
      clear hw0 hs c0 c1 g0 g1
      go_wp2
      go_region
      go_wp2
      go_returns
      exact ⟨rfl, (HL.out.trans (lays_alloc _ _)).trans (lays_drewN _ 1)⟩
    · have e1 : wok k l = false := decide_eq_false (by have := HN.out; omega)
      have e2 : wst k l = (0, 0) := by unfold wst; rw [if_neg (by have := HN.out; omega)]
      have hlt : (n : Int) < (k : Int) := by omega
      rw [e1, e2]
      clear e1 e2
      go_enter Try.func23, Try.ntmps23
      go_wp2
      go_quiet (fail)
      obtain ⟨w0, hw0, hs⟩ : ∃ w0, w0 = w.drewN nq ∧ w0.heap.size = w.heap.size := ⟨_, rfl, rfl⟩
      have HL : Hid (Lays w w0) := hid (by rw [hw0]; exact lays_drewN w nq)
      have hc0 : ∀ o, (w0.alloc o).cell? ⟨T, 0, none⟩ = some (.int .i64 k) := by rw [hw0]; exact c0
      have hc1 : ∀ o, (w0.alloc o).cell? ⟨T, 1, none⟩ = some (.slice A n c) := by rw [hw0]; exact c1
      rw [drewN_alloc, ← hw0, ← hs]
      clear hw0 hs c0 c1
      go_wp2
      go_returns
      exact ⟨rfl, HL.out.trans (lays_alloc _ _)⟩
end Go.Proofs.Ytdknjeikhdodeaa
