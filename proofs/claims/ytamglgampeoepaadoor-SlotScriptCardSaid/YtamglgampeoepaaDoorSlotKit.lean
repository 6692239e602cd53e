/-
  Contracts of the small functions that slots stand on: Same, Own and slices.Clone at the widths that come, vec.Check and the document's.
-/
import Derived.Test.YtamglgampeoepaaDoorProg
import Derived.Test.YtamglgampeoepaaDoorCells
import Derived.Test.YtamglgampeoepaaDoorKit
import Derived.Deep.QuietTactic
import Derived.BigQuiet
import Derived.Lib.SliceRun
namespace Go.Proofs.YtamglgampeoepaaDoor
set_option maxRecDepth 40000
open Go.RowKit

theorem info16 : (Tryd.prog.info? 39).map (fun i => (i.zero, i.size, i.bytes)) = some (some (.int .i16 0), 1, 2) := by kernel_rfl
theorem info64 : (Tryd.prog.info? 3).map (fun i => (i.zero, i.size, i.bytes)) = some (some (.int .i64 0), 1, 8) := by kernel_rfl
theorem infou64 : (Tryd.prog.info? 63).map (fun i => (i.zero, i.size, i.bytes)) = some (some (.int .u64 0), 1, 8) := by kernel_rfl
theorem cells_at {K : IntKind} {w : World} {lo up : Nat} {A : Option Addr} {n : Nat} {l : List Int} (h : Row w lo up A n (IK K l)) {k : Nat} (hk : k < l.length) :
    ∃ b off, A = some ⟨b, off, none⟩ ∧ lo ≤ b ∧ b < up ∧ w.cell? ⟨b, off + k, none⟩ = some (.int K l[k]) := by
  have hl := h.len
  rw [IK_len] at hl
  obtain ⟨b, off, u, e, h1, h2, hu, hc⟩ := h.at_ (k := k) (by omega)
  rw [IK_get _ l k hk] at hu
  injection hu with hu
  subst hu
  exact ⟨b, off, e, h1, h2, hc⟩

set_option maxHeartbeats 800000 in
theorem ik_eq {l l' : List Int} (h : l.length = l'.length) {k : Nat} (hk : k = l.length) (ht : l.take k = l'.take k) : l = l' := by
  subst hk
  rw [List.take_length] at ht
  rw [ht, h, List.take_length]
theorem ik_ne {l l' : List Int} {k : Nat} (h : k < l.length) (h' : k < l'.length) (hne : (l[k] != l'[k]) = true) : decide (l = l') = false := by
  refine decide_eq_false fun e => ?_
  subst e
  simp at hne
theorem ik_take {l l' : List Int} {k : Nat} (h : k < l.length) (h' : k < l'.length) (ht : l.take k = l'.take k) (he : (l[k] != l'[k]) = false) : l.take (k + 1) = l'.take (k + 1) := by
  rw [List.take_succ_eq_append_getElem h, List.take_succ_eq_append_getElem h', ht]
  congr 2
  simpa using he

set_option maxHeartbeats 400000 in
theorem same16 (A A' : Option Addr) (n n' c c' lo up lo' up' : Nat) (l l' : List Int) (w : World) (h : Row w lo up A n (IK .i16 l)) (h' : Row w lo' up' A' n' (IK .i16 l')) (hn : n ≤ 9223372036854775807) :
    Calls Tryd.prog 16 #[.slice A n c, .slice A' n' c'] w fun e w' => e = .returned (.bool (decide (l = l'))) ∧ ∃ k, w' = w.drewN k := by
  have hl : l.length = n := by have := h.len; rwa [IK_len] at this
  have hl' : l'.length = n' := by have := h'.len; rwa [IK_len] at this
  by_cases hnn : n = n'
  · subst hnn
    have hb : ((n : Int) != (n : Int)) = false := by simp
    have HL : Hid (l.length = n) := hl
    have HL' : Hid (l'.length = n) := hl'
    clear hl hl'
    go_enter Tryd.func16, Tryd.ntmps16
    go_wp2
    go_loopw [5] (fun i wr => ∃ k : Nat, k ≤ n ∧ i = .int .i64 k ∧ l.take k = l'.take k ∧ ∃ m, wr = w.drewN m) (fun i _ => n - (intOf i).toNat)
    case atStart => exact ⟨0, Nat.zero_le _, rfl, by simp, 0, rfl⟩
    case round =>
      obtain ⟨k, hk, rfl, ht, m, rfl⟩ := hrel
      have HT : Hid (l.take k = l'.take k) := ht
      clear ht
      by_cases hlt : k < n
      · have hk1 : k < l.length := by rw [HL.out]; exact hlt
        have hk2 : k < l'.length := by rw [HL'.out]; exact hlt
        obtain ⟨b, off, rfl, _, _, hc⟩ := cells_at h hk1
        obtain ⟨b', off', rfl, _, _, hc'⟩ := cells_at h' hk2
        have g1 : (w.drewN m).cell? ⟨b, off + k, none⟩ = some (.int .i16 l[k]) := hc
        have g2 : (w.drewN m).cell? ⟨b', off' + k, none⟩ = some (.int .i16 l'[k]) := hc'
        by_cases he : (l[k] != l'[k]) = true
        · have HF' : Hid (decide (l = l') = false) := hid (ik_ne hk1 hk2 he)
          go_wp2
          go_quiet (fail)
          go_wp2
          go_ret
          exact ⟨by rw [HF'.out]; rfl, _, World.drewN_drewN _ _ _⟩
        · have he' : (l[k] != l'[k]) = false := by simpa using he
          clear he
          have HF : Hid (l.take (k + 1) = l'.take (k + 1)) := ik_take hk1 hk2 HT.out he'
          go_wp2
          go_quiet (fail)
          go_wp2
          go_roundw
          case rel => exact ⟨k + 1, by omega, by go_num, HF.out, _, rfl⟩
          case measure => simp [intOf]; omega
      · go_wp2
        go_ret
        exact ⟨by rw [decide_eq_true (ik_eq (HL.out.trans HL'.out.symm) (by rw [HL.out]; omega) HT.out)]; rfl, _, rfl⟩
  · have hb : ((n : Int) != (n' : Int)) = true := by simp; omega
    have HF : Hid (decide (l = l') = false) := decide_eq_false (fun e => hnn (by rw [← hl, ← hl', e]))
    clear hl hl'
    go_enter Tryd.func16, Tryd.ntmps16
    go_wp2
    go_ret
    exact ⟨by rw [HF.out]; rfl, 0, rfl⟩

set_option maxHeartbeats 400000 in
theorem same64 (A A' : Option Addr) (n n' c c' lo up lo' up' : Nat) (l l' : List Int) (w : World) (h : Row w lo up A n (IK .i64 l)) (h' : Row w lo' up' A' n' (IK .i64 l')) (hn : n ≤ 9223372036854775807) :
    Calls Tryd.prog 24 #[.slice A n c, .slice A' n' c'] w fun e w' => e = .returned (.bool (decide (l = l'))) ∧ ∃ k, w' = w.drewN k := by
  have hl : l.length = n := by have := h.len; rwa [IK_len] at this
  have hl' : l'.length = n' := by have := h'.len; rwa [IK_len] at this
  by_cases hnn : n = n'
  · subst hnn
    have hb : ((n : Int) != (n : Int)) = false := by simp
    have HL : Hid (l.length = n) := hl
    have HL' : Hid (l'.length = n) := hl'
    clear hl hl'
    go_enter Tryd.func24, Tryd.ntmps24
    go_wp2
    go_loopw [5] (fun i wr => ∃ k : Nat, k ≤ n ∧ i = .int .i64 k ∧ l.take k = l'.take k ∧ ∃ m, wr = w.drewN m) (fun i _ => n - (intOf i).toNat)
    case atStart => exact ⟨0, Nat.zero_le _, rfl, by simp, 0, rfl⟩
    case round =>
      obtain ⟨k, hk, rfl, ht, m, rfl⟩ := hrel
      have HT : Hid (l.take k = l'.take k) := ht
      clear ht
      by_cases hlt : k < n
      · have hk1 : k < l.length := by rw [HL.out]; exact hlt
        have hk2 : k < l'.length := by rw [HL'.out]; exact hlt
        obtain ⟨b, off, rfl, _, _, hc⟩ := cells_at h hk1
        obtain ⟨b', off', rfl, _, _, hc'⟩ := cells_at h' hk2
        have g1 : (w.drewN m).cell? ⟨b, off + k, none⟩ = some (.int .i64 l[k]) := hc
        have g2 : (w.drewN m).cell? ⟨b', off' + k, none⟩ = some (.int .i64 l'[k]) := hc'
        by_cases he : (l[k] != l'[k]) = true
        · have HF' : Hid (decide (l = l') = false) := hid (ik_ne hk1 hk2 he)
          go_wp2
          go_quiet (fail)
          go_wp2
          go_ret
          exact ⟨by rw [HF'.out]; rfl, _, World.drewN_drewN _ _ _⟩
        · have he' : (l[k] != l'[k]) = false := by simpa using he
          clear he
          have HF : Hid (l.take (k + 1) = l'.take (k + 1)) := ik_take hk1 hk2 HT.out he'
          go_wp2
          go_quiet (fail)
          go_wp2
          go_roundw
          case rel => exact ⟨k + 1, by omega, by go_num, HF.out, _, rfl⟩
          case measure => simp [intOf]; omega
      · go_wp2
        go_ret
        exact ⟨by rw [decide_eq_true (ik_eq (HL.out.trans HL'.out.symm) (by rw [HL.out]; omega) HT.out)]; rfl, _, rfl⟩
  · have hb : ((n : Int) != (n' : Int)) = true := by simp; omega
    have HF : Hid (decide (l = l') = false) := decide_eq_false (fun e => hnn (by rw [← hl, ← hl', e]))
    clear hl hl'
    go_enter Tryd.func24, Tryd.ntmps24
    go_wp2
    go_ret
    exact ⟨by rw [HF.out]; rfl, 0, rfl⟩

/-- The call hands back numbers in memory of its own, and nothing that was there has changed. -/
def FreshK (K : IntKind) (et : TypeId) (w : World) (l : List Int) (e : Ending) (w' : World) : Prop :=
  ∃ A n c, e = .returned (.slice A n c) ∧ Hid (l.length = n) ∧ Hid (A = none → c = 0) ∧ w'.ownsRow w.heap.size et 1 (.slice A n c) n (IK K l) ∧ Below w.heap.size w w'
theorem own_shape' {w : World} {base : Nat} {e : TypeId} {v : Value} {n : Nat} {xs : List Value} (h : w.ownsRow base e 1 v n xs) : ∃ A c, v = .slice A n c ∧ (A = none → c = 0) ∧ n ≤ c := by
  rcases h.2 with ⟨rfl, rfl⟩ | ⟨g, cap, cur, rfl, _, _, hc, _⟩
  · exact ⟨none, 0, rfl, fun _ => rfl, Nat.le_refl _⟩
  · exact ⟨_, cap, rfl, (fun h => by cases h), hc⟩
theorem fresh_k {K : IntKind} {et : TypeId} {w w1 : World} {l : List Int} {n : Nat} {v : Value} (hl : l.length = n) (hown : w1.ownsRow w.heap.size et 1 v n (IK K l)) (hb : Below w.heap.size w w1) : FreshK K et w l (.returned v) w1 := by
  obtain ⟨A, c, rfl, hA, _⟩ := own_shape' hown
  exact ⟨A, n, c, rfl, hl, hA, hown, hb⟩
theorem own16_any (A : Option Addr) (n c lo up : Nat) (l : List Int) (w : World) (h : Row w lo up A n (IK .i16 l)) (hA : A = none → c = 0) (hup : up ≤ w.heap.size) (hn : n ≤ 1000000) :
    Calls Tryd.prog 12 #[.slice A n c] w (FreshK .i16 39 w l) := by
  obtain ⟨i0, hi, hz0, hz1, hz2⟩ := info_parts info16
  go_enter Tryd.func12, Tryd.ntmps12
  go_wp2_with (at_builtin; refine wpList_append_row _ rfl _ _ 32 rfl w.heap.size 39 i0 (.int .i16 0) 2 Tryd.underlying32 hi hz0 hz1 hz2 rfl (.slice (some ⟨w.heap.size, 0, none⟩) 0 0) 0 [] rfl (World.ownsRow_made w #[] 0 (Nat.le_refl _) (by decide) rfl) lo up A n c rfl hA (IK .i16 l) (h.alloc hup _) (IK_one _ l) (by unfold maxLen; omega) (by omega) (by simp) ?_; intro v' w1 hown hgrow _)
  have hb : Below w.heap.size w w1 := ((Below.refl _ _).alloc (Nat.le_refl _) _).grown hgrow (by simp) (by intro k hk; simp [Value.ownBlock] at hk; omega)
  go_ret
  rw [Nat.zero_add, List.nil_append] at hown
  exact fresh_k (by have := h.len; rwa [IK_len] at this) hown hb
theorem own64_any (A : Option Addr) (n c lo up : Nat) (l : List Int) (w : World) (h : Row w lo up A n (IK .i64 l)) (hA : A = none → c = 0) (hup : up ≤ w.heap.size) (hn : n ≤ 1000000) :
    Calls Tryd.prog 28 #[.slice A n c] w (FreshK .i64 3 w l) := by
  obtain ⟨i0, hi, hz0, hz1, hz2⟩ := info_parts info64
  go_enter Tryd.func28, Tryd.ntmps28
  go_wp2_with (at_builtin; refine wpList_append_row _ rfl _ _ 45 rfl w.heap.size 3 i0 (.int .i64 0) 8 Tryd.underlying45 hi hz0 hz1 hz2 rfl (.slice (some ⟨w.heap.size, 0, none⟩) 0 0) 0 [] rfl (World.ownsRow_made w #[] 0 (Nat.le_refl _) (by decide) rfl) lo up A n c rfl hA (IK .i64 l) (h.alloc hup _) (IK_one _ l) (by unfold maxLen; omega) (by omega) (by simp) ?_; intro v' w1 hown hgrow _)
  have hb : Below w.heap.size w w1 := ((Below.refl _ _).alloc (Nat.le_refl _) _).grown hgrow (by simp) (by intro k hk; simp [Value.ownBlock] at hk; omega)
  go_ret
  rw [Nat.zero_add, List.nil_append] at hown
  exact fresh_k (by have := h.len; rwa [IK_len] at this) hown hb
theorem clone16_any (A : Option Addr) (n c lo up : Nat) (l : List Int) (w : World) (h : Row w lo up A n (IK .i16 l)) (hA : A = none → c = 0) (hup : up ≤ w.heap.size) (hn : n ≤ 17592186044416) :
    Calls Tryd.prog 36 #[.slice A n c] w (FreshK .i16 39 w l) := by
  obtain ⟨i0, hi, hz0, hz1, hz2⟩ := info_parts info16
  rcases A with _ | ad
  · obtain rfl : c = 0 := hA rfl
    have h0 : n = 0 := by
      rcases Nat.eq_zero_or_pos n with h0 | h0
      · exact h0
      · obtain ⟨b, off, e, _⟩ := h.2 h0
        cases e
    subst h0
    obtain rfl : l = [] := List.eq_nil_of_length_eq_zero (by have := h.len; rwa [IK_len] at this)
    have q := fun (W : World) => Lib.run_eql_slice_nil (P := Tryd.prog) W 32 39 none 0 0 0 0 Tryd.underlying32
    go_enter Tryd.func36, Tryd.ntmps36
    go_wp2
    go_ret
    exact fresh_k (n := 0) rfl (World.ownsRow_nil _ _ _ _) (Below.refl _ _)
  · have q := fun (W : World) => Lib.run_eql_slice_nil (P := Tryd.prog) W 32 39 (some ad) n c 0 0 Tryd.underlying32
    go_enter Tryd.func36, Tryd.ntmps36
    go_wp2_with (at_builtin; refine wpList_append_row _ rfl _ _ 32 rfl w.heap.size 39 i0 (.int .i16 0) 2 Tryd.underlying32 hi hz0 hz1 hz2 rfl (.slice (some ⟨w.heap.size, 0, none⟩) 0 0) 0 [] rfl (World.ownsRow_made w #[] 0 (Nat.le_refl _) (by decide) rfl) lo up (some ad) n c rfl hA (IK .i16 l) (h.alloc hup _) (IK_one _ l) (by unfold maxLen; omega) (by omega) (by simp) ?_; intro v' w1 hown hgrow _)
    have hb : Below w.heap.size w w1 := ((Below.refl _ _).alloc (Nat.le_refl _) _).grown hgrow (by simp) (by intro k hk; simp [Value.ownBlock] at hk; omega)
    go_ret
    rw [Nat.zero_add, List.nil_append] at hown
    exact fresh_k (by have := h.len; rwa [IK_len] at this) hown hb

theorem clone64_any (A : Option Addr) (n c lo up : Nat) (l : List Int) (w : World) (h : Row w lo up A n (IK .i64 l)) (hA : A = none → c = 0) (hup : up ≤ w.heap.size) (hn : n ≤ 17592186044416) :
    Calls Tryd.prog 39 #[.slice A n c] w (FreshK .i64 3 w l) := by
  obtain ⟨i0, hi, hz0, hz1, hz2⟩ := info_parts info64
  rcases A with _ | ad
  · obtain rfl : c = 0 := hA rfl
    have h0 : n = 0 := by
      rcases Nat.eq_zero_or_pos n with h0 | h0
      · exact h0
      · obtain ⟨b, off, e, _⟩ := h.2 h0
        cases e
    subst h0
    obtain rfl : l = [] := List.eq_nil_of_length_eq_zero (by have := h.len; rwa [IK_len] at this)
    have q := fun (W : World) => Lib.run_eql_slice_nil (P := Tryd.prog) W 45 3 none 0 0 0 0 Tryd.underlying45
    go_enter Tryd.func39, Tryd.ntmps39
    go_wp2
    go_ret
    exact fresh_k (n := 0) rfl (World.ownsRow_nil _ _ _ _) (Below.refl _ _)
  · have q := fun (W : World) => Lib.run_eql_slice_nil (P := Tryd.prog) W 45 3 (some ad) n c 0 0 Tryd.underlying45
    go_enter Tryd.func39, Tryd.ntmps39
    go_wp2_with (at_builtin; refine wpList_append_row _ rfl _ _ 45 rfl w.heap.size 3 i0 (.int .i64 0) 8 Tryd.underlying45 hi hz0 hz1 hz2 rfl (.slice (some ⟨w.heap.size, 0, none⟩) 0 0) 0 [] rfl (World.ownsRow_made w #[] 0 (Nat.le_refl _) (by decide) rfl) lo up (some ad) n c rfl hA (IK .i64 l) (h.alloc hup _) (IK_one _ l) (by unfold maxLen; omega) (by omega) (by simp) ?_; intro v' w1 hown hgrow _)
    have hb : Below w.heap.size w w1 := ((Below.refl _ _).alloc (Nat.le_refl _) _).grown hgrow (by simp) (by intro k hk; simp [Value.ownBlock] at hk; omega)
    go_ret
    rw [Nat.zero_add, List.nil_append] at hown
    exact fresh_k (by have := h.len; rwa [IK_len] at this) hown hb

theorem cloneu_any (A : Option Addr) (n c lo up : Nat) (l : List Int) (w : World) (h : Row w lo up A n (IK .u64 l)) (hA : A = none → c = 0) (hup : up ≤ w.heap.size) (hn : n ≤ 17592186044416) :
    Calls Tryd.prog 38 #[.slice A n c] w (FreshK .u64 63 w l) := by
  obtain ⟨i0, hi, hz0, hz1, hz2⟩ := info_parts infou64
  rcases A with _ | ad
  · obtain rfl : c = 0 := hA rfl
    have h0 : n = 0 := by
      rcases Nat.eq_zero_or_pos n with h0 | h0
      · exact h0
      · obtain ⟨b, off, e, _⟩ := h.2 h0
        cases e
    subst h0
    obtain rfl : l = [] := List.eq_nil_of_length_eq_zero (by have := h.len; rwa [IK_len] at this)
    have q := fun (W : World) => Lib.run_eql_slice_nil (P := Tryd.prog) W 58 63 none 0 0 0 0 Tryd.underlying58
    go_enter Tryd.func38, Tryd.ntmps38
    go_wp2
    go_ret
    exact fresh_k (n := 0) rfl (World.ownsRow_nil _ _ _ _) (Below.refl _ _)
  · have q := fun (W : World) => Lib.run_eql_slice_nil (P := Tryd.prog) W 58 63 (some ad) n c 0 0 Tryd.underlying58
    go_enter Tryd.func38, Tryd.ntmps38
    go_wp2_with (at_builtin; refine wpList_append_row _ rfl _ _ 58 rfl w.heap.size 63 i0 (.int .u64 0) 8 Tryd.underlying58 hi hz0 hz1 hz2 rfl (.slice (some ⟨w.heap.size, 0, none⟩) 0 0) 0 [] rfl (World.ownsRow_made w #[] 0 (Nat.le_refl _) (by decide) rfl) lo up (some ad) n c rfl hA (IK .u64 l) (h.alloc hup _) (IK_one _ l) (by unfold maxLen; omega) (by omega) (by simp) ?_; intro v' w1 hown hgrow _)
    have hb : Below w.heap.size w w1 := ((Below.refl _ _).alloc (Nat.le_refl _) _).grown hgrow (by simp) (by intro k hk; simp [Value.ownBlock] at hk; omega)
    go_ret
    rw [Nat.zero_add, List.nil_append] at hown
    exact fresh_k (by have := h.len; rwa [IK_len] at this) hown hb

/-- Check's answer. -/
def chk (n : Nat) (dim : Int) : Int := if 1 ≤ dim ∧ dim ≤ 1024 ∧ (n : Int) = dim then 0 else 2
theorem check_any (A : Option Addr) (n c : Nat) (dim : Int) (w : World) :
    Calls Tryd.prog 30 #[.slice A n c, .int .i64 dim] w fun e w' => e = .returned (.int .i64 (chk n dim)) ∧ w = w' := by
  by_cases h1 : dim < 1
  · have HE : Hid (chk n dim = 2) := hid (by unfold chk; rw [if_neg (by omega)])
    go_enter Tryd.func30, Tryd.ntmps30
    go_wp2
    go_ret
    exact ⟨by rw [HE.out]; rfl, rfl⟩
  by_cases h2 : 1024 < dim
  · have HE : Hid (chk n dim = 2) := hid (by unfold chk; rw [if_neg (by omega)])
    go_enter Tryd.func30, Tryd.ntmps30
    go_wp2
    go_ret
    exact ⟨by rw [HE.out]; rfl, rfl⟩
  by_cases h3 : (n : Int) = dim
  · have HE : Hid (chk n dim = 0) := hid (by unfold chk; rw [if_pos (by omega)])
    have q : ((n : Int) != dim) = false := by simpa using h3
    clear h3
    go_enter Tryd.func30, Tryd.ntmps30
    go_wp2
    go_ret
    exact ⟨by rw [HE.out]; rfl, rfl⟩
  · have HE : Hid (chk n dim = 2) := hid (by unfold chk; rw [if_neg (by omega)])
    have q : ((n : Int) != dim) = true := by simpa using h3
    clear h3
    go_enter Tryd.func30, Tryd.ntmps30
    go_wp2
    go_ret
    exact ⟨by rw [HE.out]; rfl, rfl⟩
theorem rcheck_any (A : Option Addr) (n c : Nat) (dim : Int) (w : World) :
    Calls Tryd.prog 34 #[.slice A n c, .int .i64 dim] w fun e w' => e = .returned (.int .i64 (chk n dim)) ∧ w = w' := by
  by_cases h1 : dim < 1
  · have HE : Hid (chk n dim = 2) := hid (by unfold chk; rw [if_neg (by omega)])
    go_enter Tryd.func34, Tryd.ntmps34
    go_wp2
    go_ret
    exact ⟨by rw [HE.out]; rfl, rfl⟩
  by_cases h2 : 1024 < dim
  · have HE : Hid (chk n dim = 2) := hid (by unfold chk; rw [if_neg (by omega)])
    go_enter Tryd.func34, Tryd.ntmps34
    go_wp2
    go_ret
    exact ⟨by rw [HE.out]; rfl, rfl⟩
  by_cases h3 : (n : Int) = dim
  · have HE : Hid (chk n dim = 0) := hid (by unfold chk; rw [if_pos (by omega)])
    have q : ((n : Int) != dim) = false := by simpa using h3
    clear h3
    go_enter Tryd.func34, Tryd.ntmps34
    go_wp2
    go_ret
    exact ⟨by rw [HE.out]; rfl, rfl⟩
  · have HE : Hid (chk n dim = 2) := hid (by unfold chk; rw [if_neg (by omega)])
    have q : ((n : Int) != dim) = true := by simpa using h3
    clear h3
    go_enter Tryd.func34, Tryd.ntmps34
    go_wp2
    go_ret
    exact ⟨by rw [HE.out]; rfl, rfl⟩
end Go.Proofs.YtamglgampeoepaaDoor
