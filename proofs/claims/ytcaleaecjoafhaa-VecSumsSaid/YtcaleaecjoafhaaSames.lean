/-
  Contracts of Same at three widths and of the reference's Same, whatever slices come in.
-/
import Derived.Test.YtcaleaecjoafhaaThrough
import Derived.Deep.QuietTactic
import Derived.BigQuiet
namespace Go.Proofs.Ytcaleaecjoafhaa
open Go.RowKit

theorem ik_eq {l l' : List Int} (h : l.length = l'.length) {k : Nat} (hk : k = l.length) (ht : l.take k = l'.take k) : l = l' := by
  subst hk
  rw [List.take_length] at ht
  rw [ht, h, List.take_length]
theorem ik_ne {l l' : List Int} {k : Nat} (h : k < l.length) (h' : k < l'.length) (hne : (l[k] != l'[k]) = true) : decide (l = l') = false := by
  refine decide_eq_false fun e => ?_
  subst e
  simp at hne
theorem ik_take {l l' : List Int} {k : Nat} (h : k < l.length) (h' : k < l'.length) (ht : l.take k = l'.take k) (he : (l[k] != l'[k]) = false) : l.take (k + 1) = l'.take (k + 1) := by
  rw [List.take_succ_eq_append_getElem h, List.take_succ_eq_append_getElem h', ht]
  congr 2
  simpa using he

set_option maxHeartbeats 400000 in
theorem same32 (A A' : Option Addr) (n n' c c' lo up lo' up' : Nat) (l l' : List Int) (w : World) (h : Row w lo up A n (IK .i32 l)) (h' : Row w lo' up' A' n' (IK .i32 l')) (hn : n ≤ 9223372036854775807) :
    Calls Try.prog 25 #[.slice A n c, .slice A' n' c'] w fun e w' => e = .returned (.bool (decide (l = l'))) ∧ ∃ k, w' = w.drewN k := by
  have hl : l.length = n := by have := h.len; rwa [IK_len] at this
  have hl' : l'.length = n' := by have := h'.len; rwa [IK_len] at this
  by_cases hnn : n = n'
  · subst hnn
    have hb : ((n : Int) != (n : Int)) = false := by simp
    have HL : Hid (l.length = n) := hl
    have HL' : Hid (l'.length = n) := hl'
    clear hl hl'
    go_enter Try.func25, Try.ntmps25
    go_wp2
    go_loopw [5] (fun i wr => ∃ k : Nat, k ≤ n ∧ i = .int .i64 k ∧ l.take k = l'.take k ∧ ∃ m, wr = w.drewN m) (fun i _ => n - (intOf i).toNat)
    case atStart => exact ⟨0, Nat.zero_le _, rfl, by simp, 0, rfl⟩
    case round =>
      obtain ⟨k, hk, rfl, ht, m, rfl⟩ := hrel
      have HT : Hid (l.take k = l'.take k) := ht
      clear ht
      by_cases hlt : k < n
      · have hk1 : k < l.length := by rw [HL.out]; exact hlt
        have hk2 : k < l'.length := by rw [HL'.out]; exact hlt
        obtain ⟨b, off, rfl, _, _, hc⟩ := cells_at h hk1
        obtain ⟨b', off', rfl, _, _, hc'⟩ := cells_at h' hk2
        have g1 : (w.drewN m).cell? ⟨b, off + k, none⟩ = some (.int .i32 l[k]) := hc
        have g2 : (w.drewN m).cell? ⟨b', off' + k, none⟩ = some (.int .i32 l'[k]) := hc'
        by_cases he : (l[k] != l'[k]) = true
        · have HF' : Hid (decide (l = l') = false) := hid (ik_ne hk1 hk2 he)
          go_wp2
          go_quiet (fail)
          go_wp2
          go_ret
          exact ⟨by rw [HF'.out]; rfl, _, World.drewN_drewN _ _ _⟩
        · have he' : (l[k] != l'[k]) = false := by simpa using he
          clear he
          have HF : Hid (l.take (k + 1) = l'.take (k + 1)) := ik_take hk1 hk2 HT.out he'
          go_wp2
          go_quiet (fail)
          go_wp2
          go_roundw
          case rel => exact ⟨k + 1, by omega, by go_num, HF.out, _, rfl⟩
          case measure => simp [intOf]; omega
      · go_wp2
        go_ret
        exact ⟨by rw [decide_eq_true (ik_eq (HL.out.trans HL'.out.symm) (by rw [HL.out]; omega) HT.out)]; rfl, _, rfl⟩
  · have hb : ((n : Int) != (n' : Int)) = true := by simp; omega
    have HF : Hid (decide (l = l') = false) := decide_eq_false (fun e => hnn (by rw [← hl, ← hl', e]))
    clear hl hl'
    go_enter Try.func25, Try.ntmps25
    go_wp2
    go_ret
    exact ⟨by rw [HF.out]; rfl, 0, rfl⟩

set_option maxHeartbeats 400000 in
theorem same16 (A A' : Option Addr) (n n' c c' lo up lo' up' : Nat) (l l' : List Int) (w : World) (h : Row w lo up A n (IK .i16 l)) (h' : Row w lo' up' A' n' (IK .i16 l')) (hn : n ≤ 9223372036854775807) :
    Calls Try.prog 28 #[.slice A n c, .slice A' n' c'] w fun e w' => e = .returned (.bool (decide (l = l'))) ∧ ∃ k, w' = w.drewN k := by
  have hl : l.length = n := by have := h.len; rwa [IK_len] at this
  have hl' : l'.length = n' := by have := h'.len; rwa [IK_len] at this
  by_cases hnn : n = n'
  · subst hnn
    have hb : ((n : Int) != (n : Int)) = false := by simp
    have HL : Hid (l.length = n) := hl
    have HL' : Hid (l'.length = n) := hl'
    clear hl hl'
    go_enter Try.func28, Try.ntmps28
    go_wp2
    go_loopw [5] (fun i wr => ∃ k : Nat, k ≤ n ∧ i = .int .i64 k ∧ l.take k = l'.take k ∧ ∃ m, wr = w.drewN m) (fun i _ => n - (intOf i).toNat)
    case atStart => exact ⟨0, Nat.zero_le _, rfl, by simp, 0, rfl⟩
    case round =>
      obtain ⟨k, hk, rfl, ht, m, rfl⟩ := hrel
      have HT : Hid (l.take k = l'.take k) := ht
      clear ht
      by_cases hlt : k < n
      · have hk1 : k < l.length := by rw [HL.out]; exact hlt
        have hk2 : k < l'.length := by rw [HL'.out]; exact hlt
        obtain ⟨b, off, rfl, _, _, hc⟩ := cells_at h hk1
        obtain ⟨b', off', rfl, _, _, hc'⟩ := cells_at h' hk2
        have g1 : (w.drewN m).cell? ⟨b, off + k, none⟩ = some (.int .i16 l[k]) := hc
        have g2 : (w.drewN m).cell? ⟨b', off' + k, none⟩ = some (.int .i16 l'[k]) := hc'
        by_cases he : (l[k] != l'[k]) = true
        · have HF' : Hid (decide (l = l') = false) := hid (ik_ne hk1 hk2 he)
          go_wp2
          go_quiet (fail)
          go_wp2
          go_ret
          exact ⟨by rw [HF'.out]; rfl, _, World.drewN_drewN _ _ _⟩
        · have he' : (l[k] != l'[k]) = false := by simpa using he
          clear he
          have HF : Hid (l.take (k + 1) = l'.take (k + 1)) := ik_take hk1 hk2 HT.out he'
          go_wp2
          go_quiet (fail)
          go_wp2
          go_roundw
          case rel => exact ⟨k + 1, by omega, by go_num, HF.out, _, rfl⟩
          case measure => simp [intOf]; omega
      · go_wp2
        go_ret
        exact ⟨by rw [decide_eq_true (ik_eq (HL.out.trans HL'.out.symm) (by rw [HL.out]; omega) HT.out)]; rfl, _, rfl⟩
  · have hb : ((n : Int) != (n' : Int)) = true := by simp; omega
    have HF : Hid (decide (l = l') = false) := decide_eq_false (fun e => hnn (by rw [← hl, ← hl', e]))
    clear hl hl'
    go_enter Try.func28, Try.ntmps28
    go_wp2
    go_ret
    exact ⟨by rw [HF.out]; rfl, 0, rfl⟩

set_option maxHeartbeats 400000 in
theorem same8 (A A' : Option Addr) (n n' c c' lo up lo' up' : Nat) (l l' : List Int) (w : World) (h : Row w lo up A n (IK .u8 l)) (h' : Row w lo' up' A' n' (IK .u8 l')) (hn : n ≤ 9223372036854775807) :
    Calls Try.prog 29 #[.slice A n c, .slice A' n' c'] w fun e w' => e = .returned (.bool (decide (l = l'))) ∧ ∃ k, w' = w.drewN k := by
  have hl : l.length = n := by have := h.len; rwa [IK_len] at this
  have hl' : l'.length = n' := by have := h'.len; rwa [IK_len] at this
  by_cases hnn : n = n'
  · subst hnn
    have hb : ((n : Int) != (n : Int)) = false := by simp
    have HL : Hid (l.length = n) := hl
    have HL' : Hid (l'.length = n) := hl'
    clear hl hl'
    go_enter Try.func29, Try.ntmps29
    go_wp2
    go_loopw [5] (fun i wr => ∃ k : Nat, k ≤ n ∧ i = .int .i64 k ∧ l.take k = l'.take k ∧ ∃ m, wr = w.drewN m) (fun i _ => n - (intOf i).toNat)
    case atStart => exact ⟨0, Nat.zero_le _, rfl, by simp, 0, rfl⟩
    case round =>
      obtain ⟨k, hk, rfl, ht, m, rfl⟩ := hrel
      have HT : Hid (l.take k = l'.take k) := ht
      clear ht
      by_cases hlt : k < n
      · have hk1 : k < l.length := by rw [HL.out]; exact hlt
        have hk2 : k < l'.length := by rw [HL'.out]; exact hlt
        obtain ⟨b, off, rfl, _, _, hc⟩ := cells_at h hk1
        obtain ⟨b', off', rfl, _, _, hc'⟩ := cells_at h' hk2
        have g1 : (w.drewN m).cell? ⟨b, off + k, none⟩ = some (.int .u8 l[k]) := hc
        have g2 : (w.drewN m).cell? ⟨b', off' + k, none⟩ = some (.int .u8 l'[k]) := hc'
        by_cases he : (l[k] != l'[k]) = true
        · have HF' : Hid (decide (l = l') = false) := hid (ik_ne hk1 hk2 he)
          go_wp2
          go_quiet (fail)
          go_wp2
          go_ret
          exact ⟨by rw [HF'.out]; rfl, _, World.drewN_drewN _ _ _⟩
        · have he' : (l[k] != l'[k]) = false := by simpa using he
          clear he
          have HF : Hid (l.take (k + 1) = l'.take (k + 1)) := ik_take hk1 hk2 HT.out he'
          go_wp2
          go_quiet (fail)
          go_wp2
          go_roundw
          case rel => exact ⟨k + 1, by omega, by go_num, HF.out, _, rfl⟩
          case measure => simp [intOf]; omega
      · go_wp2
        go_ret
        exact ⟨by rw [decide_eq_true (ik_eq (HL.out.trans HL'.out.symm) (by rw [HL.out]; omega) HT.out)]; rfl, _, rfl⟩
  · have hb : ((n : Int) != (n' : Int)) = true := by simp; omega
    have HF : Hid (decide (l = l') = false) := decide_eq_false (fun e => hnn (by rw [← hl, ← hl', e]))
    clear hl hl'
    go_enter Try.func29, Try.ntmps29
    go_wp2
    go_ret
    exact ⟨by rw [HF.out]; rfl, 0, rfl⟩

set_option maxHeartbeats 400000 in
theorem rsame_any (A A' : Option Addr) (n n' c c' lo up lo' up' : Nat) (l l' : List Int) (w : World) (h : Row w lo up A n (IK .i32 l)) (h' : Row w lo' up' A' n' (IK .i32 l')) (hn : n ≤ 9223372036854775807) :
    Calls Try.prog 33 #[.slice A n c, .slice A' n' c'] w fun e w' => e = .returned (.bool (decide (l = l'))) ∧ ∃ k, w' = w.drewN k := by
  have hl : l.length = n := by have := h.len; rwa [IK_len] at this
  have hl' : l'.length = n' := by have := h'.len; rwa [IK_len] at this
  by_cases hnn : n = n'
  · subst hnn
    have hb : ((n : Int) != (n : Int)) = false := by simp
    have HL : Hid (l.length = n) := hl
    have HL' : Hid (l'.length = n) := hl'
    clear hl hl'
    go_enter Try.func33, Try.ntmps33
    go_wp2
    go_loopw [5] (fun i wr => ∃ k : Nat, k ≤ n ∧ i = .int .i64 k ∧ l.take k = l'.take k ∧ ∃ m, wr = w.drewN m) (fun i _ => n - (intOf i).toNat)
    case atStart => exact ⟨0, Nat.zero_le _, rfl, by simp, 0, rfl⟩
    case round =>
      obtain ⟨k, hk, rfl, ht, m, rfl⟩ := hrel
      have HT : Hid (l.take k = l'.take k) := ht
      clear ht
      by_cases hlt : k < n
      · have hk1 : k < l.length := by rw [HL.out]; exact hlt
        have hk2 : k < l'.length := by rw [HL'.out]; exact hlt
        obtain ⟨b, off, rfl, _, _, hc⟩ := cells_at h hk1
        obtain ⟨b', off', rfl, _, _, hc'⟩ := cells_at h' hk2
        have g1 : (w.drewN m).cell? ⟨b, off + k, none⟩ = some (.int .i32 l[k]) := hc
        have g2 : (w.drewN m).cell? ⟨b', off' + k, none⟩ = some (.int .i32 l'[k]) := hc'
        by_cases he : (l[k] != l'[k]) = true
        · have HF' : Hid (decide (l = l') = false) := hid (ik_ne hk1 hk2 he)
          go_wp2
          go_quiet (fail)
          go_wp2
          go_ret
          exact ⟨by rw [HF'.out]; rfl, _, World.drewN_drewN _ _ _⟩
        · have he' : (l[k] != l'[k]) = false := by simpa using he
          clear he
          have HF : Hid (l.take (k + 1) = l'.take (k + 1)) := ik_take hk1 hk2 HT.out he'
          go_wp2
          go_quiet (fail)
          go_wp2
          go_roundw
          case rel => exact ⟨k + 1, by omega, by go_num, HF.out, _, rfl⟩
          case measure => simp [intOf]; omega
      · go_wp2
        go_ret
        exact ⟨by rw [decide_eq_true (ik_eq (HL.out.trans HL'.out.symm) (by rw [HL.out]; omega) HT.out)]; rfl, _, rfl⟩
  · have hb : ((n : Int) != (n' : Int)) = true := by simp; omega
    have HF : Hid (decide (l = l') = false) := decide_eq_false (fun e => hnn (by rw [← hl, ← hl', e]))
    clear hl hl'
    go_enter Try.func33, Try.ntmps33
    go_wp2
    go_ret
    exact ⟨by rw [HF.out]; rfl, 0, rfl⟩
end Go.Proofs.Ytcaleaecjoafhaa
