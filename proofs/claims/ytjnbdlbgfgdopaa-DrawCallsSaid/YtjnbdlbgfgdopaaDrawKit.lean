/-
  What the laws of draw share: Same and Own at numbers; the chapter's example.
-/
import Derived.Test.YtjnbdlbgfgdopaaDistinct
import Derived.BigQuiet
namespace Go.Proofs.Ytjnbdlbgfgdopaa
set_option maxRecDepth 40000
set_option linter.unusedVariables false
open Go.RowKit

theorem ik_eq {l l' : List Int} (h : l.length = l'.length) {k : Nat} (hk : k = l.length) (ht : l.take k = l'.take k) : l = l' := by
  subst hk
  rw [List.take_length] at ht
  rw [ht, h, List.take_length]
theorem ik_ne {l l' : List Int} {k : Nat} (h : k < l.length) (h' : k < l'.length) (hne : (l[k] != l'[k]) = true) : decide (l = l') = false := by
  refine decide_eq_false fun e => ?_
  subst e
  simp at hne
theorem ik_take {l l' : List Int} {k : Nat} (h : k < l.length) (h' : k < l'.length) (ht : l.take k = l'.take k) (he : (l[k] != l'[k]) = false) : l.take (k + 1) = l'.take (k + 1) := by
  rw [List.take_succ_eq_append_getElem h, List.take_succ_eq_append_getElem h', ht]
  congr 2
  simpa using he
set_option maxHeartbeats 400000 in
theorem sameI (A A' : Option Addr) (n n' c c' lo up lo' up' : Nat) (l l' : List Int) (w : World) (h : Row w lo up A n (IK .i64 l)) (h' : Row w lo' up' A' n' (IK .i64 l')) (hn : n ≤ 9223372036854775807) :
    Calls Try.prog 11 #[.slice A n c, .slice A' n' c'] w fun e w' => e = .returned (.bool (decide (l = l'))) ∧ ∃ k, w' = w.drewN k := by
  have hl : l.length = n := by have := h.len; rwa [IK_len] at this
  have hl' : l'.length = n' := by have := h'.len; rwa [IK_len] at this
  by_cases hnn : n = n'
  · subst hnn
    have hb : ((n : Int) != (n : Int)) = false := by simp
    have HL : Hid (l.length = n) := hl
    have HL' : Hid (l'.length = n) := hl'
    clear hl hl'
    go_enter Try.func11, Try.ntmps11
    go_wp2
    go_loopw [5] (fun i wr => ∃ k : Nat, k ≤ n ∧ i = .int .i64 k ∧ l.take k = l'.take k ∧ ∃ m, wr = w.drewN m) (fun i _ => n - (intOf i).toNat)
    case atStart => exact ⟨0, Nat.zero_le _, rfl, by simp, 0, rfl⟩
    case round =>
      obtain ⟨k, hk, rfl, ht, m, rfl⟩ := hrel
      have HT : Hid (l.take k = l'.take k) := ht
      clear ht
      by_cases hlt : k < n
      · have hk1 : k < l.length := by rw [HL.out]; exact hlt
        have hk2 : k < l'.length := by rw [HL'.out]; exact hlt
        obtain ⟨b, off, rfl, _, _, hc⟩ := cells_at h hk1
        obtain ⟨b', off', rfl, _, _, hc'⟩ := cells_at h' hk2
        have g1 : (w.drewN m).cell? ⟨b, off + k, none⟩ = some (.int .i64 l[k]) := hc
        have g2 : (w.drewN m).cell? ⟨b', off' + k, none⟩ = some (.int .i64 l'[k]) := hc'
        by_cases he : (l[k] != l'[k]) = true
        · have HF' : Hid (decide (l = l') = false) := hid (ik_ne hk1 hk2 he)
          go_wp2
          go_quiet (fail)
          go_wp2
          go_ret
          exact ⟨by rw [HF'.out]; rfl, _, World.drewN_drewN _ _ _⟩
        · have he' : (l[k] != l'[k]) = false := by simpa using he
          clear he
          have HF : Hid (l.take (k + 1) = l'.take (k + 1)) := ik_take hk1 hk2 HT.out he'
          go_wp2
          go_quiet (fail)
          go_wp2
          go_roundw
          case rel => exact ⟨k + 1, by omega, by go_num, HF.out, _, rfl⟩
          case measure => simp [intOf]; omega
      · go_wp2
        go_ret
        exact ⟨by rw [decide_eq_true (ik_eq (HL.out.trans HL'.out.symm) (by rw [HL.out]; omega) HT.out)]; rfl, _, rfl⟩
  · have hb : ((n : Int) != (n' : Int)) = true := by simp; omega
    have HF : Hid (decide (l = l') = false) := decide_eq_false (fun e => hnn (by rw [← hl, ← hl', e]))
    clear hl hl'
    go_enter Try.func11, Try.ntmps11
    go_wp2
    go_ret
    exact ⟨by rw [HF.out]; rfl, 0, rfl⟩
theorem infoU : (Try.prog.info? 27).map (fun i => (i.zero, i.size, i.bytes)) = some (some (.int .u64 0), 1, 8) := by kernel_rfl
theorem ownU (A : Option Addr) (n c lo up : Nat) (l : List Int) (w : World) (h : Row w lo up A n (IK .u64 l)) (hA : A = none → c = 0) (hup : up ≤ w.heap.size) (hn : n ≤ 1000000) :
    Calls Try.prog 19 #[.slice A n c] w fun e w' => ∃ v', e = .returned v' ∧ w'.ownsRow w.heap.size 27 1 v' n (IK .u64 l) ∧ Below w.heap.size w w' := by
  obtain ⟨i0, hi, hz0, hz1, hz2⟩ := info_parts infoU
  go_enter Try.func19, Try.ntmps19
  go_wp2_with (at_builtin; refine wpList_append_row _ rfl _ _ 28 rfl w.heap.size 27 i0 (.int .u64 0) 8 Try.underlying28 hi hz0 hz1 hz2 rfl (.slice (some ⟨w.heap.size, 0, none⟩) 0 0) 0 [] rfl (World.ownsRow_made w #[] 0 (Nat.le_refl _) (by decide) rfl) lo up A n c rfl hA (IK .u64 l) (h.alloc hup _) (IK_one _ l) (by unfold maxLen; omega) (by omega) (by simp) ?_; intro v' w1 hown hgrow _)
  have hb : Below w.heap.size w w1 := ((Below.refl _ _).alloc (Nat.le_refl _) _).grown hgrow (by simp) (by intro k hk; simp [Value.ownBlock] at hk; omega)
  go_ret
  rw [Nat.zero_add, List.nil_append] at hown
  exact ⟨v', rfl, hown, hb⟩
theorem row_lit11 (K : IntKind) (w : World) (t : TypeId) (l : List Int) (cs : Array Value) (n g : Nat) (hc : cs = (IK K l).toArray) (hn : n = l.length) (hg : g = w.heap.size) : Row (w.alloc (.cells cs t)) g (g + 1) (some ⟨g, 0, none⟩) n (IK K l) := by
  subst hc hn hg
  refine ⟨IK_len _ _, fun _ => ⟨w.heap.size, 0, rfl, Nat.le_refl _, Nat.lt_succ_self _, fun j u hj => ?_⟩⟩
  rw [(Blk.new w t (IK K l).toArray).cell, Nat.zero_add, List.getElem?_toArray]
  exact hj
theorem lives_any (w : World) : Calls Try.prog 10 #[] w fun e w' => e = .returned (.bool true) ∧ Below w.heap.size w w' := by
  have cp := picks_any (some ⟨w.heap.size, 0, none⟩) 1 1 w.heap.size (w.heap.size + 1) [2] 4 4 _ (row_lit11 .u64 w 27 [2] #[.int .u64 2] 1 _ rfl rfl rfl) (by simp) (by omega) (by intro x hx; simp at hx; subst hx; decide)
  have e0 : pkI [2] 4 4 = ([2, 3, 0, 1], 0) := by decide
  rw [e0] at cp
  go_enter Try.func10, Try.ntmps10
  go_wp2_with fail
  refine cp.mono ?_
  rintro e w1 ⟨A, n, c, er, rfl, hl, hr, _, _, hR, hb⟩
  have hr := hr.out
  have hn : n = 4 := hl.out.symm
  subst hn
  have hr : er = 0 := hr.symm
  subst hr
  have cs := sameI A (some ⟨w1.heap.size, 0, none⟩) 4 4 c 4 _ _ _ _ [2, 3, 0, 1] [2, 3, 0, 1] (w1.alloc (.cells #[.int .i64 2, .int .i64 3, .int .i64 0, .int .i64 1] 3)) (hR.alloc (Nat.le_refl _) _) (row_lit11 .i64 w1 3 [2, 3, 0, 1] _ 4 _ rfl rfl rfl) (by omega)
  have HB := hid hb
  clear hb hR hl cp
  go_wp2_with fail
  refine cs.mono ?_
  rintro e w2 ⟨rfl, k, rfl⟩
  go_wp2
  go_ret
  have hb : Below w.heap.size w w1 := (((Below.refl _ _).alloc (Nat.le_refl _) _).trans (HB.out.mono (by simp)))
  exact ⟨rfl, below_drewN (hb.alloc hb.size _) k⟩
end Go.Proofs.Ytjnbdlbgfgdopaa
