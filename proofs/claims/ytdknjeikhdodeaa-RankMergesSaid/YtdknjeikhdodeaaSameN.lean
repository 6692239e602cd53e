/-
  What the laws of layer 4 share: Same and Own of pairs; the reference's Less, New.
-/
import Derived.Test.YtdknjeikhdodeaaSorted
import Derived.Test.YtdknjeikhdodeaaKit
import Derived.Laws.StructEq
namespace Go.Proofs.Ytdknjeikhdodeaa
open Go.RowKit Go.Sort

theorem guard29 : Try.prog.eqGuardType Try.prog.depth 29 = false := by kernel_rfl
theorem neq_pt (x1 x2 y1 y2 : Int) (w : World) : (binOp .neq 29 (.agg #[.int .i64 x1, .int .i64 x2]) (.agg #[.int .i64 y1, .int .i64 y2])).run Try.prog w = .ok (.bool (decide ((x1, x2) ≠ (y1, y2)))) w := by
  have u3 := Try.underlying2
  have a3 := Try.isAgg2
  have z3 := Try.sizeOf2
  have hS : Try.prog.underlying 29 = some (.struct (Try.prog.fieldsOf 29)) := by kernel_rfl
  have hp : Try.prog.stoodInHeld 29 = false := by kernel_rfl
  rw [run_neq_struct, show (10000 : Nat) = 9999 + 1 from rfl, run_equalIn_agg w 9999 29 _ _ hS hp]
  simp only [Program.fieldsOf, Try.underlying29]
  go_simp
  by_cases h1 : x1 = y1 <;> by_cases h2 : x2 = y2 <;> simp [h1, h2]
theorem np_ne {l l' : List (Int × Int)} {k : Nat} (hne : l.getD k (0, 0) ≠ l'.getD k (0, 0)) : decide (l = l') = false := by
  refine decide_eq_false fun e => ?_
  subst e
  exact hne rfl
theorem np_take {l l' : List (Int × Int)} {k : Nat} (h : k < l.length) (h' : k < l'.length) (ht : l.take k = l'.take k) (he : l.getD k (0, 0) = l'.getD k (0, 0)) : l.take (k + 1) = l'.take (k + 1) := by
  rw [List.take_succ_eq_append_getElem h, List.take_succ_eq_append_getElem h', ht]
  congr 2
  simpa [List.getD_eq_getElem?_getD, h, h'] using he
theorem np_eq {l l' : List (Int × Int)} (h : l.length = l'.length) {k : Nat} (hk : k = l.length) (ht : l.take k = l'.take k) : l = l' := by
  subst hk
  rw [List.take_length] at ht
  rw [ht, h, List.take_length]
set_option maxHeartbeats 800000 in
theorem same_n (A A' : Option Addr) (n n' c c' lo up lo' up' : Nat) (l l' : List (Int × Int)) (w : World) (h : Nears w lo up A n l) (h' : Nears w lo' up' A' n' l') (hn : n ≤ 7000000000) :
    Calls Try.prog 18 #[.slice A n c, .slice A' n' c'] w fun e w' => e = .returned (.bool (decide (l = l'))) ∧ ∃ k, w' = w.drewN k := by
  have hl : l.length = n := h.1
  have hl' : l'.length = n' := h'.1
  by_cases hnn : n = n'
  · subst hnn
    have hb : ((n : Int) != (n : Int)) = false := by simp
    have HL : Hid (l.length = n) := hl
    have HL' : Hid (l'.length = n) := hl'
    clear hl hl'
    have hgd := guard29
    go_enter Try.func18, Try.ntmps18
    go_wp2
    go_loopw [5] (fun i wr => ∃ k : Nat, k ≤ n ∧ i = .int .i64 k ∧ l.take k = l'.take k ∧ ∃ m, wr = w.drewN m) (fun i _ => n - (intOf i).toNat)
    case atStart => exact ⟨0, Nat.zero_le _, rfl, by simp, 0, rfl⟩
    case round =>
      obtain ⟨k, hk, rfl, ht, m, rfl⟩ := hrel
      have HT : Hid (l.take k = l'.take k) := ht
      clear ht
      by_cases hlt : k < n
      · have hk1 : k < l.length := by rw [HL.out]; exact hlt
        have hk2 : k < l'.length := by rw [HL'.out]; exact hlt
        obtain ⟨b, off, rfl, _, _, c1, c2⟩ := h.at_ hlt
        obtain ⟨b', off', rfl, _, _, c3, c4⟩ := h'.at_ hlt
        obtain ⟨⟨p1, p2⟩, HP⟩ : ∃ p, Hid (l.getD k (0, 0) = p) := ⟨_, hid rfl⟩
        obtain ⟨⟨q1, q2⟩, HQ⟩ : ∃ q, Hid (l'.getD k (0, 0) = q) := ⟨_, hid rfl⟩
        rw [HP.out] at c1 c2
        rw [HQ.out] at c3 c4
        have g1 : (w.drewN m).cell? ⟨b, off + k * 2, none⟩ = some (.int .i64 p1) := c1
        have g2 : (w.drewN m).cell? ⟨b, off + k * 2 + 1, none⟩ = some (.int .i64 p2) := c2
        have g3 : (w.drewN m).cell? ⟨b', off' + k * 2, none⟩ = some (.int .i64 q1) := c3
        have g4 : (w.drewN m).cell? ⟨b', off' + k * 2 + 1, none⟩ = some (.int .i64 q2) := c4
        have hneq := neq_pt p1 p2 q1 q2
        by_cases he : (p1, p2) = (q1, q2)
        · have HF : Hid (l.take (k + 1) = l'.take (k + 1)) := np_take hk1 hk2 HT.out (by rw [HP.out, HQ.out]; exact he)
          rw [decide_eq_false (by simp only [ne_eq, he]; simp)] at hneq
          clear he
          go_wp2
          go_quiet (fail)
          go_wp2
          go_roundw
          case rel => exact ⟨k + 1, by omega, by go_num, HF.out, _, rfl⟩
          case measure => simp [intOf]; omega
        · have HF' : Hid (decide (l = l') = false) := hid (np_ne (k := k) (by rw [HP.out, HQ.out]; exact he))
          rw [decide_eq_true he] at hneq
          clear he
          go_wp2
          go_quiet (fail)
          go_wp2
          go_ret
          exact ⟨by rw [HF'.out]; rfl, _, World.drewN_drewN _ _ _⟩
      · go_wp2
        go_ret
        exact ⟨by rw [decide_eq_true (np_eq (HL.out.trans HL'.out.symm) (by rw [HL.out]; omega) HT.out)]; rfl, _, rfl⟩
  · have hb : ((n : Int) != (n' : Int)) = true := by simp; omega
    have HF : Hid (decide (l = l') = false) := decide_eq_false (fun e => hnn (by rw [← hl, ← hl', e]))
    clear hl hl'
    go_enter Try.func18, Try.ntmps18
    go_wp2
    go_ret
    exact ⟨by rw [HF.out]; rfl, 0, rfl⟩
theorem same_yes (A A' : Option Addr) (n n' c c' lo up lo' up' : Nat) (l l' : List (Int × Int)) (w : World) (h : Nears w lo up A n l) (h' : Nears w lo' up' A' n' l') (hn : n ≤ 7000000000) (e : l = l') :
    Calls Try.prog 18 #[.slice A n c, .slice A' n' c'] w fun e w' => e = .returned (.bool true) ∧ ∃ k, w' = w.drewN k := by
  have := same_n A A' n n' c c' lo up lo' up' l l' w h h' hn
  rwa [decide_eq_true e] at this
theorem ownN_any (A : Option Addr) (n c lo up : Nat) (l : List (Int × Int)) (w : World) (h : Nears w lo up A n l) (hA : A = none → c = 0) (hup : up ≤ w.heap.size) (hn : n ≤ 7000000000) :
    Calls Try.prog 20 #[.slice A n c] w fun e w' => ∃ v, e = .returned v ∧ w'.ownsRow w.heap.size 29 2 v n (NC l) ∧ Below w.heap.size w w' := by
  go_enter Try.func20, Try.ntmps20
  go_wp2_with (at_builtin; refine wpList_append_pairs _ rfl _ _ 35 rfl w.heap.size Try.underlying35 (.slice (some ⟨w.heap.size, 0, none⟩) 0 0) 0 [] rfl (World.ownsRow_made w #[] 0 (Nat.le_refl _) (by decide) rfl) lo up A n c rfl hA l (h.lays (lays_alloc _ _) hup) (by omega) (by simp) ?_; intro v' w1 hown hgrow _)
  have hb : Below w.heap.size w w1 := ((Below.refl _ _).alloc (Nat.le_refl _) _).grown hgrow (by simp) (by intro k hk; simp [Value.ownBlock] at hk; omega)
  go_ret
  rw [Nat.zero_add, List.nil_append] at hown
  exact ⟨v', rfl, hown, hb⟩
/-- A row of the call's own is read as its pairs. -/
theorem nears_own {w : World} {base n c : Nat} {A : Option Addr} {l : List (Int × Int)} (h : w.ownsRow base 29 2 (.slice A n c) n (NC l)) : Nears w base w.heap.size A n l ∧ (A = none → c = 0) ∧ n ≤ c ∧ c ≤ maxLen := by
  obtain ⟨hl, ⟨hv, h0⟩ | ⟨g, cap, hv, hg, hh⟩⟩ := heap_of_own h
  · injection hv with e1 e0 e2
    subst h0 e1 e2 e0
    exact ⟨Nears.none_, fun _ => rfl, Nat.le_refl _, Nat.zero_le _⟩
  · injection hv with e1 _ e2
    subst e1 e2 hl
    have := hh
    obtain ⟨cs, _, _, h1, _⟩ := this
    exact ⟨(Nears.of_heap hh).wide hg hh.lt, (fun e => by cases e), h1.1, h1.2⟩
set_option maxHeartbeats 800000 in
theorem rless_any (x y : Int × Int) (w : World) : Calls Try.prog 17 #[.agg #[.int .i64 x.1, .int .i64 x.2], .agg #[.int .i64 y.1, .int .i64 y.2]] w (Gr w (.bool (nlt x y))) := by
  obtain ⟨x1, x2⟩ := x
  obtain ⟨y1, y2⟩ := y
  have hend : ∀ t o o', Gr w (.bool t) (.returned (.bool t)) ((w.alloc o).alloc o') := fun t o o' => ⟨rfl, 0, #[o] ++ #[o'], by rw [← grow_grow, ← alloc_eq_grow, ← alloc_eq_grow]; rfl⟩
  by_cases h1 : x1 < y1
  · have HN : Hid (nlt (x1, x2) (y1, y2) = true) := hid (nlt_iff.2 (.inl h1))
    rw [HN.out]
    go_enter Try.func17, Try.ntmps17
    go_wp2
    go_ret
    exact hend _ _ _
  · have h1' : y1 ≤ x1 := by omega
    by_cases h2 : x1 = y1
    · subst h2
      have hq : (x1 == x1) = true := by simp
      obtain ⟨r, HR⟩ : ∃ r, Hid (decide (x2 < y2) = r) := ⟨_, hid rfl⟩
      have HN : Hid (nlt (x1, x2) (x1, y2) = decide (x2 < y2)) := hid (by unfold nlt; simp)
      rw [HN.out]
      go_enter Try.func17, Try.ntmps17
      go_wp2
      go_ret
      exact hend _ _ _
    · have hq : (x1 == y1) = false := by simpa using h2
      have HN : Hid (nlt (x1, x2) (y1, y2) = false) := hid (nlt_no.2 (by show y1 < x1 ∨ _; omega))
      rw [HN.out]
      go_enter Try.func17, Try.ntmps17
      go_wp2
      go_ret
      exact hend _ _ _
end Go.Proofs.Ytdknjeikhdodeaa
