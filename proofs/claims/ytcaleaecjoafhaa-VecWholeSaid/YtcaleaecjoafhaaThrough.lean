/-
  Contracts of vec.through at both widths, for whatever function it is handed (by that function's own contract), and of mayBe.
-/
import Derived.Test.YtcaleaecjoafhaaProg
import Derived.Test.YtcaleaecjoafhaaVecMath
import Derived.Shelf.Abstract
namespace Go.Proofs.Ytcaleaecjoafhaa
open Go.RowKit

theorem cells_at {K : IntKind} {w : World} {lo up : Nat} {A : Option Addr} {n : Nat} {l : List Int} (h : Row w lo up A n (IK K l)) {k : Nat} (hk : k < l.length) :
    ∃ b off, A = some ⟨b, off, none⟩ ∧ lo ≤ b ∧ b < up ∧ w.cell? ⟨b, off + k, none⟩ = some (.int K l[k]) := by
  have hl := h.len
  rw [IK_len] at hl
  obtain ⟨b, off, u, e, h1, h2, hu, hc⟩ := h.at_ (k := k) (by omega)
  rw [IK_get _ l k hk] at hu
  injection hu with hu
  subst hu
  exact ⟨b, off, e, h1, h2, hc⟩

set_option maxHeartbeats 800000 in
theorem through32 (fn : Nat) (cap : Array Value) (A : Option Addr) (n c : Nat) (l : List Int) (w : World) (J : Nat → World → Prop) (S : World → Prop)
    (hent : ∀ args W, (callFunc fn args).run Try.prog W = .ok (.enter fn args) W) (hm : n ≤ 9223372036854775807) (hlen : l.length = n)
    (hrow : ∀ k wr, k < n → J k wr → ∃ lo up, Row wr lo up A n (IK .i32 l))
    (hstep : ∀ k (hk : k < l.length) wr, J k wr → Calls Try.prog fn (#[.int .i64 k, .int .i32 l[k]] ++ cap) wr fun e w' => (e = .returned (.bool true) ∧ J (k + 1) w') ∨ (e = .returned (.bool false) ∧ S w'))
    (h0 : J 0 w) :
    Calls Try.prog 47 #[.slice A n c, .func (.func fn) #[] cap] w fun e w' => (e = .returned (.bool true) ∧ J n w') ∨ (e = .returned (.bool false) ∧ S w') := by
  have HL := hid hlen
  have HS := hid hstep
  clear hlen hstep
  go_enter Try.func47, Try.ntmps47
  go_wp2
  go_loopw [9] (fun i wr => ∃ k : Nat, k ≤ n ∧ i = .int .i64 k ∧ J k wr) (fun i _ => n - (intOf i).toNat)
  case atStart => exact ⟨0, Nat.zero_le _, rfl, h0⟩
  case round =>
    obtain ⟨k, hk, rfl, hJ⟩ := hrel
    by_cases hlt : k < n
    · obtain ⟨lo, up, hR⟩ := hrow k wr hlt hJ
      have hk1 : k < l.length := by rw [HL.out]; exact hlt
      obtain ⟨b, off, rfl, _, _, hc⟩ := cells_at hR hk1
      have HC := HS.out k hk1 wr hJ
      have HC' := hid HC
      clear HC
      generalize l[k] = x at *
      go_wp2_with fail
      refine HC'.out.mono ?_
      rintro e w1 (⟨rfl, h1⟩ | ⟨rfl, h1⟩)
      · go_wp2
        go_roundw
        case rel => exact ⟨k + 1, by omega, by go_num, h1⟩
        case measure => simp [intOf]; omega
      · go_wp2
        go_ret
        exact .inr ⟨rfl, h1⟩
    · obtain rfl : k = n := by omega
      go_wp2
      go_ret
      exact .inl ⟨rfl, hJ⟩
set_option maxHeartbeats 800000 in
theorem through16 (fn : Nat) (cap : Array Value) (A : Option Addr) (n c : Nat) (l : List Int) (w : World) (J : Nat → World → Prop) (S : World → Prop)
    (hent : ∀ args W, (callFunc fn args).run Try.prog W = .ok (.enter fn args) W) (hm : n ≤ 9223372036854775807) (hlen : l.length = n)
    (hrow : ∀ k wr, k < n → J k wr → ∃ lo up, Row wr lo up A n (IK .i16 l))
    (hstep : ∀ k (hk : k < l.length) wr, J k wr → Calls Try.prog fn (#[.int .i64 k, .int .i16 l[k]] ++ cap) wr fun e w' => (e = .returned (.bool true) ∧ J (k + 1) w') ∨ (e = .returned (.bool false) ∧ S w'))
    (h0 : J 0 w) :
    Calls Try.prog 44 #[.slice A n c, .func (.func fn) #[] cap] w fun e w' => (e = .returned (.bool true) ∧ J n w') ∨ (e = .returned (.bool false) ∧ S w') := by
  have HL := hid hlen
  have HS := hid hstep
  clear hlen hstep
  go_enter Try.func44, Try.ntmps44
  go_wp2
  go_loopw [9] (fun i wr => ∃ k : Nat, k ≤ n ∧ i = .int .i64 k ∧ J k wr) (fun i _ => n - (intOf i).toNat)
  case atStart => exact ⟨0, Nat.zero_le _, rfl, h0⟩
  case round =>
    obtain ⟨k, hk, rfl, hJ⟩ := hrel
    by_cases hlt : k < n
    · obtain ⟨lo, up, hR⟩ := hrow k wr hlt hJ
      have hk1 : k < l.length := by rw [HL.out]; exact hlt
      obtain ⟨b, off, rfl, _, _, hc⟩ := cells_at hR hk1
      have HC := HS.out k hk1 wr hJ
      have HC' := hid HC
      clear HC
      generalize l[k] = x at *
      go_wp2_with fail
      refine HC'.out.mono ?_
      rintro e w1 (⟨rfl, h1⟩ | ⟨rfl, h1⟩)
      · go_wp2
        go_roundw
        case rel => exact ⟨k + 1, by omega, by go_num, h1⟩
        case measure => simp [intOf]; omega
      · go_wp2
        go_ret
        exact .inr ⟨rfl, h1⟩
    · obtain rfl : k = n := by omega
      go_wp2
      go_ret
      exact .inl ⟨rfl, hJ⟩

theorem mayBe_any (i x : Int) (w : World) :
    Calls Try.prog 48 #[.int .i64 i, .int .i32 x] w fun e w' => e = .returned (.bool (wd x)) ∧ w = w' := by
  by_cases a1 : -131072 ≤ x
  · by_cases a2 : x ≤ 131072
    · have HD : Hid (wd x = true) := hid (decide_eq_true ⟨a1, a2⟩)
      go_enter Try.func48, Try.ntmps48
      go_wp2
      go_ret
      exact ⟨by rw [HD.out]; rfl, rfl⟩
    · have HD : Hid (wd x = false) := hid (decide_eq_false (by omega))
      go_enter Try.func48, Try.ntmps48
      go_wp2
      go_ret
      exact ⟨by rw [HD.out]; rfl, rfl⟩
  · have HD : Hid (wd x = false) := hid (decide_eq_false (by omega))
    go_enter Try.func48, Try.ntmps48
    go_wp2
    go_ret
    exact ⟨by rw [HD.out]; rfl, rfl⟩

theorem all_take {l : List Int} {k : Nat} (h : k < l.length) (ht : ∀ x ∈ l.take k, wd x = true) (hx : wd l[k] = true) : ∀ x ∈ l.take (k + 1), wd x = true := by
  intro x hm
  rw [List.take_succ_eq_append_getElem h, List.mem_append, List.mem_singleton] at hm
  rcases hm with hm | rfl
  · exact ht x hm
  · exact hx

theorem mayBe_through (A : Option Addr) (n c lo up : Nat) (l : List Int) (w : World) (hR : Row w lo up A n (IK .i32 l)) (hm : n ≤ 9223372036854775807) :
    Calls Try.prog 47 #[.slice A n c, .func (.func 48) #[] #[]] w fun e w' => e = .returned (.bool (l.all wd)) ∧ w = w' := by
  have hl := hR.len
  rw [IK_len] at hl
  refine (through32 48 #[] A n c l w (fun k wr => wr = w ∧ ∀ x ∈ l.take k, wd x = true) (fun wr => wr = w ∧ ¬ l.all wd = true) (enters_of Try.func48 (by kernel_rfl) rfl) hm hl (fun k wr _ h => ⟨lo, up, h.1 ▸ hR⟩) ?_ ⟨rfl, by simp⟩).mono ?_
  · rintro k hk wr ⟨rfl, ht⟩
    refine (mayBe_any k l[k] wr).mono ?_
    rintro e w' ⟨rfl, rfl⟩
    by_cases hx : wd l[k] = true
    · exact .inl ⟨by rw [hx], rfl, all_take hk ht hx⟩
    · refine .inr ⟨by simp at hx; rw [hx], rfl, fun ha => hx (List.all_eq_true.1 ha _ (List.getElem_mem _))⟩
  · rintro e w' (⟨rfl, rfl, h⟩ | ⟨rfl, rfl, h⟩)
    · refine ⟨?_, rfl⟩
      rw [List.take_of_length_le (by omega)] at h
      rw [List.all_eq_true.2 h]
    · refine ⟨?_, rfl⟩
      simp only [Bool.not_eq_true] at h
      rw [h]

theorem checkWide_any (A : Option Addr) (n c lo up : Nat) (l : List Int) (w : World) (hR : Row w lo up A n (IK .i32 l)) (hm : n ≤ 9223372036854775807) :
    Calls Try.prog 15 #[.slice A n c] w fun e w' => e = .returned (.int .i64 (cw l)) ∧ w = w' := by
  have hl := hR.len
  rw [IK_len] at hl
  by_cases h1 : n < 1
  · have HE : Hid (cw l = 2) := hid (cw_len (by omega))
    clear hl
    go_enter Try.func15, Try.ntmps15
    go_wp2
    go_ret
    exact ⟨by rw [HE.out]; rfl, rfl⟩
  by_cases h2 : 1024 < n
  · have HE : Hid (cw l = 2) := hid (cw_len (by omega))
    clear hl
    go_enter Try.func15, Try.ntmps15
    go_wp2
    go_ret
    exact ⟨by rw [HE.out]; rfl, rfl⟩
  have HE1 : Hid (l.all wd = true → cw l = 0) := hid (cw_ok (by omega))
  have HE2 : Hid (¬ l.all wd = true → cw l = 11) := hid (cw_far (by omega))
  clear hl
  go_enter Try.func15, Try.ntmps15
  go_wp2_with fail
  refine (mayBe_through A n c lo up l w hR hm).mono ?_
  rintro e w1 ⟨rfl, rfl⟩
  by_cases ha : l.all wd = true
  · have HE := hid (HE1.out ha)
    rw [ha]
    clear ha HE1 HE2
    go_wp2
    go_ret
    exact ⟨by rw [HE.out]; rfl, rfl⟩
  · have HE := hid (HE2.out ha)
    rw [show l.all wd = false by simpa using ha]
    clear ha HE1 HE2
    go_wp2
    go_ret
    exact ⟨by rw [HE.out]; rfl, rfl⟩

theorem rcheckWide_any (A : Option Addr) (n c lo up : Nat) (l : List Int) (w : World) (hR : Row w lo up A n (IK .i32 l)) (hm : n ≤ 9223372036854775807) :
    Calls Try.prog 24 #[.slice A n c] w fun e w' => e = .returned (.int .i64 (cw l)) ∧ w = w' := by
  have hl := hR.len
  rw [IK_len] at hl
  by_cases h1 : n < 1
  · have HE : Hid (cw l = 2) := hid (cw_len (by omega))
    clear hl
    go_enter Try.func24, Try.ntmps24
    go_wp2
    go_ret
    exact ⟨by rw [HE.out]; rfl, rfl⟩
  by_cases h2 : 1024 < n
  · have HE : Hid (cw l = 2) := hid (cw_len (by omega))
    clear hl
    go_enter Try.func24, Try.ntmps24
    go_wp2
    go_ret
    exact ⟨by rw [HE.out]; rfl, rfl⟩
  have HE1 : Hid (l.all wd = true → cw l = 0) := hid (cw_ok (by omega))
  have HE2 : Hid (¬ l.all wd = true → cw l = 11) := hid (cw_far (by omega))
  have HL := hid hl
  clear hl
  go_enter Try.func24, Try.ntmps24
  go_wp2
  go_loop [3] (fun i => ∃ k : Nat, k ≤ n ∧ i = .int .i64 k ∧ Hid (∀ x ∈ l.take k, wd x = true)) (fun i => n - (intOf i).toNat)
  case atStart => exact ⟨0, Nat.zero_le _, rfl, hid (by simp)⟩
  case round =>
    obtain ⟨k, hk, rfl, HT⟩ := hrel
    by_cases hlt : k < n
    · have hk1 : k < l.length := by rw [HL.out]; exact hlt
      obtain ⟨b, off, rfl, _, _, hc⟩ := cells_at hR hk1
      have HS : Hid (wd l[k] = true → ∀ x ∈ l.take (k + 1), wd x = true) := hid (all_take hk1 HT.out)
      have HN : Hid (¬ wd l[k] = true → cw l = 11) := hid fun hx => HE2.out fun ha => hx (List.all_eq_true.1 ha _ (List.getElem_mem _))
      generalize l[k] = x at *
      by_cases x1 : x < -131072
      · have HE := hid (HN.out fun h => by have := wd_iff.1 h; omega)
        go_wp2
        go_ret
        exact ⟨by rw [HE.out]; rfl, rfl⟩
      · by_cases x2 : 131072 < x
        · have HE := hid (HN.out fun h => by have := wd_iff.1 h; omega)
          go_wp2
          go_ret
          exact ⟨by rw [HE.out]; rfl, rfl⟩
        · have HE := hid (HS.out (wd_iff.2 (by omega)))
          go_wp2
          go_round
          case rel => exact ⟨k + 1, by omega, by go_num, HE⟩
          case measure => simp [intOf]; omega
    · obtain rfl : k = n := by omega
      have HE : Hid (cw l = 0) := hid (HE1.out (List.all_eq_true.2 (by have := HT.out; rwa [List.take_of_length_le (by rw [HL.out]; exact Nat.le_refl _)] at this)))
      go_wp2
      go_ret
      exact ⟨by rw [HE.out]; rfl, rfl⟩

set_option maxHeartbeats 400000 in
theorem checkPair_any (A B : Option Addr) (n m c d lo up lo' up' : Nat) (a b : List Int) (w : World) (hR : Row w lo up A n (IK .i32 a)) (hR' : Row w lo' up' B m (IK .i32 b)) (hn : n ≤ 9223372036854775807) (hm : m ≤ 9223372036854775807) :
    Calls Try.prog 49 #[.slice A n c, .slice B m d] w fun e w' => e = .returned (.int .i64 (cp a b)) ∧ w = w' := by
  have hl := hR.len
  have hl' := hR'.len
  rw [IK_len] at hl hl'
  have HN : Hid (n = m → a.length = b.length) := hid (by omega)
  have HN' : Hid (¬ n = m → ¬ a.length = b.length) := hid (by omega)
  clear hl hl'
  have W1 := hid (checkWide_any A n c lo up a w hR hn)
  have W2 := hid (checkWide_any B m d lo' up' b w hR' hm)
  by_cases h1 : cw a = 0
  · by_cases h2 : cw b = 0
    · rw [h1] at W1
      rw [h2] at W2
      by_cases h3 : n = m
      · have HE : Hid (cp a b = 0) := hid (cp_mk h1 h2 (HN.out h3))
        clear h1 h2
        subst h3
        have hb : ((n : Int) != (n : Int)) = false := by simp
        go_enter Try.func49, Try.ntmps49
        go_wp2_with fail
        refine W1.out.mono ?_
        rintro e w1 ⟨rfl, rfl⟩
        go_wp2_with fail
        refine W2.out.mono ?_
        rintro e w1 ⟨rfl, rfl⟩
        go_wp2
        go_ret
        exact ⟨by rw [HE.out]; rfl, rfl⟩
      · have HE : Hid (cp a b = 2) := hid (cp_n h1 h2 (HN'.out h3))
        clear h1 h2
        have hb : ((n : Int) != (m : Int)) = true := by simp; omega
        clear h3
        go_enter Try.func49, Try.ntmps49
        go_wp2_with fail
        refine W1.out.mono ?_
        rintro e w1 ⟨rfl, rfl⟩
        go_wp2_with fail
        refine W2.out.mono ?_
        rintro e w1 ⟨rfl, rfl⟩
        go_wp2
        go_ret
        exact ⟨by rw [HE.out]; rfl, rfl⟩
    · rw [h1] at W1
      have HE : Hid (cp a b = cw b) := hid (cp_r h1 h2)
      clear h1
      have hb : (cw b != 0) = true := by simpa using h2
      go_enter Try.func49, Try.ntmps49
      go_wp2_with fail
      refine W1.out.mono ?_
      rintro e w1 ⟨rfl, rfl⟩
      go_wp2_with fail
      refine W2.out.mono ?_
      rintro e w1 ⟨rfl, rfl⟩
      go_wp2
      go_ret
      exact ⟨by rw [HE.out]; rfl, rfl⟩
  · have HE : Hid (cp a b = cw a) := hid (cp_l h1)
    have hb : (cw a != 0) = true := by simpa using h1
    go_enter Try.func49, Try.ntmps49
    go_wp2_with fail
    refine W1.out.mono ?_
    rintro e w1 ⟨rfl, rfl⟩
    go_wp2
    go_ret
    exact ⟨by rw [HE.out]; rfl, rfl⟩

set_option maxHeartbeats 400000 in
theorem both_any (A B : Option Addr) (n m c d lo up lo' up' : Nat) (a b : List Int) (w : World) (hR : Row w lo up A n (IK .i32 a)) (hR' : Row w lo' up' B m (IK .i32 b)) (hn : n ≤ 9223372036854775807) (hm : m ≤ 9223372036854775807) :
    Calls Try.prog 51 #[.slice A n c, .slice B m d] w fun e w' => e = .returned (.int .i64 (cp a b)) ∧ w = w' := by
  have hl := hR.len
  have hl' := hR'.len
  rw [IK_len] at hl hl'
  have HN : Hid (n = m → a.length = b.length) := hid (by omega)
  have HN' : Hid (¬ n = m → ¬ a.length = b.length) := hid (by omega)
  clear hl hl'
  have W1 := hid (rcheckWide_any A n c lo up a w hR hn)
  have W2 := hid (rcheckWide_any B m d lo' up' b w hR' hm)
  by_cases h1 : cw a = 0
  · by_cases h2 : cw b = 0
    · rw [h1] at W1
      rw [h2] at W2
      by_cases h3 : n = m
      · have HE : Hid (cp a b = 0) := hid (cp_mk h1 h2 (HN.out h3))
        clear h1 h2
        subst h3
        have hb : ((n : Int) != (n : Int)) = false := by simp
        go_enter Try.func51, Try.ntmps51
        go_wp2_with fail
        refine W1.out.mono ?_
        rintro e w1 ⟨rfl, rfl⟩
        go_wp2_with fail
        refine W2.out.mono ?_
        rintro e w1 ⟨rfl, rfl⟩
        go_wp2
        go_ret
        exact ⟨by rw [HE.out]; rfl, rfl⟩
      · have HE : Hid (cp a b = 2) := hid (cp_n h1 h2 (HN'.out h3))
        clear h1 h2
        have hb : ((n : Int) != (m : Int)) = true := by simp; omega
        clear h3
        go_enter Try.func51, Try.ntmps51
        go_wp2_with fail
        refine W1.out.mono ?_
        rintro e w1 ⟨rfl, rfl⟩
        go_wp2_with fail
        refine W2.out.mono ?_
        rintro e w1 ⟨rfl, rfl⟩
        go_wp2
        go_ret
        exact ⟨by rw [HE.out]; rfl, rfl⟩
    · rw [h1] at W1
      have HE : Hid (cp a b = cw b) := hid (cp_r h1 h2)
      clear h1
      have hb : (cw b == 0) = false := by simpa using h2
      go_enter Try.func51, Try.ntmps51
      go_wp2_with fail
      refine W1.out.mono ?_
      rintro e w1 ⟨rfl, rfl⟩
      go_wp2_with fail
      refine W2.out.mono ?_
      rintro e w1 ⟨rfl, rfl⟩
      go_wp2
      go_ret
      exact ⟨by rw [HE.out]; rfl, rfl⟩
  · have HE : Hid (cp a b = cw a) := hid (cp_l h1)
    have hb : (cw a == 0) = false := by simpa using h1
    go_enter Try.func51, Try.ntmps51
    go_wp2_with fail
    refine W1.out.mono ?_
    rintro e w1 ⟨rfl, rfl⟩
    go_wp2
    go_ret
    exact ⟨by rw [HE.out]; rfl, rfl⟩
end Go.Proofs.Ytcaleaecjoafhaa
