/-
  Contracts of the small functions that all the laws share: Same, Own, Pick and bytes.Clone, whatever bytes come in. No condition but that slices read as bytes within the memory that is there.
-/
import Derived.Test.YtpckloafdlkefaaGreatProg
import Derived.Test.YtpckloafdlkefaaGreatWords
import Derived.Deep.QuietTactic
import Derived.BigQuiet
import Derived.Lib.SliceRun
namespace Go.Proofs.YtpckloafdlkefaaGreat
set_option maxRecDepth 40000
open Go.RowKit

theorem info5 : (Tryz.prog.info? 5).map (fun i => (i.zero, i.size, i.bytes)) = some (some (.int .u8 0), 1, 1) := by kernel_rfl

/-- What Same finds after k cells that are alike. -/
theorem eq_of_take {l l' : List UInt8} (h : l.length = l'.length) {k : Nat} (hk : k = l.length) (ht : l.take k = l'.take k) : l = l' := by
  subst hk
  rw [List.take_length] at ht
  rw [ht, h, List.take_length]
theorem ne_of_at {l l' : List UInt8} {k : Nat} (h : k < l.length) (h' : k < l'.length) (hne : ((l[k].toNat : Int) != (l'[k].toNat : Int)) = true) : decide (l = l') = false := by
  refine decide_eq_false fun e => ?_
  subst e
  simp at hne
theorem take_of_at {l l' : List UInt8} {k : Nat} (h : k < l.length) (h' : k < l'.length) (ht : l.take k = l'.take k) (he : ((l[k].toNat : Int) != (l'[k].toNat : Int)) = false) : l.take (k + 1) = l'.take (k + 1) := by
  rw [List.take_succ_eq_append_getElem h, List.take_succ_eq_append_getElem h', ht]
  congr 2
  simp at he
  exact UInt8.toNat_inj.1 (by omega)

set_option maxHeartbeats 400000 in
theorem same_any (A A' : Option Addr) (n n' c c' lo up lo' up' : Nat) (l l' : List UInt8) (w : World) (h : Row w lo up A n (U l)) (h' : Row w lo' up' A' n' (U l')) (hn : n ≤ 9223372036854775807) :
    Calls Tryz.prog 18 #[.slice A n c, .slice A' n' c'] w fun e w' => e = .returned (.bool (decide (l = l'))) ∧ ∃ k, w' = w.drewN k := by
  have hl : l.length = n := by have := h.len; rwa [U_len] at this
  have hl' : l'.length = n' := by have := h'.len; rwa [U_len] at this
  by_cases hnn : n = n'
  · subst hnn
    have hb : ((n : Int) != (n : Int)) = false := by simp
    have HL : Hid (l.length = n) := hl
    have HL' : Hid (l'.length = n) := hl'
    clear hl hl'
    go_enter Tryz.func18, Tryz.ntmps18
    go_wp2
    go_loopw [5] (fun i wr => ∃ k : Nat, k ≤ n ∧ i = .int .i64 k ∧ l.take k = l'.take k ∧ ∃ m, wr = w.drewN m) (fun i _ => n - (intOf i).toNat)
    case atStart => exact ⟨0, Nat.zero_le _, rfl, by simp, 0, rfl⟩
    case round =>
      obtain ⟨k, hk, rfl, ht, m, rfl⟩ := hrel
      have HT : Hid (l.take k = l'.take k) := ht
      clear ht
      by_cases hlt : k < n
      · obtain ⟨b, off, u, rfl, _, _, hu, hc⟩ := h.at_ hlt
        obtain ⟨b', off', u', rfl, _, _, hu', hc'⟩ := h'.at_ hlt
        have hk1 : k < l.length := by rw [HL.out]; exact hlt
        have hk2 : k < l'.length := by rw [HL'.out]; exact hlt
        rw [U_get l k hk1] at hu
        rw [U_get l' k hk2] at hu'
        injection hu with hu
        injection hu' with hu'
        subst hu
        subst hu'
        have g1 : (w.drewN m).cell? ⟨b, off + k, none⟩ = some (.int .u8 (l[k].toNat : Int)) := hc
        have g2 : (w.drewN m).cell? ⟨b', off' + k, none⟩ = some (.int .u8 (l'[k].toNat : Int)) := hc'
        by_cases he : ((l[k].toNat : Int) != (l'[k].toNat : Int)) = true
        · have HF := ne_of_at hk1 hk2 he
          have HF' : Hid (decide (l = l') = false) := HF
          clear HF
          go_wp2
          go_quiet (fail)
          go_wp2
          go_ret
          exact ⟨by rw [HF'.out]; rfl, _, World.drewN_drewN _ _ _⟩
        · have he' : ((l[k].toNat : Int) != (l'[k].toNat : Int)) = false := by simpa using he
          clear he
          have HF : Hid (l.take (k + 1) = l'.take (k + 1)) := take_of_at hk1 hk2 HT.out he'
          go_wp2
          go_quiet (fail)
          go_wp2
          go_roundw
          case rel => exact ⟨k + 1, by omega, by go_num, HF.out, _, rfl⟩
          case measure => simp [intOf]; omega
      · go_wp2
        go_ret
        exact ⟨by rw [decide_eq_true (eq_of_take (HL.out.trans HL'.out.symm) (by rw [HL.out]; omega) HT.out)]; rfl, _, rfl⟩
  · have hb : ((n : Int) != (n' : Int)) = true := by simp; omega
    have HF : Hid (decide (l = l') = false) := decide_eq_false (fun e => hnn (by rw [← hl, ← hl', e]))
    clear hl hl'
    go_enter Tryz.func18, Tryz.ntmps18
    go_wp2
    go_ret
    exact ⟨by rw [HF.out]; rfl, 0, rfl⟩

theorem same_yes (A A' : Option Addr) (n n' c c' lo up lo' up' : Nat) (l l' : List UInt8) (w : World) (h : Row w lo up A n (U l)) (h' : Row w lo' up' A' n' (U l')) (hn : n ≤ 9223372036854775807) (hl : l = l') :
    Calls Tryz.prog 18 #[.slice A n c, .slice A' n' c'] w fun e w' => e = .returned (.bool true) ∧ ∃ k, w' = w.drewN k :=
  (same_any A A' n n' c c' lo up lo' up' l l' w h h' hn).mono fun _ _ ⟨he, hk⟩ => ⟨by rw [he, decide_eq_true hl], hk⟩

/-- A row of the call's own is a slice; nil has no room. -/
theorem own_shape {w : World} {base : Nat} {e : TypeId} {v : Value} {n : Nat} {xs : List Value} (h : w.ownsRow base e 1 v n xs) : ∃ A c, v = .slice A n c ∧ (A = none → c = 0) ∧ n ≤ c := by
  rcases h.2 with ⟨rfl, rfl⟩ | ⟨g, cap, cur, rfl, _, _, hc, _⟩
  · exact ⟨none, 0, rfl, fun _ => rfl, Nat.le_refl _⟩
  · exact ⟨_, cap, rfl, (fun h => by cases h), hc⟩

theorem own_cap {w : World} {base : Nat} {e : TypeId} {A : Option Addr} {c n : Nat} {xs : List Value} (h : w.ownsRow base e 1 (.slice A n c) n xs) : n ≤ c := by
  obtain ⟨_, _, he, _, hc⟩ := own_shape h
  injection he with _ _ he
  omega

/-- The call hands back bytes in memory of its own, and nothing that was there has changed. -/
def Fresh (w : World) (l : List UInt8) (e : Ending) (w' : World) : Prop :=
  ∃ A n c, e = .returned (.slice A n c) ∧ Hid (l.length = n) ∧ Hid (A = none → c = 0) ∧ w'.ownsRow w.heap.size 5 1 (.slice A n c) n (U l) ∧ Below w.heap.size w w'

theorem fresh_mk {w w1 : World} {l : List UInt8} {n : Nat} {v : Value} (hl : l.length = n) (hown : w1.ownsRow w.heap.size 5 1 v n (U l)) (hb : Below w.heap.size w w1) : Fresh w l (.returned v) w1 := by
  obtain ⟨A, c, rfl, hA, _⟩ := own_shape hown
  exact ⟨A, n, c, rfl, hl, hA, hown, hb⟩

theorem own_any (A : Option Addr) (n c lo up : Nat) (l : List UInt8) (w : World) (h : Row w lo up A n (U l)) (hA : A = none → c = 0) (hup : up ≤ w.heap.size) (hn : n ≤ 140737488355328) :
    Calls Tryz.prog 13 #[.slice A n c] w (Fresh w l) := by
  obtain ⟨i0, hi, hz0, hz1, hz2⟩ := info_parts info5
  go_enter Tryz.func13, Tryz.ntmps13
  go_wp2_with (at_builtin; refine wpList_append_row _ rfl _ _ 33 rfl w.heap.size 5 i0 (.int .u8 0) 1 Tryz.underlying33 hi hz0 hz1 hz2 rfl (.slice (some ⟨w.heap.size, 0, none⟩) 0 0) 0 [] rfl (World.ownsRow_made w #[] 0 (Nat.le_refl _) (by decide) rfl) lo up A n c rfl hA (U l) (h.alloc hup _) (U_one l) (by unfold maxLen; omega) (by omega) (by simp) ?_; intro v' w1 hown hgrow _)
  have hb : Below w.heap.size w w1 := ((Below.refl _ _).alloc (Nat.le_refl _) _).grown hgrow (by simp) (by intro k hk; simp [Value.ownBlock] at hk; omega)
  go_ret
  rw [Nat.zero_add, List.nil_append] at hown
  exact fresh_mk (by have := h.len; rwa [U_len] at this) hown hb

theorem clone_any (A : Option Addr) (n c lo up : Nat) (l : List UInt8) (w : World) (h : Row w lo up A n (U l)) (hA : A = none → c = 0) (hup : up ≤ w.heap.size) (hn : n ≤ 140737488355328) :
    Calls Tryz.prog 48 #[.slice A n c] w (Fresh w l) := by
  obtain ⟨i0, hi, hz0, hz1, hz2⟩ := info_parts info5
  rcases A with _ | ad
  · obtain rfl : c = 0 := hA rfl
    have h0 : n = 0 := by
      rcases Nat.eq_zero_or_pos n with h0 | h0
      · exact h0
      · obtain ⟨b, off, e, _⟩ := h.2 h0
        cases e
    subst h0
    obtain rfl : l = [] := List.eq_nil_of_length_eq_zero (by have := h.len; rwa [U_len] at this)
    have q := fun (W : World) => Lib.run_eql_slice_nil (P := Tryz.prog) W 33 5 none 0 0 0 0 Tryz.underlying33
    go_enter Tryz.func48, Tryz.ntmps48
    go_wp2
    go_ret
    exact fresh_mk (n := 0) rfl (World.ownsRow_nil _ _ _ _) (Below.refl _ _)
  · have q := fun (W : World) => Lib.run_eql_slice_nil (P := Tryz.prog) W 33 5 (some ad) n c 0 0 Tryz.underlying33
    go_enter Tryz.func48, Tryz.ntmps48
    go_wp2_with (at_builtin; refine wpList_append_row _ rfl _ _ 33 rfl w.heap.size 5 i0 (.int .u8 0) 1 Tryz.underlying33 hi hz0 hz1 hz2 rfl (.slice (some ⟨w.heap.size, 0, none⟩) 0 0) 0 [] rfl (World.ownsRow_made w #[] 0 (Nat.le_refl _) (by decide) rfl) lo up (some ad) n c rfl hA (U l) (h.alloc hup _) (U_one l) (by unfold maxLen; omega) (by omega) (by simp) ?_; intro v' w1 hown hgrow _)
    have hb : Below w.heap.size w w1 := ((Below.refl _ _).alloc (Nat.le_refl _) _).grown hgrow (by simp) (by intro k hk; simp [Value.ownBlock] at hk; omega)
    go_ret
    rw [Nat.zero_add, List.nil_append] at hown
    exact fresh_mk (by have := h.len; rwa [U_len] at this) hown hb

theorem tmod_lo (n m : Int) (h : 1 ≤ m) : -m < n.tmod m ∧ n.tmod m < m := by
  have h1 := Int.tmod_lt_of_pos n (show 0 < m by omega)
  have h2 := Int.tmod_lt_of_pos (-n) (show 0 < m by omega)
  rw [Int.neg_tmod] at h2
  omega
theorem tmod_neg {n m : Int} (h : 1 ≤ m) (h2 : n.tmod m < 0) : n.tmod m + m = n % m := by
  rw [Int.tmod_eq_emod] at h2 ⊢
  have := Int.emod_nonneg n (show m ≠ 0 by omega)
  split at h2
  · omega
  · rename_i hc
    rw [if_neg hc]
    omega
theorem tmod_pos {n m : Int} (h : 1 ≤ m) (h2 : 0 ≤ n.tmod m) : n.tmod m = n % m := by
  rw [Int.tmod_eq_emod] at h2 ⊢
  have := Int.emod_lt_of_pos n (show 0 < m by omega)
  split at h2
  · rename_i hc
    rw [if_pos hc]
    omega
  · omega
theorem ret_int {k : IntKind} {a b : Int} (h : a = b) : Ending.returned (.int k a) = .returned (.int k b) := by rw [h]

theorem pick_any (n m : Int) (w : World) (h3 : 1 ≤ m) (h4 : m ≤ 1000000) :
    Calls Tryz.prog 9 #[.int .i64 n, .int .i64 m] w fun e w' => e = .returned (.int .i64 (n % m)) ∧ w = w' := by
  obtain ⟨hb1, hb2⟩ := tmod_lo n m h3
  by_cases hneg : n.tmod m < 0
  · go_enter Tryz.func9, Tryz.ntmps9
    go_wp2
    go_ret
    exact ⟨ret_int (tmod_neg h3 hneg), rfl⟩
  · have hpos : 0 ≤ n.tmod m := by omega
    go_enter Tryz.func9, Tryz.ntmps9
    go_wp2
    go_ret
    exact ⟨ret_int (tmod_pos h3 hpos), rfl⟩
theorem pick_at (n m x : Int) (w : World) (h3 : 1 ≤ m) (h4 : m ≤ 1000000) (hx : n % m = x) :
    Calls Tryz.prog 9 #[.int .i64 n, .int .i64 m] w fun e w' => e = .returned (.int .i64 x) ∧ w = w' := by
  rw [← hx]
  exact pick_any n m w h3 h4
theorem pick_still (n m : Int) (w : World) (h3 : 1 ≤ m) (h4 : m ≤ 1000000) :
    Calls Tryz.prog 9 #[.int .i64 n, .int .i64 m] w fun e w' => e = .returned (.int .i64 (n % m)) ∧ w' = w :=
  (pick_any n m w h3 h4).mono fun _ _ ⟨h, e⟩ => ⟨h, e.symm⟩
end Go.Proofs.YtpckloafdlkefaaGreat
