/-
  Contracts of draw's Picks and Order, whatever numbers are asked; Draw at whatever place.
-/
import Derived.Test.YtjnbdlbgfgdopaaRepeat
namespace Go.Proofs.Ytjnbdlbgfgdopaa
set_option maxRecDepth 40000
set_option linter.unusedVariables false
open Go.RowKit

theorem draw_any (A : Option Addr) (len cap lo up : Nat) (l : List Int) (i : Int) (w : World) (h : Row w lo up A len (IK .u64 l)) (hn : len ≤ 1000000) (hi : -9223372036854775808 ≤ i ∧ i ≤ 9223372036854775807) :
    Calls Try.prog 12 #[.slice A len cap, .int .i64 i] w fun e w' => e = .returned (.int .u64 (drI l i)) ∧ w' = w := by
  by_cases h0 : i < 0
  · have e0 : Hid (drI l i = 0) := by unfold drI; exact if_pos h0
    by_cases hl : len = 0
    · have hb : ((len : Int) == 0) = true := by simp [hl]
      clear hl h
      go_enter Try.func12, Try.ntmps12
      go_wp2
      go_ret
      exact ⟨by rw [e0.out]; rfl, rfl⟩
    · have hb : ((len : Int) == 0) = false := by simp; omega
      clear hl h
      go_enter Try.func12, Try.ntmps12
      go_wp2
      go_ret
      exact ⟨by rw [e0.out]; rfl, rfl⟩
  · obtain ⟨k, rfl⟩ := Int.eq_ofNat_of_zero_le (show 0 ≤ i by omega)
    rw [drI_nat]
    exact draw_at A len cap lo up l k w h hn (by omega)
/-- What Picks answers, whatever it is asked. -/
def pkI (l : List Int) (n k : Int) : List Int × Int := if n < 1 ∨ 16777216 < n ∨ k < 0 ∨ 4096 < k then ([], 2) else (pks l n.toNat k.toNat, 0)
/-- Numbers and an error are handed back; nothing that was there has changed. -/
def Picked (w : World) (r : List Int × Int) (e : Ending) (w' : World) : Prop :=
  ∃ A n c er, e = .returned (.tuple #[.slice A n c, .int .i64 er]) ∧ Hid (r.1.length = n) ∧ Hid (r.2 = er) ∧ Hid (A = none → c = 0) ∧ Hid (n ≤ c) ∧ Row w' w.heap.size w'.heap.size A n (IK .i64 r.1) ∧ Below w.heap.size w w'
theorem picked_nil (w : World) (er : Int) : Picked w ([], er) (.returned (.tuple #[.slice none 0 0, .int .i64 er])) w :=
  ⟨none, 0, 0, er, rfl, rfl, rfl, fun _ => rfl, Nat.le_refl _, Row.empty, Below.refl _ _⟩
theorem blk_row {w : World} {g L k : Nat} {l : List Int} (h : Blk w g 3 (IK .i64 l).toArray) (hl : l.length = L) (hk : k ≤ L) {lo : Nat} (hlo : lo ≤ g) : Row w lo w.heap.size (some ⟨g, 0, none⟩) k (IK .i64 (l.take k)) := by
  refine ⟨by rw [IK_len, List.length_take]; omega, fun _ => ⟨g, 0, rfl, hlo, h.lt, fun j u hj => ?_⟩⟩
  unfold IK at hj
  rw [List.map_take, List.getElem?_take] at hj
  split at hj
  · rw [h.cell, Nat.zero_add, List.getElem?_toArray]; exact hj
  · cases hj
theorem min_two (a b n : Nat) (h : n = min a b) (ts : Array TypeId) (t : TypeId) (W : World) : (Builtin.min_ ts t #[.int .i64 (a : Int), .int .i64 (b : Int)]).run Try.prog W = .ok (.int .i64 (n : Int)) W := by
  simp only [Builtin.min_, Builtin.min2, List.foldlM, Sem.run_bind, Sem.run_pure, Result.andThen_ok]
  congr 2
  split <;> omega
/-- Numbers are handed back, in a row that is there. -/
def PickedS (w : World) (xs : List Int) (k : Nat) (e : Ending) (w' : World) : Prop :=
  ∃ g, e = .returned (.tuple #[.slice (some ⟨g, 0, none⟩) k k, .int .i64 0]) ∧ Row w' w.heap.size w'.heap.size (some ⟨g, 0, none⟩) k (IK .i64 xs) ∧ Below w.heap.size w w' ∧ w.heap.size ≤ g ∧ g < w'.heap.size
set_option maxHeartbeats 800000 in
theorem picks_at (A : Option Addr) (len cap lo up : Nat) (l : List Int) (n k : Nat) (w : World) (h : Row w lo up A len (IK .u64 l)) (hup : up ≤ w.heap.size) (hln : len ≤ 1000000) (hwf : ∀ x ∈ l, 0 ≤ x ∧ x ≤ 18446744073709551615)
    (hn1 : 1 ≤ n) (hn : n ≤ 16777216) (hk : k ≤ 4096) :
    Calls Try.prog 8 #[.slice A len cap, .int .i64 n, .int .i64 k] w (PickedS w (pks l n k) k) := by
  obtain ⟨p, hp⟩ : ∃ p, p = min n k := ⟨_, rfl⟩
  obtain ⟨c, hc⟩ : ∃ c, c = k / n + 1 := ⟨_, rfl⟩
  have hq : (k : Int).tdiv (n : Int) = ((k / n : Nat) : Int) := by rw [← Int.ofNat_tdiv]
  have hpc : p * c ≤ 8192 ∧ k ≤ p * c := by
    by_cases hnk : n ≤ k
    · have : p = n := by omega
      have h1 := Nat.div_add_mod k n
      have h2 := Nat.mod_lt k (show 0 < n by omega)
      rw [this, hc, Nat.mul_succ]
      omega
    · have h1 : k / n = 0 := Nat.div_eq_of_lt (by omega)
      have : p = k := by omega
      rw [this, hc, h1]
      omega
  have ct := turned_any A len cap lo up l n p w h hup hln hwf (by omega) (by omega) hn
  have hmin := min_two n k p hp
  have hkn : k / n ≤ 4096 := Nat.le_trans (Nat.div_le_self _ _) hk
  have HP : Hid (round (pks l n p) k = pks l n k) := by rw [hp]; exact round_pks (by omega)
  have hp2 : p ≤ 4096 := by omega
  have HPC := hid hpc
  have Hc := hid hc
  clear hp hpc h hc
  generalize k / n = q at *
  go_enter Try.func8, Try.ntmps8
  go_wp2_with fail
  refine ct.mono ?_
  rintro e w1 ⟨A1, c1, rfl, own1, hb1⟩
  have R1 := Row.of_own own1
  have cr := repeat_any A1 p c1 w.heap.size w1.heap.size c (pks l n p) w1 R1 (Nat.le_refl _) (by have := Hc.out; omega) (by have := HPC.out; omega) (by omega) (by have := Hc.out; omega)
  have hqc : (q : Int) + 1 = (c : Int) := by have := Hc.out; omega
  have HB1 := hid hb1
  have CR := hid cr
  clear own1 hb1 R1 ct cr hmin
  go_wp2_with fail
  refine CR.out.mono ?_
  rintro e w2 ⟨g, L, rfl, hL, hg, hB, hb2⟩
  have hkL : k ≤ L := by have := hL.out; have := HPC.out; omega
  have HL := hid hL.out
  clear hL
  have HR := hid (blk_row hB (round_len _ _) hkL (lo := w.heap.size) (Nat.le_trans HB1.out.size hg))
  have HB2 := hid (HB1.out.trans (hb2.mono HB1.out.size))
  have HG := hid (And.intro (Nat.le_trans HB1.out.size hg) hB.lt)
  clear hB hb2 hg
  go_wp2
  go_ret2
  rw [round_take hkL, HP.out] at HR
  exact ⟨g, rfl, HR.out, HB2.out, HG.out.1, HG.out.2⟩
theorem picks_ok (A : Option Addr) (len cap lo up : Nat) (l : List Int) (n k : Nat) (w : World) (h : Row w lo up A len (IK .u64 l)) (hup : up ≤ w.heap.size) (hln : len ≤ 1000000) (hwf : ∀ x ∈ l, 0 ≤ x ∧ x ≤ 18446744073709551615)
    (hn1 : 1 ≤ n) (hn : n ≤ 16777216) (hk : k ≤ 4096) :
    Calls Try.prog 8 #[.slice A len cap, .int .i64 n, .int .i64 k] w (Picked w (pks l n k, 0)) := by
  refine (picks_at A len cap lo up l n k w h hup hln hwf hn1 hn hk).mono ?_
  rintro e w' ⟨g, rfl, hR, hb, _, _⟩
  exact ⟨_, k, k, 0, rfl, pks_len k, rfl, (fun e => by cases e), Nat.le_refl _, hR, hb⟩
theorem picks_any (A : Option Addr) (len cap lo up : Nat) (l : List Int) (n k : Int) (w : World) (h : Row w lo up A len (IK .u64 l)) (hup : up ≤ w.heap.size) (hln : len ≤ 1000000) (hwf : ∀ x ∈ l, 0 ≤ x ∧ x ≤ 18446744073709551615) :
    Calls Try.prog 8 #[.slice A len cap, .int .i64 n, .int .i64 k] w (Picked w (pkI l n k)) := by
  by_cases hb : n < 1 ∨ 16777216 < n ∨ k < 0 ∨ 4096 < k
  · have e0 : pkI l n k = ([], 2) := if_pos hb
    rw [e0]
    have HP := hid (picked_nil w 2)
    clear e0 h hwf
    by_cases h1 : n < 1
    · go_enter Try.func8, Try.ntmps8
      go_wp2
      go_ret2
      exact HP.out
    · by_cases h2 : 16777216 < n
      · go_enter Try.func8, Try.ntmps8
        go_wp2
        go_ret2
        exact HP.out
      · by_cases h3 : k < 0
        · go_enter Try.func8, Try.ntmps8
          go_wp2
          go_ret2
          exact HP.out
        · have h4 : 4096 < k := by omega
          go_enter Try.func8, Try.ntmps8
          go_wp2
          go_ret2
          exact HP.out
  · have e0 : pkI l n k = (pks l n.toNat k.toNat, 0) := if_neg hb
    rw [e0]
    obtain ⟨N, rfl⟩ := Int.eq_ofNat_of_zero_le (show 0 ≤ n by omega)
    obtain ⟨K, rfl⟩ := Int.eq_ofNat_of_zero_le (show 0 ≤ k by omega)
    rw [Int.toNat_natCast, Int.toNat_natCast]
    exact picks_ok A len cap lo up l N K w h hup hln hwf (by omega) (by omega) (by omega)
theorem order_any (A : Option Addr) (len cap lo up : Nat) (l : List Int) (n : Int) (w : World) (h : Row w lo up A len (IK .u64 l)) (hup : up ≤ w.heap.size) (hln : len ≤ 1000000) (hwf : ∀ x ∈ l, 0 ≤ x ∧ x ≤ 18446744073709551615) :
    Calls Try.prog 9 #[.slice A len cap, .int .i64 n] w (Picked w (pkI l n n)) := by
  have c := picks_any A len cap lo up l n n w h hup hln hwf
  clear h hwf
  go_enter Try.func9, Try.ntmps9
  go_wp2_with fail
  refine c.mono ?_
  rintro e w1 ⟨A1, n1, c1, er, rfl, r1, r2, r3, r4, r5, r6⟩
  go_wp2
  go_ret2
  exact ⟨A1, n1, c1, er, rfl, r1, r2, r3, r4, r5, r6⟩
end Go.Proofs.Ytjnbdlbgfgdopaa
