/-
  The contract of the reference's Fixed, at all doubles and fracs.
-/
import Derived.Test.YtcaleaecjoafhaaFixed
namespace Go.Proofs.Ytcaleaecjoafhaa
open Go.RowKit
open Ieee (double)

/-- A double's parts, as the bits tell them. -/
theorem parts (D : Nat) (hD : D < 18446744073709551616) :
    (D / 4503599627370496 % 2048 = 2047 → 0 < D % 4503599627370496 → (double.read D).isNaN = true) ∧
    (D / 4503599627370496 % 2048 = 2047 → D % 4503599627370496 = 0 → ∃ s, double.read D = .infinity s) ∧
    (0 < D / 4503599627370496 % 2048 → D / 4503599627370496 % 2048 < 2047 → double.read D = .number (decide (9223372036854775808 ≤ D)) (4503599627370496 + D % 4503599627370496) (((D / 4503599627370496 % 2048 : Nat) : Int) - 1075)) ∧
    (D / 4503599627370496 % 2048 = 0 → double.read D = .number (decide (9223372036854775808 ≤ D)) (D % 4503599627370496) (-1074)) := by
  have c1 : double.signWeight = 9223372036854775808 := by decide
  have c2 : double.binade = 4503599627370496 := by decide
  have c3 : double.infRung = 9218868437227405312 := by decide
  have c4 : double.leastPlace = -1074 := by decide
  have hs : (D / 9223372036854775808 % 2 == 1) = decide (9223372036854775808 ≤ D) := by
    by_cases h : 9223372036854775808 ≤ D
    · rw [decide_eq_true h]; simp; omega
    · rw [decide_eq_false h]; simp; omega
  have hr : double.read D = if D % 9223372036854775808 < 4503599627370496 then .number (decide (9223372036854775808 ≤ D)) (D % 9223372036854775808) (-1074)
      else if D % 9223372036854775808 < 9218868437227405312 then .number (decide (9223372036854775808 ≤ D)) (4503599627370496 + D % 9223372036854775808 % 4503599627370496) (-1074 + ((D % 9223372036854775808 / 4503599627370496 - 1 : Nat) : Int))
      else if D % 9223372036854775808 = 9218868437227405312 then .infinity (decide (9223372036854775808 ≤ D)) else .nan (decide (9223372036854775808 ≤ D)) (D % 9223372036854775808 - 9218868437227405312) := by
    unfold Ieee.Format.read
    simp only [c1, c2, c3, c4, hs]
  rw [hr]
  refine ⟨fun h1 h2 => ?_, fun h1 h2 => ?_, fun h1 h2 => ?_, fun h1 => ?_⟩
  · rw [if_neg (by omega), if_neg (by omega), if_neg (by omega)]; rfl
  · rw [if_neg (by omega), if_neg (by omega), if_pos (by omega)]; exact ⟨_, rfl⟩
  · rw [if_neg (by omega), if_pos (by omega)]
    congr 1 <;> omega
  · rw [if_pos (by omega)]
    congr 1
    omega

def RFixedGives (D : Nat) (f x er : Int) (w : World) : Prop :=
  Calls Try.prog 34 #[.int .u64 D, .int .i64 f] w fun e w' => e = .returned (.tuple #[.int .i16 x, .int .i64 er]) ∧ w = w'
theorem rfixed_below (D : Nat) (f : Int) (w : World) (_ : D < 18446744073709551616) (c1 : f < 0) : RFixedGives D f 0 2 w := by
  unfold RFixedGives
  go_enter Try.func34, Try.ntmps34
  go_wp2
  go_ret2
  exact ⟨rfl, rfl⟩
theorem rfixed_above (D : Nat) (f : Int) (w : World) (_ : D < 18446744073709551616) (c1 : 15 < f) : RFixedGives D f 0 2 w := by
  unfold RFixedGives
  go_enter Try.func34, Try.ntmps34
  go_wp2
  go_ret2
  exact ⟨rfl, rfl⟩
/-- The answer of a whole number z. -/
def Told16 (z x er : Int) : Prop := (-32768 ≤ z ∧ z ≤ 32767 ∧ x = z ∧ er = 0) ∨ ((z < -32768 ∨ 32767 < z) ∧ x = 0 ∧ er = 11)
theorem ret_pair {k j : IntKind} {a b c d : Int} (h : a = b) (h2 : c = d) : Ending.returned (.tuple #[.int k a, .int j c]) = .returned (.tuple #[.int k b, .int j d]) := by rw [h, h2]
theorem rfixed_nan (D : Nat) (f P M : Int) (w : World) (hD : D < 18446744073709551616) (c1 : 0 ≤ f) (c2 : f ≤ 15) (hP : (D : Int) / 4503599627370496 % 2048 = P) (hM : (D : Int) % 4503599627370496 = M) (h1 : P = 2047) (h2 : 0 < M) : RFixedGives D f 0 2 w := by
  subst h1
  unfold RFixedGives
  go_enter Try.func34, Try.ntmps34
  go_wp2
  go_ret2
  exact ⟨rfl, rfl⟩
theorem rfixed_inf (D : Nat) (f P M : Int) (w : World) (hD : D < 18446744073709551616) (c1 : 0 ≤ f) (c2 : f ≤ 15) (hP : (D : Int) / 4503599627370496 % 2048 = P) (hM : (D : Int) % 4503599627370496 = M) (h1 : P = 2047) (h2 : M = 0) : RFixedGives D f 0 11 w := by
  subst h1
  subst h2
  unfold RFixedGives
  go_enter Try.func34, Try.ntmps34
  go_wp2
  go_ret2
  exact ⟨rfl, rfl⟩
theorem rfixed_far (D : Nat) (f P M : Int) (w : World) (hD : D < 18446744073709551616) (c1 : 0 ≤ f) (c2 : f ≤ 15) (hP : (D : Int) / 4503599627370496 % 2048 = P) (hM : (D : Int) % 4503599627370496 = M) (U : Int) (h1 : 0 < P) (h2 : P < 2047) (hU : P - 1075 + f = U) (hU2 : 11 < U) : RFixedGives D f 0 11 w := by
  unfold RFixedGives
  go_enter Try.func34, Try.ntmps34
  go_wp2
  go_ret2
  exact ⟨rfl, rfl⟩
set_option maxHeartbeats 1600000 in
theorem rfixed_up (D : Nat) (f P M : Int) (w : World) (hD : D < 18446744073709551616) (c1 : 0 ≤ f) (c2 : f ≤ 15) (hP : (D : Int) / 4503599627370496 % 2048 = P) (hM : (D : Int) % 4503599627370496 = M) (k : Nat) (N z x er : Int) (h1 : 0 < P) (h2 : P < 2047) (hU : P - 1075 + f = (k : Int)) (hk : k ≤ 11) (hN : IntKind.u64.wrap ((M + 4503599627370496) * 2 ^ k) = N) (n1 : 4503599627370496 ≤ N) (n2 : N ≤ 18446744073709551615)
    (hz : z = if 9223372036854775808 ≤ D then -N else N) (h : Told16 z x er) : RFixedGives D f x er w := by
  have HX : Hid (Told16 z x er) := hid h
  have HZ := hid hz
  clear h hz
  unfold RFixedGives
  go_enter Try.func34, Try.ntmps34
  go_wp2
  all_goals go_ret2
  all_goals refine ⟨ret_pair ?_ ?_, rfl⟩
  all_goals
    have hx := HX.out
    have hz := HZ.out
    unfold Told16 at hx
    split at hz <;> omega
set_option maxHeartbeats 1600000 in
theorem rfixed_none (D : Nat) (f P M : Int) (w : World) (hD : D < 18446744073709551616) (c1 : 0 ≤ f) (c2 : f ≤ 15) (hP : (D : Int) / 4503599627370496 % 2048 = P) (hM : (D : Int) % 4503599627370496 = M) (U z x er : Int) (h1 : 0 < P) (h2 : P < 2047) (hU : P - 1075 + f = U) (hk : U < -60) (hz : z = 0) (h : Told16 z x er) : RFixedGives D f x er w := by
  have HX : Hid (Told16 z x er) := hid h
  have HZ := hid hz
  clear h hz
  unfold RFixedGives
  go_enter Try.func34, Try.ntmps34
  go_wp2
  all_goals go_ret2
  all_goals refine ⟨ret_pair ?_ ?_, rfl⟩
  all_goals
    have hx := HX.out
    have hz := HZ.out
    unfold Told16 at hx
    omega
set_option maxHeartbeats 1600000 in
theorem rfixed_nought (D : Nat) (f P M : Int) (w : World) (hD : D < 18446744073709551616) (c1 : 0 ≤ f) (c2 : f ≤ 15) (hP : (D : Int) / 4503599627370496 % 2048 = P) (hM : (D : Int) % 4503599627370496 = M) (z x er : Int) (h1 : P = 0) (hz : z = 0) (h : Told16 z x er) : RFixedGives D f x er w := by
  have HX : Hid (Told16 z x er) := hid h
  have HZ := hid hz
  clear h hz
  subst h1
  unfold RFixedGives
  go_enter Try.func34, Try.ntmps34
  go_wp2
  all_goals go_ret2
  all_goals refine ⟨ret_pair ?_ ?_, rfl⟩
  all_goals
    have hx := HX.out
    have hz := HZ.out
    unfold Told16 at hx
    omega
set_option maxHeartbeats 1600000 in
theorem rfixed_down (D : Nat) (f P M : Int) (w : World) (hD : D < 18446744073709551616) (c1 : 0 ≤ f) (c2 : f ≤ 15) (hP : (D : Int) / 4503599627370496 % 2048 = P) (hM : (D : Int) % 4503599627370496 = M) (k : Nat) (N R T H B n z x er : Int) (h1 : 0 < P) (h2 : P < 2047) (hU : P - 1075 + f = -(k : Int)) (hk1 : 1 ≤ k) (hk2 : k ≤ 60) (hN : (M + 4503599627370496) / 2 ^ k = N) (hT : IntKind.u64.wrap (2 ^ k) = T) (hH : IntKind.u64.wrap (2 ^ (k - 1)) = H)
    (hR : (M + 4503599627370496) % T = R) (hB : N.tmod 2 = B) (n1 : 0 ≤ N) (n2 : N ≤ 9007199254740992) (t0 : ¬ T = 0) (hn : (n = N + 1 ∧ (H < R ∨ R = H ∧ B = 1)) ∨ (n = N ∧ ¬ (H < R ∨ R = H ∧ B = 1)))
    (hz : z = if 9223372036854775808 ≤ D then -n else n) (h : Told16 z x er) : RFixedGives D f x er w := by
  have HX : Hid (Told16 z x er) := hid h
  have HZ := hid hz
  have HN := hid hn
  clear h hz hn
  unfold RFixedGives
  go_enter Try.func34, Try.ntmps34
  go_wp2
  all_goals go_ret2
  all_goals refine ⟨ret_pair ?_ ?_, rfl⟩
  all_goals
    have hx := HX.out
    have hz := HZ.out
    have hn := HN.out
    unfold Told16 at hx
    simp only [beq_iff_eq, beq_eq_false_iff_ne, ne_eq] at *
    split at hz <;> omega
theorem sg_if (D : Nat) (n : Nat) : sg (decide (9223372036854775808 ≤ D)) n = if 9223372036854775808 ≤ D then -(n : Int) else n := by
  unfold sg
  by_cases h : 9223372036854775808 ≤ D <;> simp [h]
theorem sg_none (s : Bool) : sg s 0 = 0 := by cases s <;> rfl
theorem two_pow_int (k : Nat) (h : k ≤ 63) : IntKind.u64.wrap (2 ^ k) = ((2 ^ k : Nat) : Int) := by
  have h1 : (2 ^ k : Nat) ≤ 2 ^ 63 := Nat.pow_le_pow_right (by decide) h
  have e : ((2 : Int) ^ k) = ((2 ^ k : Nat) : Int) := by simp
  rw [e, IntKind.wrap_u64]
  generalize (2 ^ k : Nat) = q at *
  omega
theorem fx_told {D : Nat} {f x er : Int} {s : Bool} {m : Nat} {i : Int} (c1 : 0 ≤ f) (c2 : f ≤ 15) (hr : double.read D = .number s m i) (h : Fx D f x er) : Told16 (sg s (rv m (i + f))) x er := by
  rcases h with ⟨h, _⟩ | ⟨_, _, ⟨s', hs⟩, _⟩ | ⟨_, _, s', m', i', hd, h⟩
  · rw [hr] at h
    rcases h with h | h | h
    · omega
    · omega
    · cases h
  · rw [hr] at hs; cases hs
  · rw [hr] at hd
    injection hd with e1 e2 e3
    subst e1 e2 e3
    exact h
theorem rfixed_at (D : Nat) (f x er : Int) (w : World) (hD : D < 18446744073709551616) (h : Fx D f x er) : RFixedGives D f x er w := by
  by_cases c1 : f < 0
  · obtain ⟨rfl, rfl⟩ : x = 0 ∧ er = 2 := by
      rcases h with h | h | h
      · exact h.2
      · omega
      · omega
    exact rfixed_below D f w hD c1
  by_cases c2 : 15 < f
  · obtain ⟨rfl, rfl⟩ : x = 0 ∧ er = 2 := by
      rcases h with h | h | h
      · exact h.2
      · omega
      · omega
    exact rfixed_above D f w hD c2
  have c1' : 0 ≤ f := by omega
  have c2' : f ≤ 15 := by omega
  obtain ⟨p1, p2, p3, p4⟩ := parts D hD
  generalize hPn : D / 4503599627370496 % 2048 = Pn at *
  generalize hMn : D % 4503599627370496 = Mn at *
  have hP : (D : Int) / 4503599627370496 % 2048 = (Pn : Int) := by omega
  have hM : (D : Int) % 4503599627370496 = (Mn : Int) := by omega
  have hMl : Mn < 4503599627370496 := by omega
  by_cases q1 : Pn = 2047
  · by_cases q2 : 0 < Mn
    · have hn := p1 q1 q2
      obtain ⟨rfl, rfl⟩ : x = 0 ∧ er = 2 := by
        rcases h with h | ⟨_, _, ⟨s', hs⟩, _⟩ | ⟨_, _, s', m', i', hd, _⟩
        · exact h.2
        · rw [hs] at hn; cases hn
        · rw [hd] at hn; cases hn
      exact rfixed_nan D f _ _ w hD c1' c2' hP hM (by omega) (by omega)
    · obtain ⟨s, hs⟩ := p2 q1 (by omega)
      obtain ⟨rfl, rfl⟩ : x = 0 ∧ er = 11 := by
        rcases h with ⟨h, _⟩ | ⟨_, _, _, h⟩ | ⟨_, _, s', m', i', hd, _⟩
        · rw [hs] at h
          rcases h with h | h | h
          · omega
          · omega
          · cases h
        · exact h
        · rw [hd] at hs; cases hs
      exact rfixed_inf D f _ _ w hD c1' c2' hP hM (by omega) (by omega)
  by_cases q2 : Pn = 0
  · have hz := fx_told c1' c2' (p4 q2) h
    have hrv : rv Mn (-1074 + f) = 0 := by
      unfold rv
      refine rte_small ?_
      rw [show (-1074 + f).toNat = 0 by omega, Nat.pow_zero, Nat.mul_one]
      calc 2 * Mn < 2 ^ 53 := by omega
        _ ≤ 2 ^ (-(-1074 + f)).toNat := Nat.pow_le_pow_right (by decide) (by omega)
    rw [hrv, sg_none] at hz
    exact rfixed_nought D f _ _ w hD c1' c2' hP hM 0 x er (by omega) rfl hz
  have hPl : Pn < 2048 := by omega
  have hz := fx_told c1' c2' (p3 (by omega) (by omega)) h
  rw [sg_if] at hz
  clear p1 p2 p3 p4 h
  by_cases q3 : 11 < (Pn : Int) - 1075 + f
  · obtain ⟨rfl, rfl⟩ : x = 0 ∧ er = 11 := by
      have hrv : 4503599627370496 ≤ rv (4503599627370496 + Mn) ((Pn : Int) - 1075 + f) := by
        unfold rv
        rw [show (-((Pn : Int) - 1075 + f)).toNat = 0 by omega, rte_zero]
        calc 4503599627370496 ≤ (4503599627370496 + Mn) * 1 := by omega
          _ ≤ _ := Nat.mul_le_mul_left _ (Nat.two_pow_pos _)
      unfold Told16 at hz
      split at hz <;> omega
    exact rfixed_far D f _ _ w hD c1' c2' hP hM _ (by omega) (by omega) rfl q3
  by_cases q4 : 0 ≤ (Pn : Int) - 1075 + f
  · obtain ⟨k, hk⟩ : ∃ k : Nat, (Pn : Int) - 1075 + f = k := ⟨((Pn : Int) - 1075 + f).toNat, by omega⟩
    rw [hk] at hz
    have hrv : rv (4503599627370496 + Mn) (k : Int) = (4503599627370496 + Mn) * 2 ^ k := by
      unfold rv
      rw [show (-(k : Int)).toNat = 0 by omega, rte_zero, Int.toNat_natCast]
    have hk11 : k ≤ 11 := by omega
    have l1 : (4503599627370496 + Mn) * 2 ^ k ≤ 18446744073709551615 := by
      have a1 : (2 ^ k : Nat) ≤ 2 ^ 11 := Nat.pow_le_pow_right (by decide) hk11
      have a2 : (4503599627370496 + Mn) * 2 ^ k ≤ 9007199254740991 * 2 ^ 11 := Nat.mul_le_mul (by omega) a1
      omega
    have l2 : 4503599627370496 ≤ (4503599627370496 + Mn) * 2 ^ k := by
      calc 4503599627370496 ≤ (4503599627370496 + Mn) * 1 := by omega
        _ ≤ _ := Nat.mul_le_mul_left _ (Nat.two_pow_pos _)
    have hN : IntKind.u64.wrap (((Mn : Int) + 4503599627370496) * 2 ^ k) = (((4503599627370496 + Mn) * 2 ^ k : Nat) : Int) := by
      rw [show ((Mn : Int) + 4503599627370496) * 2 ^ k = (((4503599627370496 + Mn) * 2 ^ k : Nat) : Int) by simp [Int.add_comm], IntKind.wrap_u64]
      generalize (4503599627370496 + Mn) * 2 ^ k = q at *
      omega
    rw [hrv] at hz
    generalize (4503599627370496 + Mn) * 2 ^ k = q at *
    exact rfixed_up D f _ _ w hD c1' c2' hP hM k q _ x er (by omega) (by omega) hk hk11 hN (by omega) (by omega) rfl hz
  obtain ⟨k, hk⟩ : ∃ k : Nat, (Pn : Int) - 1075 + f = -(k : Int) := ⟨(-((Pn : Int) - 1075 + f)).toNat, by omega⟩
  rw [hk] at hz
  have hrv : rv (4503599627370496 + Mn) (-(k : Int)) = rte (4503599627370496 + Mn) k := by
    unfold rv
    rw [show (-(k : Int)).toNat = 0 by omega, show (- -(k : Int)).toNat = k by omega, Nat.pow_zero, Nat.mul_one]
  rw [hrv] at hz
  by_cases q5 : 60 < k
  · have hr0 : rte (4503599627370496 + Mn) k = 0 := by
      refine rte_small ?_
      calc 2 * (4503599627370496 + Mn) < 2 ^ 60 := by omega
        _ ≤ 2 ^ k := Nat.pow_le_pow_right (by decide) (by omega)
    rw [hr0] at hz
    refine rfixed_none D f _ _ w hD c1' c2' hP hM _ 0 x er (by omega) (by omega) hk (by omega) rfl ?_
    have e0 : (if 9223372036854775808 ≤ D then -((0 : Nat) : Int) else ((0 : Nat) : Int)) = 0 := by split <;> rfl
    rwa [e0] at hz
  · have hT := two_pow_int k (by omega)
    have hH := two_pow_int (k - 1) (by omega)
    have hTH : (2 ^ k : Nat) = 2 * 2 ^ (k - 1) := by
      rw [← Nat.pow_succ']
      congr 1
      omega
    have hpos : 0 < (2 ^ (k - 1) : Nat) := Nat.two_pow_pos _
    have hN : ((Mn : Int) + 4503599627370496) / 2 ^ k = (((4503599627370496 + Mn) / 2 ^ k : Nat) : Int) := by
      rw [Int.natCast_ediv]
      simp [Int.add_comm]
    have hR : ((Mn : Int) + 4503599627370496) % ((2 ^ k : Nat) : Int) = (((4503599627370496 + Mn) % 2 ^ k : Nat) : Int) := by
      rw [Int.natCast_emod]
      simp [Int.add_comm]
    have hNl : (4503599627370496 + Mn) / 2 ^ k ≤ 4503599627370496 + Mn := Nat.div_le_self _ _
    unfold rte at hz
    generalize (2 ^ k : Nat) = T at *
    generalize (2 ^ (k - 1) : Nat) = H at *
    generalize (4503599627370496 + Mn) / T = N at *
    generalize (4503599627370496 + Mn) % T = R at *
    have hB : (N : Int).tmod 2 = ((N % 2 : Nat) : Int) := by
      rw [Int.tmod_eq_emod_of_nonneg (by omega)]
      omega
    exact rfixed_down D f _ _ w hD c1' c2' hP hM k N R T H _ _ _ x er (by omega) (by omega) hk (by omega) (by omega) hN hT hH hR hB (by omega) (by omega) (by omega) (by split <;> omega) rfl hz
end Go.Proofs.Ytcaleaecjoafhaa
