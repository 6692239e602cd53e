/-
  Doubles as exact numbers: what a product with a power of two, a rounding to the nearest whole number (of two as near the even one), a comparison and a conversion give. Plain arithmetic; no condition but those that each theorem writes out.
-/
import Derived.Laws.FloatArith
namespace Go.Proofs.Ytcaleaecjoafhaa
open Ieee

/-- n / 2^d to the nearest whole number, of two as near the even one. -/
def rte (n d : Nat) : Nat := n / 2 ^ d + (if 2 ^ d < 2 * (n % 2 ^ d) ∨ (2 ^ d = 2 * (n % 2 ^ d) ∧ n / 2 ^ d % 2 = 1) then 1 else 0)
theorem rte_zero (n : Nat) : rte n 0 = n := by
  unfold rte
  rw [if_neg] <;> simp [Nat.mod_one]
theorem rte_scale (n d k : Nat) : rte (n * 2 ^ k) (d + k) = rte n d := by
  have hp : 0 < 2 ^ k := Nat.two_pow_pos k
  unfold rte
  rw [Nat.pow_add, Nat.mul_div_mul_right _ _ hp, Nat.mul_mod_mul_right, ← Nat.mul_assoc]
  have e1 : (2 ^ d * 2 ^ k < 2 * (n % 2 ^ d) * 2 ^ k) ↔ (2 ^ d < 2 * (n % 2 ^ d)) := Nat.mul_lt_mul_right hp
  have e2 : (2 ^ d * 2 ^ k = 2 * (n % 2 ^ d) * 2 ^ k) ↔ (2 ^ d = 2 * (n % 2 ^ d)) := Nat.mul_right_cancel_iff hp
  simp only [e1, e2]
theorem rte_small {n d : Nat} (h : 2 * n < 2 ^ d) : rte n d = 0 := by
  unfold rte
  rw [Nat.div_eq_of_lt (by omega), Nat.mod_eq_of_lt (by omega), if_neg (by omega)]
theorem cut_even (s : Bool) (n d : Nat) : Toward.even.cut s n d = rte n d := by
  have key : ∀ g, Toward.even.cut s n d = n / 2 ^ g + (if 2 ^ g < 2 * (n % 2 ^ g) ∨ (2 ^ g = 2 * (n % 2 ^ g) ∧ n / 2 ^ g % 2 = 1) then 1 else 0) ∨ g ≠ min d (n.log2 + 2) := by
    intro g
    by_cases hg : g = min d (n.log2 + 2)
    · left
      unfold Toward.cut
      simp only [← hg, Nat.one_shiftLeft]
      by_cases hc : 2 ^ g < 2 * (n % 2 ^ g) ∨ (2 ^ g = 2 * (n % 2 ^ g) ∧ n / 2 ^ g % 2 = 1)
      · rw [if_pos hc]
        congr 1
        rcases hc with hc | ⟨h1, h2⟩
        · simp [hc]
        · have : (2 ^ g == 2 * (n % 2 ^ g)) = true := by simpa using h1
          simp [this, h2]
      · rw [if_neg hc]
        congr 1
        have h1 : ¬ 2 ^ g < 2 * (n % 2 ^ g) := fun h => hc (.inl h)
        by_cases h2 : 2 ^ g = 2 * (n % 2 ^ g)
        · have h3 : ¬ n / 2 ^ g % 2 = 1 := fun h => hc (.inr ⟨h2, h⟩)
          have h4 : n / 2 ^ g % 2 = 0 := by omega
          simp [h1, h4]
        · have h3 : (2 ^ g == 2 * (n % 2 ^ g)) = false := by simpa using h2
          simp [h1, h3]
    · exact .inr hg
  rcases Nat.lt_or_ge (n.log2 + 2) d with hd | hd
  · have hlt : n < 2 ^ (n.log2 + 1) := Nat.lt_log2_self
    have h1 : 2 * n < 2 ^ (n.log2 + 2) := by rw [Nat.pow_succ]; omega
    have h2 : 2 * n < 2 ^ d := Nat.lt_of_lt_of_le h1 (Nat.pow_le_pow_right (by decide) (by omega))
    rcases key (n.log2 + 2) with h | h
    · rw [h, rte_small h2]
      exact rte_small h1
    · omega
  · rcases key d with h | h
    · exact h
    · omega

theorem read_word (s : Bool) (e k : Nat) (h1 : k < 9007199254740992) (h2 : e = 0 ∨ 4503599627370496 ≤ k) :
    double.read (double.word s (min (e * 4503599627370496 + k) 9218868437227405312)) = if e * 4503599627370496 + k < 9218868437227405312 then .number s k (-1074 + e) else .infinity s := by
  have c1 : double.signWeight = 9223372036854775808 := by decide
  have c2 : double.binade = 4503599627370496 := by decide
  have c3 : double.infRung = 9218868437227405312 := by decide
  have c4 : double.leastPlace = -1074 := by decide
  generalize hr : min (e * 4503599627370496 + k) 9218868437227405312 = r
  have hrl : r ≤ 9218868437227405312 := by omega
  have hs : (double.word s r / 9223372036854775808 % 2 == 1) = s := by
    unfold Format.word
    rw [c1]
    cases s
    · simp; omega
    · simp; omega
  have hm : double.word s r % 9223372036854775808 = r := by
    unfold Format.word
    rw [c1]
    cases s
    · simp; omega
    · simp; omega
  unfold Format.read
  simp only [c1, c2, c3, c4, hs, hm]
  by_cases hi : e * 4503599627370496 + k < 9218868437227405312
  · have hr' : r = e * 4503599627370496 + k := by omega
    rw [if_pos hi]
    rcases h2 with rfl | h2
    · simp only [Nat.zero_mul, Nat.zero_add] at hr'
      subst hr'
      by_cases hk : r < 4503599627370496
      · rw [if_pos hk]; simp
      · rw [if_neg hk, if_pos (by omega)]
        congr 1 <;> omega
    · rw [if_neg (by omega), if_pos (by omega)]
      congr 1 <;> omega
  · have hr' : r = 9218868437227405312 := by omega
    subst hr'
    rw [if_neg hi, if_neg (by omega), if_neg (by omega), if_pos rfl]

theorem near_bounds (m : Nat) (p last : Int) (k : Nat) (hm : 0 < m) (hlast : last = max (p + (m.log2 : Int) - 52) (-1074)) (hk : m * 2 ^ (p - last).toNat = k * 2 ^ (last - p).toNat) :
    k < 9007199254740992 ∧ (last = -1074 ∨ 4503599627370496 ≤ k) := by
  have hlo : 2 ^ m.log2 ≤ m := Nat.log2_self_le (by omega)
  have hhi : m < 2 ^ (m.log2 + 1) := Nat.lt_log2_self
  have e52 : (9007199254740992 : Nat) = 2 ^ 53 := by decide
  have e51 : (4503599627370496 : Nat) = 2 ^ 52 := by decide
  rw [e52, e51]
  generalize hL : m.log2 = L at *
  rcases Int.le_total last p with h | h
  · have hd : (last - p).toNat = 0 := by omega
    rw [hd, Nat.pow_zero, Nat.mul_one] at hk
    subst hk
    generalize ha : (p - last).toNat = a at *
    have hp : 0 < 2 ^ a := Nat.two_pow_pos a
    refine ⟨?_, ?_⟩
    · calc m * 2 ^ a < 2 ^ (L + 1) * 2 ^ a := Nat.mul_lt_mul_of_pos_right hhi hp
        _ = 2 ^ (L + 1 + a) := by rw [Nat.pow_add 2 (L + 1) a]
        _ ≤ 2 ^ 53 := Nat.pow_le_pow_right (by decide) (by omega)
    · by_cases hl : last = -1074
      · exact .inl hl
      · right
        calc 2 ^ 52 ≤ 2 ^ (L + a) := Nat.pow_le_pow_right (by decide) (by omega)
          _ = 2 ^ L * 2 ^ a := Nat.pow_add 2 L a
          _ ≤ m * 2 ^ a := Nat.mul_le_mul_right _ hlo
  · have ha : (p - last).toNat = 0 := by omega
    rw [ha, Nat.pow_zero, Nat.mul_one] at hk
    generalize hd : (last - p).toNat = d at *
    have hp : 0 < 2 ^ d := Nat.two_pow_pos d
    refine ⟨?_, ?_⟩
    · refine Nat.lt_of_not_le fun hc => ?_
      have h1 : 2 ^ (L + 1) ≤ 2 ^ 53 * 2 ^ d := by
        rw [← Nat.pow_add]
        exact Nat.pow_le_pow_right (by decide) (by omega)
      have h2 : 2 ^ 53 * 2 ^ d ≤ k * 2 ^ d := Nat.mul_le_mul_right _ hc
      omega
    · by_cases hl : last = -1074
      · exact .inl hl
      · right
        refine Nat.le_of_not_lt fun hc => ?_
        have h1 : k * 2 ^ d < 2 ^ 52 * 2 ^ d := Nat.mul_lt_mul_of_pos_right hc hp
        rw [← Nat.pow_add] at h1
        have h2 : 2 ^ (52 + d) ≤ 2 ^ L := Nat.pow_le_pow_right (by decide) (by omega)
        omega
theorem near_exact (s : Bool) (m : Nat) (p last : Int) (k : Nat) (hm : 0 < m) (hlast : last = max (p + (m.log2 : Int) - 52) (-1074)) (hk : m * 2 ^ (p - last).toNat = k * 2 ^ (last - p).toNat) :
    double.read (double.nearest s m p) = if (last + 1074).toNat * 4503599627370496 + k < 9218868437227405312 then .number s k last else .infinity s := by
  have c2 : double.binade = 4503599627370496 := by decide
  have c3 : double.infRung = 9218868437227405312 := by decide
  have c4 : double.leastPlace = -1074 := by decide
  have c5 : double.fractionBits = 52 := by decide
  have hcut : Toward.even.cut s (m <<< (p - last).toNat) (last - p).toNat = k := by
    rw [cut_even, Nat.shiftLeft_eq, hk]
    have := rte_scale k 0 (last - p).toNat
    rw [Nat.zero_add, rte_zero] at this
    exact this
  have hb := near_bounds m p last k hm hlast hk
  have hword : double.nearest s m p = double.word s (min ((last + 1074).toNat * 4503599627370496 + k) 9218868437227405312) := by
    unfold Format.nearest
    rw [if_neg (by omega)]
    simp only [c2, c3, c4, c5]
    rw [show max (p + (m.log2 : Int) - ((52 : Nat) : Int)) (-1074) = last by rw [hlast]; rfl, hcut]
    rfl
  rw [hword, read_word s _ k hb.1 (by have := hb.2; omega)]
  have : (-1074 : Int) + ((last + 1074).toNat : Int) = last := by omega
  rw [this]

/-- k * 2^j is the whole number N. -/
def Val (k : Nat) (j : Int) (N : Nat) : Prop := ∀ b : Nat, 0 ≤ j + b → k * 2 ^ (j + b).toNat = N * 2 ^ b
def sg (s : Bool) (n : Nat) : Int := if s then -(n : Int) else n
theorem signed_eq (s : Bool) (n up : Nat) : signed s n up = sg s (n * 2 ^ up) := by
  unfold signed sg
  rw [Nat.shiftLeft_eq]
theorem sg_mul (s : Bool) (n p : Nat) : sg s (n * p) = sg s n * (p : Int) := by
  unfold sg
  cases s
  · simp
  · simp [Int.neg_mul]
theorem cmp_lt (a b : Int) : (some (compare a b) == some Ordering.lt) = decide (a < b) := by
  by_cases h : a < b
  · have : compare a b = .lt := by simp [compare, compareOfLessAndEq, h]
    rw [this]; simp [h]
  · by_cases h2 : a = b
    · have : compare a b = .eq := by simp [compare, compareOfLessAndEq, h2]
      rw [this]; simp [h]
    · have : compare a b = .gt := by simp [compare, compareOfLessAndEq, h, h2]
      rw [this]; simp [h]
theorem cmp_gt (a b : Int) : (some (compare a b) == some Ordering.gt) = decide (b < a) := by
  by_cases h : a < b
  · have : compare a b = .lt := by simp [compare, compareOfLessAndEq, h]
    rw [this]; simp; omega
  · by_cases h2 : a = b
    · have : compare a b = .eq := by simp [compare, compareOfLessAndEq, h2]
      rw [this]; simp; omega
    · have : compare a b = .gt := by simp [compare, compareOfLessAndEq, h, h2]
      rw [this]; simp; omega
theorem order_val {s t : Bool} {k c : Nat} {j q : Int} {N C : Nat} (h : Val k j N) (h' : Val c q C) (hq : q ≤ 0) :
    ∃ p : Nat, 0 < p ∧ (Datum.number s k j).order (.number t c q) = some (compare (sg s N * (p : Int)) (sg t C * (p : Int))) := by
  refine ⟨2 ^ (-(min j q)).toNat, Nat.two_pow_pos _, ?_⟩
  have hb : ((-(min j q)).toNat : Int) = -(min j q) := by omega
  have e1 := h (-(min j q)).toNat (by omega)
  have e2 := h' (-(min j q)).toNat (by omega)
  rw [hb] at e1 e2
  simp only [Datum.order, signed_eq]
  rw [show j - min j q = j + -(min j q) by omega, show q - min j q = q + -(min j q) by omega, e1, e2, sg_mul, sg_mul]
theorem mul_lt_iff {a b p : Int} (hp : 0 < p) : a * p < b * p ↔ a < b :=
  ⟨fun h => Int.lt_of_mul_lt_mul_right h (Int.le_of_lt hp), fun h => Int.mul_lt_mul_of_pos_right h hp⟩
theorem order_lt {s t : Bool} {k c : Nat} {j q : Int} {N C : Nat} (h : Val k j N) (h' : Val c q C) (hq : q ≤ 0) :
    ((Datum.number s k j).order (.number t c q) == some Ordering.lt) = decide (sg s N < sg t C) := by
  obtain ⟨p, hp, e⟩ := order_val (s := s) (t := t) h h' hq
  rw [e, cmp_lt]
  exact decide_eq_decide.2 (mul_lt_iff (by omega))
theorem order_gt {s t : Bool} {k c : Nat} {j q : Int} {N C : Nat} (h : Val k j N) (h' : Val c q C) (hq : q ≤ 0) :
    ((Datum.number s k j).order (.number t c q) == some Ordering.gt) = decide (sg t C < sg s N) := by
  obtain ⟨p, hp, e⟩ := order_val (s := s) (t := t) h h' hq
  rw [e, cmp_gt]
  exact decide_eq_decide.2 (mul_lt_iff (by omega))
theorem order_self (x : Nat) : (double.read x).isNaN = false → double.order x x = some .eq := by
  intro h
  unfold Format.order
  generalize double.read x = d at *
  cases d with
  | nan s f => cases h
  | infinity s => cases s <;> rfl
  | number s m i => simp [Datum.order, compare, compareOfLessAndEq]

theorem read_min : double.read 13898108450065350656 = .number true 4503599627370496 (-37) := by decide
theorem read_max : double.read 4674736138332667904 = .number false 9006924376834048 (-38) := by decide
theorem val_pow (N a : Nat) : Val (N * 2 ^ a) (-(a : Int)) N := by
  intro b hb
  rw [Nat.mul_assoc, ← Nat.pow_add]
  congr 2
  omega
theorem val_up (k a : Nat) : Val k (a : Int) (k * 2 ^ a) := by
  intro b _
  rw [Nat.mul_assoc, ← Nat.pow_add]
  congr 2
theorem val_zero (j : Int) : Val 0 j 0 := by
  intro b _
  simp
theorem val_min : Val 4503599627370496 (-37) 32768 := val_pow 32768 37
theorem val_max : Val 9006924376834048 (-38) 32767 := val_pow 32767 38

/-- The double nearest to a whole number that has a double of its own. -/
theorem near_small (s : Bool) (N : Nat) (h0 : 0 < N) (h : N < 9007199254740992) : double.read (double.nearest s N 0) = .number s (N * 2 ^ (52 - N.log2)) (-((52 - N.log2 : Nat) : Int)) := by
  have hL : N.log2 ≤ 52 := by
    have : N.log2 < 53 := (Nat.log2_lt (by omega)).2 (by omega)
    omega
  have hlo : 2 ^ N.log2 ≤ N := Nat.log2_self_le (by omega)
  have hhi : N < 2 ^ (N.log2 + 1) := Nat.lt_log2_self
  have hmul : N * 2 ^ (52 - N.log2) < 2 ^ 53 := by
    calc N * 2 ^ (52 - N.log2) < 2 ^ (N.log2 + 1) * 2 ^ (52 - N.log2) := Nat.mul_lt_mul_of_pos_right hhi (Nat.two_pow_pos _)
      _ = 2 ^ 53 := by rw [← Nat.pow_add]; congr 1; omega
  rw [near_exact s N 0 (-((52 - N.log2 : Nat) : Int)) (N * 2 ^ (52 - N.log2)) h0 (by omega) (by
    rw [show (0 - -((52 - N.log2 : Nat) : Int)).toNat = 52 - N.log2 by omega, show (-((52 - N.log2 : Nat) : Int) - 0).toNat = 0 by omega]
    simp)]
  rw [if_pos (by omega)]
theorem near_big (s : Bool) (k a : Nat) (h1 : 4503599627370496 ≤ k) (h2 : k < 9007199254740992) (h3 : (a + 1074) * 4503599627370496 + k < 9218868437227405312) : double.read (double.nearest s (k * 2 ^ a) 0) = .number s k (a : Int) := by
  have hk : k.log2 = 52 := by
    have g1 : k.log2 < 53 := (Nat.log2_lt (by omega)).2 (by omega)
    have g2 : 52 ≤ k.log2 := (Nat.le_log2 (by omega)).2 (by omega)
    omega
  have hp : 0 < 2 ^ a := Nat.two_pow_pos a
  have hpos : 0 < k * 2 ^ a := Nat.mul_pos (by omega) hp
  have hL : (k * 2 ^ a).log2 = 52 + a := by
    have hlo : 2 ^ 52 ≤ k := by omega
    have hhi : k < 2 ^ 53 := by omega
    have g1 : (k * 2 ^ a).log2 < 53 + a := (Nat.log2_lt (by omega)).2 (by rw [Nat.pow_add]; exact Nat.mul_lt_mul_of_pos_right hhi hp)
    have g2 : 52 + a ≤ (k * 2 ^ a).log2 := (Nat.le_log2 (by omega)).2 (by rw [Nat.pow_add]; exact Nat.mul_le_mul_right _ hlo)
    omega
  rw [near_exact s (k * 2 ^ a) 0 (a : Int) k hpos (by rw [hL]; omega) (by
    rw [show (0 - (a : Int)).toNat = 0 by omega, show ((a : Int) - 0).toNat = a by omega]
    simp)]
  rw [show ((a : Int) + 1074).toNat = a + 1074 by omega, if_pos h3]
theorem near_zero (s : Bool) (p : Int) : double.read (double.nearest s 0 p) = .number s 0 (-1074) := by
  have : double.nearest s 0 p = double.word s 0 := by
    unfold Format.nearest
    rw [if_pos rfl]
  rw [this]
  cases s <;> decide
theorem toInt_small (s : Bool) (N : Nat) (h : N ≤ 32768) : ((double.read (double.nearest s N 0)).toInt .zero) = some (sg s N) := by
  rcases Nat.eq_zero_or_pos N with rfl | h0
  · cases s <;> decide
  · rw [near_small s N h0 (by omega)]
    have hL : N.log2 ≤ 52 := by
      have : N.log2 < 53 := (Nat.log2_lt (by omega)).2 (by omega)
      omega
    have hlo : 2 ^ N.log2 ≤ N := Nat.log2_self_le (by omega)
    have hk : 2 ^ 52 ≤ N * 2 ^ (52 - N.log2) := by
      calc 2 ^ 52 = 2 ^ N.log2 * 2 ^ (52 - N.log2) := by rw [← Nat.pow_add]; congr 1; omega
        _ ≤ _ := Nat.mul_le_mul_right _ hlo
    have hk2 : 52 ≤ (N * 2 ^ (52 - N.log2)).log2 := (Nat.le_log2 (by omega)).2 hk
    unfold Datum.toInt Datum.integral Toward.cut
    simp only [signed_eq]
    rw [show (-((52 - N.log2 : Nat) : Int)).toNat = 0 by omega, show (- -((52 - N.log2 : Nat) : Int)).toNat = 52 - N.log2 by omega, Nat.shiftLeft_zero, Nat.min_eq_left (by omega), Nat.one_shiftLeft, Nat.mul_div_cancel _ (Nat.two_pow_pos _)]
    simp

/-- The whole number nearest to m * 2^up. -/
def rv (m : Nat) (up : Int) : Nat := rte (m * 2 ^ up.toNat) (-up).toNat
theorem rte_le (n d : Nat) (h : n < 9007199254740992) : rte n d < 9007199254740992 := by
  rcases Nat.eq_zero_or_pos d with rfl | hd
  · rwa [rte_zero]
  · have h2 : 2 ≤ 2 ^ d := by
      calc 2 = 2 ^ 1 := rfl
        _ ≤ 2 ^ d := Nat.pow_le_pow_right (by decide) hd
    have h3 : n / 2 ^ d ≤ n / 2 := Nat.div_le_div_left h2 (by decide)
    unfold rte
    split <;> omega
theorem rte_none (d : Nat) : rte 0 d = 0 := rte_small (by have := Nat.two_pow_pos d; omega)
theorem pow_word (f : Nat) (hf : f ≤ 15) : double.read (double.nearest false (2 ^ f) 0) = .number false 4503599627370496 ((f : Int) - 52) := by
  have hp : 0 < 2 ^ f := Nat.two_pow_pos f
  have hl : (2 ^ f : Nat) ≤ 2 ^ 15 := Nat.pow_le_pow_right (by decide) hf
  rw [near_small false (2 ^ f) hp (by omega), Nat.log2_two_pow, ← Nat.pow_add, show f + (52 - f) = 52 by omega]
  congr 1
  omega
theorem product_num {x m f : Nat} {s : Bool} {i : Int} (hr : double.read x = .number s m i) (hf : f ≤ 15) :
    double.mul x (double.nearest false (2 ^ f) 0) = some (double.nearest s (m * 4503599627370496) (i + ((f : Int) - 52))) := by
  unfold Format.mul
  rw [hr, pow_word f hf]
  simp [Datum.product, Format.write]
theorem product_inf {x f : Nat} {s : Bool} (hr : double.read x = .infinity s) (hf : f ≤ 15) :
    double.mul x (double.nearest false (2 ^ f) 0) = some (double.word s 9218868437227405312) := by
  unfold Format.mul
  rw [hr, pow_word f hf]
  have c3 : double.infRung = 9218868437227405312 := by decide
  simp [Datum.product, Format.write, c3]
theorem read_inf (s : Bool) : double.read (double.word s 9218868437227405312) = .infinity s := by cases s <;> decide
/-- What the comparisons and the conversion of a rounded double find of the whole number z. -/
def Finds (w : Nat) (z : Int) : Prop :=
  (double.order w 13898108450065350656 == some .lt) = decide (z < -32768) ∧ (double.order w 4674736138332667904 == some .gt) = decide (32767 < z) ∧ (-32768 ≤ z → z ≤ 32767 → (double.read w).toInt .zero = some z)
theorem finds_val {w k N : Nat} {s : Bool} {j : Int} (hr : double.read w = .number s k j) (hv : Val k j N) (hw : N ≤ 32768 → (double.read w).toInt .zero = some (sg s N)) : Finds w (sg s N) := by
  refine ⟨?_, ?_, fun h1 h2 => hw ?_⟩
  · unfold Format.order
    rw [hr, read_min]
    exact order_lt hv val_min (by decide)
  · unfold Format.order
    rw [hr, read_max]
    exact order_gt hv val_max (by decide)
  · unfold sg at h1 h2
    split at h1 <;> simp_all <;> omega
theorem finds_near (s : Bool) (N : Nat) (h : N < 9007199254740992) : Finds (double.nearest s N 0) (sg s N) := by
  rcases Nat.eq_zero_or_pos N with rfl | h0
  · exact finds_val (near_zero s 0) (val_zero _) (toInt_small s 0)
  · exact finds_val (near_small s N h0 h) (val_pow _ _) (toInt_small s N)
theorem finds_inf (s : Bool) {N : Nat} (h : 65536 ≤ N) : Finds (double.word s 9218868437227405312) (sg s N) := by
  refine ⟨?_, ?_, fun h1 h2 => ?_⟩
  · unfold Format.order
    rw [read_inf, read_min]
    cases s
    · simp [Datum.order, sg] <;> omega
    · simp [Datum.order, sg] <;> omega
  · unfold Format.order
    rw [read_inf, read_max]
    cases s
    · simp [Datum.order, sg] <;> omega
    · simp [Datum.order, sg] <;> omega
  · unfold sg at h1 h2
    split at h1 <;> simp_all <;> omega
/-- A double's product with a power of two, rounded: what it finds is the whole number nearest to it. -/
theorem fixed_num (s : Bool) (m f : Nat) (i : Int) (hm : m < 9007199254740992) (hi : -1074 ≤ i) (hf : f ≤ 15) :
    (double.read (double.nearest s (m * 4503599627370496) (i + ((f : Int) - 52)))).isNaN = false ∧
      Finds (double.write ((double.read (double.nearest s (m * 4503599627370496) (i + ((f : Int) - 52)))).integral .even)) (sg s (rv m (i + f))) := by
  rcases Nat.eq_zero_or_pos m with rfl | h0
  · rw [Nat.zero_mul, near_zero]
    refine ⟨rfl, ?_⟩
    simp only [Datum.integral, cut_even, Nat.zero_shiftLeft, rte_none, Format.write]
    unfold rv
    rw [Nat.zero_mul, rte_none]
    exact finds_near s 0 (by decide)
  · generalize hup : i + (f : Int) = up
    have hp : i + ((f : Int) - 52) = up - 52 := by omega
    rw [hp]
    have hL : m.log2 ≤ 52 := by
      have : m.log2 < 53 := (Nat.log2_lt (by omega)).2 (by omega)
      omega
    have hlo : 2 ^ m.log2 ≤ m := Nat.log2_self_le (by omega)
    have hhi : m < 2 ^ (m.log2 + 1) := Nat.lt_log2_self
    have e52 : (4503599627370496 : Nat) = 2 ^ 52 := by decide
    have hL2 : (m * 4503599627370496).log2 = m.log2 + 52 := by
      have g1 : (m * 4503599627370496).log2 < m.log2 + 1 + 52 := (Nat.log2_lt (by omega)).2 (by rw [Nat.pow_add, e52]; exact Nat.mul_lt_mul_of_pos_right hhi (Nat.two_pow_pos _))
      have g2 : m.log2 + 52 ≤ (m * 4503599627370496).log2 := (Nat.le_log2 (by omega)).2 (by rw [Nat.pow_add, e52]; exact Nat.mul_le_mul_right _ hlo)
      omega
    obtain ⟨last, hlast⟩ : ∃ last, last = max (up - 52 + (m.log2 : Int)) (-1074) := ⟨_, rfl⟩
    have hle : last ≤ up := by omega
    have hk : m * 4503599627370496 * 2 ^ (up - 52 - last).toNat = m * 2 ^ (up - last).toNat * 2 ^ (last - (up - 52)).toNat := by
      rw [e52, Nat.mul_assoc, Nat.mul_assoc, ← Nat.pow_add, ← Nat.pow_add]
      congr 2
      omega
    have hlast' : last = max (up - 52 + ((m * 4503599627370496).log2 : Int) - 52) (-1074) := by rw [hL2]; omega
    have hread := near_exact s (m * 4503599627370496) (up - 52) last (m * 2 ^ (up - last).toNat) (by omega) hlast' hk
    have hbd := near_bounds (m * 4503599627370496) (up - 52) last (m * 2 ^ (up - last).toNat) (by omega) hlast' hk
    rw [hread]
    have hrv : rte (m * 2 ^ (up - last).toNat * 2 ^ last.toNat) (-last).toNat = rv m up := by
      unfold rv
      rw [Nat.mul_assoc, ← Nat.pow_add]
      have e1 : (up - last).toNat + last.toNat = up.toNat + ((-last).toNat - (-up).toNat) := by omega
      have e2 : (-last).toNat = (-up).toNat + ((-last).toNat - (-up).toNat) := by omega
      rw [e1, Nat.pow_add, ← Nat.mul_assoc]
      conv => lhs; rw [e2]
      have e3 : (-up).toNat + ((-last).toNat - (-up).toNat) - (-up).toNat = (-last).toNat - (-up).toNat := by omega
      rw [e3]
      exact rte_scale _ _ _
    generalize hkk : m * 2 ^ (up - last).toNat = k at *
    by_cases hfin : (last + 1074).toNat * 4503599627370496 + k < 9218868437227405312
    · rw [if_pos hfin]
      refine ⟨rfl, ?_⟩
      simp only [Datum.integral, cut_even, Format.write, Nat.shiftLeft_eq]
      rw [hrv]
      by_cases hN : rv m up < 9007199254740992
      · exact finds_near s _ hN
      · have hpos : 0 < last := by
          refine Int.not_le.1 fun hc => hN ?_
          rw [← hrv, show last.toNat = 0 by omega, Nat.pow_zero, Nat.mul_one]
          exact rte_le _ _ hbd.1
        have hNk : rv m up = k * 2 ^ last.toNat := by
          rw [← hrv, show (-last).toNat = 0 by omega, rte_zero]
        rw [hNk]
        have hr := near_big s k last.toNat (by omega) hbd.1 (by rw [show last.toNat + 1074 = (last + 1074).toNat by omega]; exact hfin)
        refine finds_val hr (val_up _ _) fun hc => ?_
        rw [← hNk] at hc
        omega
    · rw [if_neg hfin]
      refine ⟨rfl, ?_⟩
      have c3 : double.infRung = 9218868437227405312 := by decide
      simp only [Datum.integral, Format.write, c3]
      refine finds_inf s ?_
      have hbig : 900 ≤ last := by omega
      have hNk : rv m up = k * 2 ^ last.toNat := by
        rw [← hrv, show (-last).toNat = 0 by omega, rte_zero]
      rw [hNk]
      have h1 : 4503599627370496 ≤ k := by omega
      have h2 : 1 ≤ 2 ^ last.toNat := Nat.two_pow_pos _
      calc 65536 ≤ k * 1 := by omega
        _ ≤ k * 2 ^ last.toNat := Nat.mul_le_mul_left _ h2
/-- The same, for a double that reads as a number. -/
theorem fixed_all {x m f : Nat} {s : Bool} {i : Int} (hr : double.read x = .number s m i) (hm : m < 9007199254740992) (hi : -1074 ≤ i) (hf : f ≤ 15) :
    ∃ W1, double.mul x (double.nearest false (2 ^ f) 0) = some W1 ∧ (double.read W1).isNaN = false ∧ Finds (double.write ((double.read W1).integral .even)) (sg s (rv m (i + f))) :=
  ⟨_, product_num hr hf, fixed_num s m f i hm hi hf⟩
theorem fixed_all_inf {x f : Nat} {s : Bool} (hr : double.read x = .infinity s) (hf : f ≤ 15) :
    ∃ W1, double.mul x (double.nearest false (2 ^ f) 0) = some W1 ∧ (double.read W1).isNaN = false ∧ Finds (double.write ((double.read W1).integral .even)) (sg s 65536) := by
  have c3 : double.infRung = 9218868437227405312 := by decide
  refine ⟨_, product_inf hr hf, ?_⟩
  rw [read_inf]
  refine ⟨rfl, ?_⟩
  simp only [Datum.integral, Format.write, c3]
  exact finds_inf s (Nat.le_refl _)
end Go.Proofs.Ytcaleaecjoafhaa
