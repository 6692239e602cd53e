/-
  Contracts of vec.Fixed and of the reference's Fixed, at all doubles and fracs.
-/
import Derived.Test.YtcaleaecjoafhaaProg
import Derived.Test.YtcaleaecjoafhaaCells
import Derived.Test.YtcaleaecjoafhaaFloat
import Derived.Laws.Externs
namespace Go.Proofs.Ytcaleaecjoafhaa
open Go.RowKit
open Ieee (double)

theorem frombits (n : Int) (w : World) : (callFunc 39 #[.int .u64 n]).run Try.prog w = .ok (.value (.float .f64 n.toNat)) w := by
  rw [run_callFunc_extern Try.func39 (by kernel_rfl) (by kernel_rfl) (by kernel_rfl) (e := Extern.MathFloatBits.float64frombits) (by kernel_rfl)]
  rfl
theorem rounded (x : Nat) (w : World) (h : (double.read x).isNaN = false) : (callFunc 40 #[.float .f64 x]).run Try.prog w = .ok (.value (.float .f64 (double.write ((double.read x).integral .even)))) w := by
  rw [run_callFunc_extern Try.func40 (by kernel_rfl) (by kernel_rfl) (by kernel_rfl) (e := Extern.MathFloor.toIntegral "math.RoundToEven" .even) (by kernel_rfl)]
  have key : ∀ d, FloatKind.f64.decode x = d → d.isNaN = false → Extern.MathFloor.toIntegral "math.RoundToEven" .even #[.float .f64 x] = pure (.float .f64 (double.write (d.integral .even))) := by
    intro d hd hn
    change (match FloatKind.f64.decode x with | .nan s t => _ | d => pure (Value.float .f64 (FloatKind.f64.encode (d.integral .even)))) = _
    rw [hd]
    cases d with
    | nan s f => cases hn
    | infinity s => rfl
    | number s m i => rfl
  rw [key _ rfl h]
  rfl

/-- What Fixed answers of a double and a frac. -/
def Fx (D : Nat) (f x er : Int) : Prop :=
  ((f < 0 ∨ 15 < f ∨ (double.read D).isNaN = true) ∧ x = 0 ∧ er = 2) ∨
  (0 ≤ f ∧ f ≤ 15 ∧ (∃ s, double.read D = .infinity s) ∧ x = 0 ∧ er = 11) ∨
  (0 ≤ f ∧ f ≤ 15 ∧ ∃ s m i, double.read D = .number s m i ∧ ((-32768 ≤ sg s (rv m (i + f)) ∧ sg s (rv m (i + f)) ≤ 32767 ∧ x = sg s (rv m (i + f)) ∧ er = 0) ∨ ((sg s (rv m (i + f)) < -32768 ∨ 32767 < sg s (rv m (i + f))) ∧ x = 0 ∧ er = 11)))
theorem fx_ex (D : Nat) (f : Int) : ∃ x er, Fx D f x er := by
  by_cases h : f < 0 ∨ 15 < f ∨ (double.read D).isNaN = true
  · exact ⟨0, 2, .inl ⟨h, rfl, rfl⟩⟩
  · have h1 : 0 ≤ f := by omega
    have h2 : f ≤ 15 := by omega
    have h3 : ¬ (double.read D).isNaN = true := fun hc => h (.inr (.inr hc))
    cases hd : double.read D with
    | nan s t => exact absurd (by rw [hd]; rfl) h3
    | infinity s => exact ⟨0, 11, .inr (.inl ⟨h1, h2, ⟨s, hd⟩, rfl, rfl⟩)⟩
    | number s m i =>
      by_cases hz : -32768 ≤ sg s (rv m (i + f)) ∧ sg s (rv m (i + f)) ≤ 32767
      · exact ⟨_, 0, .inr (.inr ⟨h1, h2, s, m, i, hd, .inl ⟨hz.1, hz.2, rfl, rfl⟩⟩)⟩
      · exact ⟨0, 11, .inr (.inr ⟨h1, h2, s, m, i, hd, .inr ⟨by omega, rfl, rfl⟩⟩)⟩
theorem read_parts (D : Nat) : (∀ s m i, double.read D = .number s m i → m < 9007199254740992 ∧ -1074 ≤ i) := by
  intro s m i h
  have c1 : double.signWeight = 9223372036854775808 := by decide
  have c2 : double.binade = 4503599627370496 := by decide
  have c3 : double.infRung = 9218868437227405312 := by decide
  have c4 : double.leastPlace = -1074 := by decide
  unfold Ieee.Format.read at h
  simp only [c1, c2, c3, c4] at h
  split at h
  · injection h with _ h1 h2; omega
  · split at h
    · injection h with _ h1 h2; omega
    · split at h <;> cases h

theorem write_inf (s : Bool) : double.write ((Ieee.Datum.infinity s).integral .even) = double.word s 9218868437227405312 := by
  have c3 : double.infRung = 9218868437227405312 := by decide
  simp only [Ieee.Datum.integral, Ieee.Format.write, c3]
theorem pow_bits (n : Nat) (hn : n ≤ 15) : floatOfInt FloatKind.f64 (IntKind.u64.wrap (2 ^ n)) = double.nearest false (2 ^ n) 0 := by
  have h1 : (2 ^ n : Nat) ≤ 2 ^ 15 := Nat.pow_le_pow_right (by decide) hn
  have h0 : 0 < (2 ^ n : Nat) := Nat.two_pow_pos n
  have e : ((2 : Int) ^ n) = ((2 ^ n : Nat) : Int) := by simp
  rw [e]
  generalize (2 ^ n : Nat) = p at *
  rw [show IntKind.u64.wrap (p : Int) = (p : Int) by rw [IntKind.wrap_u64]; omega]
  show double.nearest (decide ((p : Int) < 0)) (p : Int).natAbs 0 = _
  rw [show decide ((p : Int) < 0) = false from decide_eq_false (by omega), Int.natAbs_natCast]
theorem mul_pow (D n : Nat) (hn : n ≤ 15) {r : Nat} (h : double.mul D (double.nearest false (2 ^ n) 0) = some r) (t : TypeId) (W : World) :
    (binOp .mul t (.float .f64 D) (.float .f64 (floatOfInt FloatKind.f64 (IntKind.u64.wrap (2 ^ n))))).run Try.prog W = .ok (.float .f64 r) W :=
  run_float_arith W .mul t .f64 D _ r (by rw [pow_bits n hn]; exact h)

def FixedGives (D : Nat) (f x er : Int) (w : World) : Prop :=
  Calls Try.prog 10 #[.int .u64 D, .int .i64 f] w fun e w' => e = .returned (.tuple #[.int .i16 x, .int .i64 er]) ∧ w = w'
theorem fixed_below (D : Nat) (f : Int) (w : World) (c1 : f < 0) : FixedGives D f 0 2 w := by
  have q1 : ∀ W, (callFunc 39 #[.int .u64 (D : Int)]).run Try.prog W = .ok (.value (.float .f64 D)) W := fun W => frombits D W
  unfold FixedGives
  go_enter Try.func10, Try.ntmps10
  go_wp2
  go_ret2
  exact ⟨rfl, rfl⟩
theorem fixed_above (D : Nat) (f : Int) (w : World) (c1 : 15 < f) : FixedGives D f 0 2 w := by
  have q1 : ∀ W, (callFunc 39 #[.int .u64 (D : Int)]).run Try.prog W = .ok (.value (.float .f64 D)) W := fun W => frombits D W
  unfold FixedGives
  go_enter Try.func10, Try.ntmps10
  go_wp2
  go_ret2
  exact ⟨rfl, rfl⟩
theorem fixed_nan (D n : Nat) (w : World) (hn : n ≤ 15) (q2 : (FloatKind.f64.format.order D D != some .eq) = true) : FixedGives D n 0 2 w := by
  have q1 : ∀ W, (callFunc 39 #[.int .u64 (D : Int)]).run Try.prog W = .ok (.value (.float .f64 D)) W := fun W => frombits D W
  unfold FixedGives
  go_enter Try.func10, Try.ntmps10
  go_wp2
  go_ret2
  exact ⟨rfl, rfl⟩
theorem fixed_lo (D n W1 W2 : Nat) (w : World) (hn : n ≤ 15) (q2 : (FloatKind.f64.format.order D D != some .eq) = false) (q3 : ∀ t W, (binOp .mul t (.float .f64 D) (.float .f64 (floatOfInt FloatKind.f64 (IntKind.u64.wrap (2 ^ n))))).run Try.prog W = .ok (.float .f64 W1) W) (q4 : ∀ W, (callFunc 40 #[.float .f64 W1]).run Try.prog W = .ok (.value (.float .f64 W2)) W) (q5 : (FloatKind.f64.format.order W2 13898108450065350656 == some .lt) = true) : FixedGives D n 0 11 w := by
  have q1 : ∀ W, (callFunc 39 #[.int .u64 (D : Int)]).run Try.prog W = .ok (.value (.float .f64 D)) W := fun W => frombits D W
  unfold FixedGives
  go_enter Try.func10, Try.ntmps10
  go_wp2
  go_ret2
  exact ⟨rfl, rfl⟩
theorem fixed_hi (D n W1 W2 : Nat) (w : World) (hn : n ≤ 15) (q2 : (FloatKind.f64.format.order D D != some .eq) = false) (q3 : ∀ t W, (binOp .mul t (.float .f64 D) (.float .f64 (floatOfInt FloatKind.f64 (IntKind.u64.wrap (2 ^ n))))).run Try.prog W = .ok (.float .f64 W1) W) (q4 : ∀ W, (callFunc 40 #[.float .f64 W1]).run Try.prog W = .ok (.value (.float .f64 W2)) W) (q5 : (FloatKind.f64.format.order W2 13898108450065350656 == some .lt) = false) (q6 : (FloatKind.f64.format.order W2 4674736138332667904 == some .gt) = true) : FixedGives D n 0 11 w := by
  have q1 : ∀ W, (callFunc 39 #[.int .u64 (D : Int)]).run Try.prog W = .ok (.value (.float .f64 D)) W := fun W => frombits D W
  unfold FixedGives
  go_enter Try.func10, Try.ntmps10
  go_wp2
  go_ret2
  exact ⟨rfl, rfl⟩
theorem fixed_in (D n W1 W2 : Nat) (w : World) (hn : n ≤ 15) (q2 : (FloatKind.f64.format.order D D != some .eq) = false) (q3 : ∀ t W, (binOp .mul t (.float .f64 D) (.float .f64 (floatOfInt FloatKind.f64 (IntKind.u64.wrap (2 ^ n))))).run Try.prog W = .ok (.float .f64 W1) W) (q4 : ∀ W, (callFunc 40 #[.float .f64 W1]).run Try.prog W = .ok (.value (.float .f64 W2)) W) (x : Int) (q5 : (FloatKind.f64.format.order W2 13898108450065350656 == some .lt) = false) (q6 : (FloatKind.f64.format.order W2 4674736138332667904 == some .gt) = false)
    (q7 : ∀ W, (convert 55 22 (.float .f64 W2)).run Try.prog W = .ok (.int .i16 x) W) : FixedGives D n x 0 w := by
  have q1 : ∀ W, (callFunc 39 #[.int .u64 (D : Int)]).run Try.prog W = .ok (.value (.float .f64 D)) W := fun W => frombits D W
  unfold FixedGives
  go_enter Try.func10, Try.ntmps10
  go_wp2
  go_ret2
  exact ⟨rfl, rfl⟩
theorem fmt64 : FloatKind.f64.format = double := rfl
theorem fixed_inf (D n : Nat) (s : Bool) (w : World) (hn : n ≤ 15) (hs : double.read D = .infinity s) : FixedGives D n 0 11 w := by
  have q2 : (FloatKind.f64.format.order D D != some .eq) = false := by
    rw [fmt64, order_self D (by rw [hs]; rfl)]; rfl
  obtain ⟨W1, g0, g1, f1, f2, _⟩ := fixed_all_inf hs hn
  have q3 := mul_pow D n hn g0
  have q4 := fun W => rounded W1 W g1
  generalize double.write ((double.read W1).integral .even) = W2 at *
  rw [← fmt64] at f1 f2
  cases s
  · exact fixed_hi D n W1 W2 w hn q2 q3 q4 (f1.trans (decide_eq_false (by simp [sg]))) (f2.trans (decide_eq_true (by simp [sg])))
  · exact fixed_lo D n W1 W2 w hn q2 q3 q4 (f1.trans (decide_eq_true (by simp [sg])))
theorem conv_at (W2 : Nat) (x : Int) (z1 : -32768 ≤ x) (z2 : x ≤ 32767) (f4 : (double.read W2).toInt .zero = some x) (W : World) : (convert 55 22 (.float .f64 W2)).run Try.prog W = .ok (.int .i16 x) W := by
  refine run_convert_float_int W 55 22 .f64 .i16 W2 x (by rw [Try.underlying55]; rfl) Try.underlying22 ?_
  unfold floatToIntVal FloatKind.decode
  rw [fmt64, f4]
  simp [IntKind.min, IntKind.max, IntKind.signed, IntKind.bits, z1, z2]
theorem fixed_fin (D n m : Nat) (s : Bool) (i x er : Int) (w : World) (hn : n ≤ 15) (hd : double.read D = .number s m i)
    (h : (-32768 ≤ sg s (rv m (i + n)) ∧ sg s (rv m (i + n)) ≤ 32767 ∧ x = sg s (rv m (i + n)) ∧ er = 0) ∨ ((sg s (rv m (i + n)) < -32768 ∨ 32767 < sg s (rv m (i + n))) ∧ x = 0 ∧ er = 11)) : FixedGives D n x er w := by
  have q2 : (FloatKind.f64.format.order D D != some .eq) = false := by
    rw [fmt64, order_self D (by rw [hd]; rfl)]; rfl
  obtain ⟨hm, hi⟩ := read_parts D s m i hd
  obtain ⟨W1, g0, g1, f1, f2, f3⟩ := fixed_all hd hm hi hn
  have q3 := mul_pow D n hn g0
  have q4 := fun W => rounded W1 W g1
  generalize double.write ((double.read W1).integral .even) = W2 at *
  rw [← fmt64] at f1 f2
  generalize sg s (rv m (i + n)) = z at *
  rcases h with ⟨z1, z2, rfl, rfl⟩ | ⟨hz, rfl, rfl⟩
  · exact fixed_in D n W1 W2 w hn q2 q3 q4 x (f1.trans (decide_eq_false (by omega))) (f2.trans (decide_eq_false (by omega))) (conv_at W2 x z1 z2 (f3 z1 z2))
  · by_cases hz1 : z < -32768
    · exact fixed_lo D n W1 W2 w hn q2 q3 q4 (f1.trans (decide_eq_true hz1))
    · exact fixed_hi D n W1 W2 w hn q2 q3 q4 (f1.trans (decide_eq_false hz1)) (f2.trans (decide_eq_true (by omega)))
theorem fixed_at (D : Nat) (f x er : Int) (w : World) (h : Fx D f x er) : FixedGives D f x er w := by
  by_cases c1 : f < 0
  · obtain ⟨rfl, rfl⟩ : x = 0 ∧ er = 2 := by
      rcases h with h | h | h
      · exact h.2
      · omega
      · omega
    exact fixed_below D f w c1
  by_cases c2 : 15 < f
  · obtain ⟨rfl, rfl⟩ : x = 0 ∧ er = 2 := by
      rcases h with h | h | h
      · exact h.2
      · omega
      · omega
    exact fixed_above D f w c2
  obtain ⟨n, rfl⟩ : ∃ n : Nat, f = n := ⟨f.toNat, by omega⟩
  have hn : n ≤ 15 := by omega
  rcases h with ⟨h, rfl, rfl⟩ | ⟨_, _, ⟨s, hs⟩, rfl, rfl⟩ | ⟨_, _, s, m, i, hd, h⟩
  · have hnan : (double.read D).isNaN = true := by
      rcases h with h | h | h
      · exact absurd h c1
      · exact absurd h c2
      · exact h
    refine fixed_nan D n w hn ?_
    rw [fmt64]
    unfold Ieee.Format.order
    generalize double.read D = d at *
    cases d <;> first | (cases hnan; done) | rfl
  · exact fixed_inf D n s w hn hs
  · exact fixed_fin D n m s i x er w hn hd h
end Go.Proofs.Ytcaleaecjoafhaa
