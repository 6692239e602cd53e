/-
  Contracts of root's calls on words and quotients (Mul64, Add64, told, Mul, Sum, Square, Div, Mean) and of the reference's, at all arguments: no memory is touched.
-/
import Derived.Test.YtnnmeilbcbicaaaProg
import Derived.Test.YtnnmeilbcbicaaaWords
import Derived.Laws.Externs
import Derived.Laws.Bits64b
import Derived.Lib.Mul64
namespace Go.Proofs.Ytnnmeilbcbicaaa
open Go.RowKit

theorem add64 (x y : Int) (hx : 0 ≤ x) (hy : 0 ≤ y) (w : World) : (callFunc 25 #[.int .u64 x, .int .u64 y, .int .u64 0]).run Try.prog w =
    .ok (.value (.tuple #[.int .u64 ((x + y) % 18446744073709551616), .int .u64 ((x + y) / 18446744073709551616)])) w := by
  rw [run_callFunc_extern Try.func25 (by kernel_rfl) (by kernel_rfl) (by kernel_rfl) (e := add64Entry) (by kernel_rfl), run_add64 x y 0 hx hy (by omega) (by omega)]
  simp only [Result.andThen, Int.add_zero]

theorem maskN (a : Nat) (ha : a < 18446744073709551616) : bits .and .u64 (a : Int) 4294967295 = ((a % 4294967296 : Nat) : Int) := by
  have h := bits_and_u64_nat a 4294967295 ha (by omega)
  have e : a &&& 4294967295 = a % 4294967296 := Nat.and_two_pow_sub_one_eq_mod a 32
  rw [e] at h
  exact h
theorem divN (a : Nat) : (a : Int) / 4294967296 = ((a / 4294967296 : Nat) : Int) := by omega
theorem mulN (a b : Nat) : (a : Int) * (b : Int) = ((a * b : Nat) : Int) := (Int.natCast_mul a b).symm
theorem addN (a b : Nat) : (a : Int) + (b : Int) = ((a + b : Nat) : Int) := (Int.natCast_add a b).symm
theorem wrapN (a : Nat) (ha : a < 18446744073709551616) : IntKind.u64.wrap (a : Int) = (a : Int) := by rw [IntKind.wrap_u64]; omega
theorem wrapM (a : Nat) : IntKind.u64.wrap (a : Int) = ((a % 18446744073709551616 : Nat) : Int) := by rw [IntKind.wrap_u64]; omega

set_option maxHeartbeats 1000000 in
theorem mul64_any (x y : Nat) (hx : x < 18446744073709551616) (hy : y < 18446744073709551616) (w : World) :
    Calls Try.prog 27 #[.int .u64 x, .int .u64 y] w fun e w' => e = .returned (.tuple #[.int .u64 ((x * y / 18446744073709551616 : Nat) : Int), .int .u64 ((x * y % 18446744073709551616 : Nat) : Int)]) ∧ w = w' := by
  obtain ⟨bd, bt, bw, hhi⟩ := Lib.mul64_hi x y hx hy
  have ba := Lib.half_mul_le (a := x / 4294967296) (b := y / 4294967296) (by omega) (by omega)
  have bb := Lib.half_mul_le (a := x / 4294967296) (b := y % 4294967296) (by omega) (by omega)
  have bc := Lib.half_mul_le (a := x % 4294967296) (b := y / 4294967296) (by omega) (by omega)
  have ba' : x / 4294967296 * (y / 4294967296) < 18446744073709551616 := by omega
  have bb' : x / 4294967296 * (y % 4294967296) < 18446744073709551616 := by omega
  have bc' : x % 4294967296 * (y / 4294967296) < 18446744073709551616 := by omega
  have bh1 : x / 4294967296 * (y / 4294967296) + (x / 4294967296 * (y % 4294967296) + x % 4294967296 * (y % 4294967296) / 4294967296) / 4294967296 < 18446744073709551616 := by omega
  have bh : x / 4294967296 * (y / 4294967296) + (x / 4294967296 * (y % 4294967296) + x % 4294967296 * (y % 4294967296) / 4294967296) / 4294967296 + ((x / 4294967296 * (y % 4294967296) + x % 4294967296 * (y % 4294967296) / 4294967296) % 4294967296 + x % 4294967296 * (y / 4294967296)) / 4294967296 < 18446744073709551616 := by omega
  go_enter Try.func27, Try.ntmps27
  go_wp2
  simp only [maskN x hx, maskN y hy, divN, mulN, addN, wrapN _ bd, wrapN _ bb', wrapN _ bt, maskN _ bt, wrapN _ bc', wrapN _ bw, wrapN _ ba', wrapN _ bh1, wrapN _ bh, wrapM (x * y)]
  rw [hhi]
  go_ret2
  exact ⟨rfl, rfl⟩

/-- What a word's answer is, of a number without a width. -/
def Told (z x er : Int) : Prop := (z < 18446744073709551616 ∧ x = z ∧ er = 0) ∨ (18446744073709551616 ≤ z ∧ x = 0 ∧ er = 11)
theorem told_ex (z : Int) : ∃ x er, Told z x er := by
  by_cases h : z < 18446744073709551616
  · exact ⟨z, 0, .inl ⟨h, rfl, rfl⟩⟩
  · exact ⟨0, 11, .inr ⟨by omega, rfl, rfl⟩⟩

theorem told_any (z x er : Int) (w : World) (h0 : 0 ≤ z) (h : Told z x er) :
    Calls Try.prog 26 #[.int .u64 (z % 18446744073709551616), .int .u64 (z / 18446744073709551616)] w fun e w' => e = .returned (.tuple #[.int .u64 x, .int .i64 er]) ∧ w = w' := by
  rcases h with ⟨h, rfl, rfl⟩ | ⟨h, rfl, rfl⟩
  · have e1 : x % 18446744073709551616 = x := by omega
    have e2 : x / 18446744073709551616 = 0 := by omega
    rw [e1, e2]
    go_enter Try.func26, Try.ntmps26
    go_wp2
    go_ret2
    exact ⟨rfl, rfl⟩
  · have e2 : (z / 18446744073709551616 == 0) = false := by simp; omega
    go_enter Try.func26, Try.ntmps26
    go_wp2
    go_ret2
    exact ⟨rfl, rfl⟩

theorem sum_at (a b x er : Int) (w : World) (ha : 0 ≤ a) (hb : 0 ≤ b) (h : Told (a + b) x er) :
    Calls Try.prog 11 #[.int .u64 a, .int .u64 b] w fun e w' => e = .returned (.tuple #[.int .u64 x, .int .i64 er]) ∧ w = w' := by
  have H := hid h
  clear h
  go_enter Try.func11, Try.ntmps11
  go_wp2_with (simp only [add64 a b ha hb])
  refine (told_any _ _ _ _ (by omega) H.out).mono ?_
  rintro e w1 ⟨rfl, rfl⟩
  go_wp2
  go_ret2
  exact ⟨rfl, rfl⟩

theorem mul_at (a b x er : Int) (w : World) (ha : 0 ≤ a) (ha' : a < 18446744073709551616) (hb : 0 ≤ b) (hb' : b < 18446744073709551616) (h : Told (a * b) x er) :
    Calls Try.prog 12 #[.int .u64 a, .int .u64 b] w fun e w' => e = .returned (.tuple #[.int .u64 x, .int .i64 er]) ∧ w = w' := by
  obtain ⟨A, rfl⟩ := Int.eq_ofNat_of_zero_le ha
  obtain ⟨B, rfl⟩ := Int.eq_ofNat_of_zero_le hb
  have H := hid h
  clear h
  go_enter Try.func12, Try.ntmps12
  go_wp2_with fail
  refine (mul64_any A B (by omega) (by omega) _).mono ?_
  rintro e w1 ⟨rfl, rfl⟩
  rw [Int.natCast_ediv, Int.natCast_emod, Int.natCast_mul]
  go_wp2_with fail
  refine (told_any _ _ _ _ (Int.mul_nonneg (Int.natCast_nonneg _) (Int.natCast_nonneg _)) H.out).mono ?_
  rintro e w1 ⟨rfl, rfl⟩
  go_wp2
  go_ret2
  exact ⟨rfl, rfl⟩

theorem square_at (a x er : Int) (w : World) (ha : 0 ≤ a) (ha' : a < 18446744073709551616) (h : Told (a * a) x er) :
    Calls Try.prog 10 #[.int .u64 a] w fun e w' => e = .returned (.tuple #[.int .u64 x, .int .i64 er]) ∧ w = w' := by
  have H := hid h
  clear h
  go_enter Try.func10, Try.ntmps10
  go_wp2_with fail
  refine (mul_at a a x er _ ha ha' ha ha' H.out).mono ?_
  rintro e w1 ⟨rfl, rfl⟩
  go_wp2
  go_ret2
  exact ⟨rfl, rfl⟩

theorem rsum_at (a b x er : Int) (w : World) (ha : 0 ≤ a) (ha' : a < 18446744073709551616) (hb : 0 ≤ b) (hb' : b < 18446744073709551616) (h : Told (a + b) x er) :
    Calls Try.prog 18 #[.int .u64 a, .int .u64 b] w fun e w' => e = .returned (.tuple #[.int .u64 x, .int .i64 er]) ∧ w = w' := by
  rcases h with ⟨h, rfl, rfl⟩ | ⟨h, rfl, rfl⟩
  · go_enter Try.func18, Try.ntmps18
    go_wp2
    go_ret2
    exact ⟨rfl, rfl⟩
  · have e1 : IntKind.u64.wrap (a + b) = a + b - 18446744073709551616 := by rw [IntKind.wrap_u64]; omega
    have e2 : IntKind.u64.wrap (a + b) < a := by omega
    go_enter Try.func18, Try.ntmps18
    go_wp2
    go_ret2
    exact ⟨rfl, rfl⟩

theorem quo_lt {a b : Int} (ha : 0 < a) : 18446744073709551615 / a < b ↔ 18446744073709551616 ≤ a * b := by
  rw [Int.ediv_lt_iff_lt_mul ha, Int.mul_comm b a]
  omega

theorem rmul_at (a b x er : Int) (w : World) (ha : 0 ≤ a) (ha' : a < 18446744073709551616) (hb : 0 ≤ b) (h : Told (a * b) x er) :
    Calls Try.prog 19 #[.int .u64 a, .int .u64 b] w fun e w' => e = .returned (.tuple #[.int .u64 x, .int .i64 er]) ∧ w = w' := by
  by_cases h0 : a = 0
  · subst h0
    obtain ⟨rfl, rfl⟩ : x = 0 ∧ er = 0 := by
      rcases h with ⟨h, h1, h2⟩ | ⟨h, h1, h2⟩ <;> simp at * <;> omega
    go_enter Try.func19, Try.ntmps19
    go_wp2
    go_ret2
    exact ⟨rfl, rfl⟩
  · have hpos : 0 < a := by omega
    have hne : (a == 0) = false := by simp; omega
    have hq := quo_lt hpos (b := b)
    rcases h with ⟨h, rfl, rfl⟩ | ⟨h, rfl, rfl⟩
    · have h1 : b ≤ 18446744073709551615 / a := by
        have : ¬ (18446744073709551615 / a < b) := fun hh => by have := hq.1 hh; omega
        omega
      have h2 : IntKind.u64.wrap (a * b) = a * b := by
        have := Int.mul_nonneg ha hb
        rw [IntKind.wrap_u64]
        omega
      have H2 := hid h2
      clear hq h h2
      go_enter Try.func19, Try.ntmps19
      go_wp2
      rw [H2.out]
      go_ret2
      exact ⟨rfl, rfl⟩
    · have h1 : 18446744073709551615 / a < b := hq.2 h
      clear hq h
      go_enter Try.func19, Try.ntmps19
      go_wp2
      go_ret2
      exact ⟨rfl, rfl⟩

theorem rsquare_at (a x er : Int) (w : World) (ha : 0 ≤ a) (ha' : a < 18446744073709551616) (h : Told (a * a) x er) :
    Calls Try.prog 17 #[.int .u64 a] w fun e w' => e = .returned (.tuple #[.int .u64 x, .int .i64 er]) ∧ w = w' := by
  have H := hid h
  clear h
  go_enter Try.func17, Try.ntmps17
  go_wp2_with fail
  refine (rmul_at a a x er _ ha ha' ha H.out).mono ?_
  rintro e w1 ⟨rfl, rfl⟩
  go_wp2
  go_ret2
  exact ⟨rfl, rfl⟩
end Go.Proofs.Ytnnmeilbcbicaaa
