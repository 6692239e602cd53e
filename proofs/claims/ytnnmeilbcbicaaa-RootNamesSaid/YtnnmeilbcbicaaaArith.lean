/-
  Contracts of root's calls on words and quotients (Mul64, Add64, told, Mul, Sum, Square, Div, Mean) and of the reference's, at all arguments: no memory is touched.
-/
import Derived.Test.YtnnmeilbcbicaaaProg
import Derived.Test.YtnnmeilbcbicaaaWords
import Derived.Laws.Externs
import Derived.Shelf.Bits.Mul64
namespace Go.Proofs.Ytnnmeilbcbicaaa
open Go.RowKit Go.Shelf

theorem add64 (x y : Int) (hx : 0 ≤ x) (hy : 0 ≤ y) (w : World) : (callFunc 25 #[.int .u64 x, .int .u64 y, .int .u64 0]).run Try.prog w =
    .ok (.value (.tuple #[.int .u64 ((x + y) % 18446744073709551616), .int .u64 ((x + y) / 18446744073709551616)])) w := by
  rw [run_callFunc_extern Try.func25 (by kernel_rfl) (by kernel_rfl) (by kernel_rfl) (e := add64Entry) (by kernel_rfl), run_add64 x y 0 hx hy (by omega) (by omega)]
  simp only [Result.andThen, Int.add_zero]

/-- The shelf's numbers for Mul64 and its two types, at this dump. -/
def shelfAt : Shelf.Ren := ⟨fun n => if n = 264 then 27 else n, fun n => if n = 53 then 22 else if n = 46 then 43 else n, fun n => n⟩
theorem shelfLays : Lays.n264 Try.prog shelfAt where
  mixed := by kernel_rfl
  f264 := by kernel_rfl
  t46 := by kernel_rfl
  a46 := fun w => by rfl
  z46 := fun w => by rfl
  v46 := fun w => by rfl
  t53 := by kernel_rfl
  a53 := fun w => by rfl
  z53 := fun w => by rfl
  v53 := fun w => by rfl

theorem mul64_any (x y : Nat) (hx : x < 18446744073709551616) (hy : y < 18446744073709551616) (w : World) :
    Calls Try.prog 27 #[.int .u64 x, .int .u64 y] w fun e w' => e = .returned (.tuple #[.int .u64 ((x * y / 18446744073709551616 : Nat) : Int), .int .u64 ((x * y % 18446744073709551616 : Nat) : Int)]) ∧ w = w' :=
  (Any.bits_Mul64 shelfLays x y hx hy w).mono fun _ _ ⟨h, e⟩ => ⟨h, e.symm⟩

/-- What a word's answer is, of a number without a width. -/
def Told (z x er : Int) : Prop := (z < 18446744073709551616 ∧ x = z ∧ er = 0) ∨ (18446744073709551616 ≤ z ∧ x = 0 ∧ er = 11)
theorem told_ex (z : Int) : ∃ x er, Told z x er := by
  by_cases h : z < 18446744073709551616
  · exact ⟨z, 0, .inl ⟨h, rfl, rfl⟩⟩
  · exact ⟨0, 11, .inr ⟨by omega, rfl, rfl⟩⟩

theorem told_any (z x er : Int) (w : World) (h0 : 0 ≤ z) (h : Told z x er) :
    Calls Try.prog 26 #[.int .u64 (z % 18446744073709551616), .int .u64 (z / 18446744073709551616)] w fun e w' => e = .returned (.tuple #[.int .u64 x, .int .i64 er]) ∧ w = w' := by
  rcases h with ⟨h, rfl, rfl⟩ | ⟨h, rfl, rfl⟩
  · have e1 : x % 18446744073709551616 = x := by omega
    have e2 : x / 18446744073709551616 = 0 := by omega
    rw [e1, e2]
    go_enter Try.func26, Try.ntmps26
    go_wp2
    go_ret2
    exact ⟨rfl, rfl⟩
  · have e2 : (z / 18446744073709551616 == 0) = false := by simp; omega
    go_enter Try.func26, Try.ntmps26
    go_wp2
    go_ret2
    exact ⟨rfl, rfl⟩

theorem sum_at (a b x er : Int) (w : World) (ha : 0 ≤ a) (hb : 0 ≤ b) (h : Told (a + b) x er) :
    Calls Try.prog 11 #[.int .u64 a, .int .u64 b] w fun e w' => e = .returned (.tuple #[.int .u64 x, .int .i64 er]) ∧ w = w' := by
  have H := hid h
  clear h
  go_enter Try.func11, Try.ntmps11
  go_wp2_with (simp only [add64 a b ha hb])
  refine (told_any _ _ _ _ (by omega) H.out).mono ?_
  rintro e w1 ⟨rfl, rfl⟩
  go_wp2
  go_ret2
  exact ⟨rfl, rfl⟩

theorem mul_at (a b x er : Int) (w : World) (ha : 0 ≤ a) (ha' : a < 18446744073709551616) (hb : 0 ≤ b) (hb' : b < 18446744073709551616) (h : Told (a * b) x er) :
    Calls Try.prog 12 #[.int .u64 a, .int .u64 b] w fun e w' => e = .returned (.tuple #[.int .u64 x, .int .i64 er]) ∧ w = w' := by
  obtain ⟨A, rfl⟩ := Int.eq_ofNat_of_zero_le ha
  obtain ⟨B, rfl⟩ := Int.eq_ofNat_of_zero_le hb
  have H := hid h
  clear h
  go_enter Try.func12, Try.ntmps12
  go_wp2_with fail
  refine (mul64_any A B (by omega) (by omega) _).mono ?_
  rintro e w1 ⟨rfl, rfl⟩
  rw [Int.natCast_ediv, Int.natCast_emod, Int.natCast_mul]
  go_wp2_with fail
  refine (told_any _ _ _ _ (Int.mul_nonneg (Int.natCast_nonneg _) (Int.natCast_nonneg _)) H.out).mono ?_
  rintro e w1 ⟨rfl, rfl⟩
  go_wp2
  go_ret2
  exact ⟨rfl, rfl⟩

theorem square_at (a x er : Int) (w : World) (ha : 0 ≤ a) (ha' : a < 18446744073709551616) (h : Told (a * a) x er) :
    Calls Try.prog 10 #[.int .u64 a] w fun e w' => e = .returned (.tuple #[.int .u64 x, .int .i64 er]) ∧ w = w' := by
  have H := hid h
  clear h
  go_enter Try.func10, Try.ntmps10
  go_wp2_with fail
  refine (mul_at a a x er _ ha ha' ha ha' H.out).mono ?_
  rintro e w1 ⟨rfl, rfl⟩
  go_wp2
  go_ret2
  exact ⟨rfl, rfl⟩

theorem rsum_at (a b x er : Int) (w : World) (ha : 0 ≤ a) (ha' : a < 18446744073709551616) (hb : 0 ≤ b) (hb' : b < 18446744073709551616) (h : Told (a + b) x er) :
    Calls Try.prog 18 #[.int .u64 a, .int .u64 b] w fun e w' => e = .returned (.tuple #[.int .u64 x, .int .i64 er]) ∧ w = w' := by
  rcases h with ⟨h, rfl, rfl⟩ | ⟨h, rfl, rfl⟩
  · go_enter Try.func18, Try.ntmps18
    go_wp2
    go_ret2
    exact ⟨rfl, rfl⟩
  · have e1 : IntKind.u64.wrap (a + b) = a + b - 18446744073709551616 := by rw [IntKind.wrap_u64]; omega
    have e2 : IntKind.u64.wrap (a + b) < a := by omega
    go_enter Try.func18, Try.ntmps18
    go_wp2
    go_ret2
    exact ⟨rfl, rfl⟩

theorem quo_lt {a b : Int} (ha : 0 < a) : 18446744073709551615 / a < b ↔ 18446744073709551616 ≤ a * b := by
  rw [Int.ediv_lt_iff_lt_mul ha, Int.mul_comm b a]
  omega

theorem rmul_at (a b x er : Int) (w : World) (ha : 0 ≤ a) (ha' : a < 18446744073709551616) (hb : 0 ≤ b) (h : Told (a * b) x er) :
    Calls Try.prog 19 #[.int .u64 a, .int .u64 b] w fun e w' => e = .returned (.tuple #[.int .u64 x, .int .i64 er]) ∧ w = w' := by
  by_cases h0 : a = 0
  · subst h0
    obtain ⟨rfl, rfl⟩ : x = 0 ∧ er = 0 := by
      rcases h with ⟨h, h1, h2⟩ | ⟨h, h1, h2⟩ <;> simp at * <;> omega
    go_enter Try.func19, Try.ntmps19
    go_wp2
    go_ret2
    exact ⟨rfl, rfl⟩
  · have hpos : 0 < a := by omega
    have hne : (a == 0) = false := by simp; omega
    have hq := quo_lt hpos (b := b)
    rcases h with ⟨h, rfl, rfl⟩ | ⟨h, rfl, rfl⟩
    · have h1 : b ≤ 18446744073709551615 / a := by
        have : ¬ (18446744073709551615 / a < b) := fun hh => by have := hq.1 hh; omega
        omega
      have h2 : IntKind.u64.wrap (a * b) = a * b := by
        have := Int.mul_nonneg ha hb
        rw [IntKind.wrap_u64]
        omega
      have H2 := hid h2
      clear hq h h2
      go_enter Try.func19, Try.ntmps19
      go_wp2
      rw [H2.out]
      go_ret2
      exact ⟨rfl, rfl⟩
    · have h1 : 18446744073709551615 / a < b := hq.2 h
      clear hq h
      go_enter Try.func19, Try.ntmps19
      go_wp2
      go_ret2
      exact ⟨rfl, rfl⟩

theorem rsquare_at (a x er : Int) (w : World) (ha : 0 ≤ a) (ha' : a < 18446744073709551616) (h : Told (a * a) x er) :
    Calls Try.prog 17 #[.int .u64 a] w fun e w' => e = .returned (.tuple #[.int .u64 x, .int .i64 er]) ∧ w = w' := by
  have H := hid h
  clear h
  go_enter Try.func17, Try.ntmps17
  go_wp2_with fail
  refine (rmul_at a a x er _ ha ha' ha H.out).mono ?_
  rintro e w1 ⟨rfl, rfl⟩
  go_wp2
  go_ret2
  exact ⟨rfl, rfl⟩
end Go.Proofs.Ytnnmeilbcbicaaa
