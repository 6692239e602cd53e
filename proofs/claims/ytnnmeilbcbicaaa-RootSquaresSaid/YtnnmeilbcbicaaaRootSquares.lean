/-
  The walks of RootSquares and RootMuls: each answers true at all inputs, and touches no memory.
-/
import Derived.Test.YtnnmeilbcbicaaaLives2
namespace Go.Proofs.Ytnnmeilbcbicaaa
open Go.RowKit

/-- The roots of two numbers, in order. -/
theorem roots_two {p q : Int} (h0 : 0 ≤ p) (h : p ≤ q) : ∃ rp cp rq cq, Hid (Rt p rp) ∧ Hid (Cl p rp cp) ∧ Hid (Rt q rq) ∧ Hid (Cl q rq cq) ∧ rp ≤ rq ∧ cp ≤ cq ∧ rp ≤ cp := by
  obtain ⟨rp, H1⟩ := rt_ex h0
  obtain ⟨cp, H2⟩ := cl_ex H1
  obtain ⟨rq, H3⟩ := rt_ex (show 0 ≤ q by omega)
  obtain ⟨cq, H4⟩ := cl_ex H3
  have k1 : rp ≤ rq := by
    by_cases hh : rp ≤ rq
    · exact hh
    · have := rt_above H3 (show rq < rp by omega)
      have := H1.2.1
      omega
  refine ⟨rp, cp, rq, cq, H1, H2, H3, H4, k1, ?_, ?_⟩
  · rcases H2 with ⟨e, rfl⟩ | ⟨e, rfl⟩
    · rcases H4 with ⟨f, rfl⟩ | ⟨f, rfl⟩ <;> omega
    · rcases H4 with ⟨f, rfl⟩ | ⟨f, rfl⟩
      · by_cases hh : rp = cq
        · subst hh; omega
        · omega
      · omega
  · rcases H2 with ⟨e, rfl⟩ | ⟨e, rfl⟩ <;> omega

set_option maxHeartbeats 3200000 in
theorem rootSquares_walk (r a b : Int) (w : World) (hr : 0 ≤ r) (hr' : r < 4294967296) (ha : 0 ≤ a) (ha' : a < 18446744073709551616) (hb : 0 ≤ b) (hb' : b < 18446744073709551616) :
    Calls Try.prog 8 #[.int .u32 r, .int .u64 a, .int .u64 b] w fun e w' => e = .returned (.bool true) ∧ Below w.heap.size w w' := by
  have HA := hid ha
  have HA' := hid ha'
  have HB := hid hb
  have HB' := hid hb'
  have hx := sq_lt hr hr'
  have hx0 : 0 ≤ r * r := Int.mul_nonneg hr hr
  have HS := sq_lt hr (show r < r + 1 by omega)
  have HRt : Hid (Rt (r * r) r) := ⟨hr, Int.le_refl _, HS⟩
  clear ha ha' hb hb' HS
  go_enter Try.func8, Try.ntmps8
  go_wp2_with fail
  refine (lives_any w).mono ?_
  rintro e w1 ⟨rfl, rfl⟩
  go_wp2_with fail
  refine (square_at r (r * r) 0 _ hr (by omega) (.inl ⟨by omega, rfl, rfl⟩)).mono ?_
  rintro e w1 ⟨rfl, rfl⟩
  go_wp2_with fail
  refine (floor_at _ r _ (by omega) HRt.out).mono ?_
  rintro e w1 ⟨rfl, rfl⟩
  go_wp2_with fail
  refine (ceil_at _ r r _ (by omega) HRt.out (.inl ⟨rfl, rfl⟩)).mono ?_
  rintro e w1 ⟨rfl, rfl⟩
  by_cases h0 : r = 0
  · subst h0
    by_cases hab : b < a
    · obtain ⟨rp, cp, rq, cq, HRP, HCP, HRQ, HCQ, k1, k2, k3⟩ := roots_two HB.out (Int.le_of_lt hab)
      go_wp2_with fail
      refine (floor_at b rp _ HB' HRP).mono ?_
      rintro e w1 ⟨rfl, rfl⟩
      go_wp2_with fail
      refine (floor_at a rq _ HA' HRQ).mono ?_
      rintro e w1 ⟨rfl, rfl⟩
      go_wp2_with fail
      refine (ceil_at b rp cp _ HB' HRP HCP).mono ?_
      rintro e w1 ⟨rfl, rfl⟩
      go_wp2_with fail
      refine (ceil_at a rq cq _ HA' HRQ HCQ).mono ?_
      rintro e w1 ⟨rfl, rfl⟩
      go_wp2_with fail
      refine (floor_at b rp _ HB' HRP).mono ?_
      rintro e w1 ⟨rfl, rfl⟩
      go_wp2_with fail
      refine (ceil_at b rp cp _ HB' HRP HCP).mono ?_
      rintro e w1 ⟨rfl, rfl⟩
      go_wp2
      go_ret
      exact ⟨rfl, Below.refl _ _⟩
    · have hab' : a ≤ b := by omega
      obtain ⟨rp, cp, rq, cq, HRP, HCP, HRQ, HCQ, k1, k2, k3⟩ := roots_two HA.out hab'
      go_wp2_with fail
      refine (floor_at a rp _ HA' HRP).mono ?_
      rintro e w1 ⟨rfl, rfl⟩
      go_wp2_with fail
      refine (floor_at b rq _ HB' HRQ).mono ?_
      rintro e w1 ⟨rfl, rfl⟩
      go_wp2_with fail
      refine (ceil_at a rp cp _ HA' HRP HCP).mono ?_
      rintro e w1 ⟨rfl, rfl⟩
      go_wp2_with fail
      refine (ceil_at b rq cq _ HB' HRQ HCQ).mono ?_
      rintro e w1 ⟨rfl, rfl⟩
      go_wp2_with fail
      refine (floor_at a rp _ HA' HRP).mono ?_
      rintro e w1 ⟨rfl, rfl⟩
      go_wp2_with fail
      refine (ceil_at a rp cp _ HA' HRP HCP).mono ?_
      rintro e w1 ⟨rfl, rfl⟩
      go_wp2
      go_ret
      exact ⟨rfl, Below.refl _ _⟩
  · by_cases h1 : r = 1
    · subst h1
      go_wp2_with fail
      refine (floor_at _ 0 _ (by omega) ⟨by omega, by decide, by decide⟩).mono ?_
      rintro e w1 ⟨rfl, rfl⟩
      go_wp2_with fail
      refine (ceil_at _ 0 0 _ (by omega) ⟨by omega, by decide, by decide⟩ (.inl ⟨by decide, rfl⟩)).mono ?_
      rintro e w1 ⟨rfl, rfl⟩
      by_cases hab : b < a
      · obtain ⟨rp, cp, rq, cq, HRP, HCP, HRQ, HCQ, k1, k2, k3⟩ := roots_two HB.out (Int.le_of_lt hab)
        go_wp2_with fail
        refine (floor_at b rp _ HB' HRP).mono ?_
        rintro e w1 ⟨rfl, rfl⟩
        go_wp2_with fail
        refine (floor_at a rq _ HA' HRQ).mono ?_
        rintro e w1 ⟨rfl, rfl⟩
        go_wp2_with fail
        refine (ceil_at b rp cp _ HB' HRP HCP).mono ?_
        rintro e w1 ⟨rfl, rfl⟩
        go_wp2_with fail
        refine (ceil_at a rq cq _ HA' HRQ HCQ).mono ?_
        rintro e w1 ⟨rfl, rfl⟩
        go_wp2_with fail
        refine (floor_at b rp _ HB' HRP).mono ?_
        rintro e w1 ⟨rfl, rfl⟩
        go_wp2_with fail
        refine (ceil_at b rp cp _ HB' HRP HCP).mono ?_
        rintro e w1 ⟨rfl, rfl⟩
        go_wp2
        go_ret
        exact ⟨rfl, Below.refl _ _⟩
      · have hab' : a ≤ b := by omega
        obtain ⟨rp, cp, rq, cq, HRP, HCP, HRQ, HCQ, k1, k2, k3⟩ := roots_two HA.out hab'
        go_wp2_with fail
        refine (floor_at a rp _ HA' HRP).mono ?_
        rintro e w1 ⟨rfl, rfl⟩
        go_wp2_with fail
        refine (floor_at b rq _ HB' HRQ).mono ?_
        rintro e w1 ⟨rfl, rfl⟩
        go_wp2_with fail
        refine (ceil_at a rp cp _ HA' HRP HCP).mono ?_
        rintro e w1 ⟨rfl, rfl⟩
        go_wp2_with fail
        refine (ceil_at b rq cq _ HB' HRQ HCQ).mono ?_
        rintro e w1 ⟨rfl, rfl⟩
        go_wp2_with fail
        refine (floor_at a rp _ HA' HRP).mono ?_
        rintro e w1 ⟨rfl, rfl⟩
        go_wp2_with fail
        refine (ceil_at a rp cp _ HA' HRP HCP).mono ?_
        rintro e w1 ⟨rfl, rfl⟩
        go_wp2
        go_ret
        exact ⟨rfl, Below.refl _ _⟩
    · have h2 : 2 ≤ r := by omega
      have hl := sq_le (a := 2) (b := r) (by omega) h2
      have hm : (r - 1) * (r - 1) = r * r - 2 * r + 1 := by rw [Int.sub_mul, Int.mul_sub]; omega
      have HR1 : Hid (Rt (r * r - 1) (r - 1)) := ⟨by omega, by omega, by rw [show r - 1 + 1 = r by omega]; omega⟩
      have HC1 : Hid (Cl (r * r - 1) (r - 1) r) := .inr ⟨by omega, by omega⟩
      clear hm h0 h1
      go_wp2_with fail
      refine (floor_at _ (r - 1) _ (by omega) HR1.out).mono ?_
      rintro e w1 ⟨rfl, rfl⟩
      go_wp2_with fail
      refine (ceil_at _ (r - 1) r _ (by omega) HR1.out HC1.out).mono ?_
      rintro e w1 ⟨rfl, rfl⟩
      by_cases hab : b < a
      · obtain ⟨rp, cp, rq, cq, HRP, HCP, HRQ, HCQ, k1, k2, k3⟩ := roots_two HB.out (Int.le_of_lt hab)
        go_wp2_with fail
        refine (floor_at b rp _ HB' HRP).mono ?_
        rintro e w1 ⟨rfl, rfl⟩
        go_wp2_with fail
        refine (floor_at a rq _ HA' HRQ).mono ?_
        rintro e w1 ⟨rfl, rfl⟩
        go_wp2_with fail
        refine (ceil_at b rp cp _ HB' HRP HCP).mono ?_
        rintro e w1 ⟨rfl, rfl⟩
        go_wp2_with fail
        refine (ceil_at a rq cq _ HA' HRQ HCQ).mono ?_
        rintro e w1 ⟨rfl, rfl⟩
        go_wp2_with fail
        refine (floor_at b rp _ HB' HRP).mono ?_
        rintro e w1 ⟨rfl, rfl⟩
        go_wp2_with fail
        refine (ceil_at b rp cp _ HB' HRP HCP).mono ?_
        rintro e w1 ⟨rfl, rfl⟩
        go_wp2
        go_ret
        exact ⟨rfl, Below.refl _ _⟩
      · have hab' : a ≤ b := by omega
        obtain ⟨rp, cp, rq, cq, HRP, HCP, HRQ, HCQ, k1, k2, k3⟩ := roots_two HA.out hab'
        go_wp2_with fail
        refine (floor_at a rp _ HA' HRP).mono ?_
        rintro e w1 ⟨rfl, rfl⟩
        go_wp2_with fail
        refine (floor_at b rq _ HB' HRQ).mono ?_
        rintro e w1 ⟨rfl, rfl⟩
        go_wp2_with fail
        refine (ceil_at a rp cp _ HA' HRP HCP).mono ?_
        rintro e w1 ⟨rfl, rfl⟩
        go_wp2_with fail
        refine (ceil_at b rq cq _ HB' HRQ HCQ).mono ?_
        rintro e w1 ⟨rfl, rfl⟩
        go_wp2_with fail
        refine (floor_at a rp _ HA' HRP).mono ?_
        rintro e w1 ⟨rfl, rfl⟩
        go_wp2_with fail
        refine (ceil_at a rp cp _ HA' HRP HCP).mono ?_
        rintro e w1 ⟨rfl, rfl⟩
        go_wp2
        go_ret
        exact ⟨rfl, Below.refl _ _⟩

set_option maxHeartbeats 3200000 in
theorem rootMuls_walk (a b : Int) (w : World) (ha : 0 ≤ a) (ha' : a < 18446744073709551616) (hb : 0 ≤ b) (hb' : b < 18446744073709551616) :
    Calls Try.prog 9 #[.int .u64 a, .int .u64 b] w fun e w' => e = .returned (.bool true) ∧ Below w.heap.size w w' := by
  obtain ⟨x, e1, H1⟩ := told_ex (a * b)
  obtain ⟨s, e2, H2⟩ := told_ex (a + b)
  have HX := hid H1
  have HX' : Hid (Told (b * a) x e1) := by rw [Int.mul_comm]; exact H1
  have HS := hid H2
  clear H1 H2
  go_enter Try.func9, Try.ntmps9
  go_wp2_with fail
  refine (lives_any w).mono ?_
  rintro e w1 ⟨rfl, rfl⟩
  go_wp2_with fail
  refine (mul_at a b x e1 _ ha ha' hb hb' HX.out).mono ?_
  rintro e w1 ⟨rfl, rfl⟩
  go_wp2_with fail
  refine (mul_at b a x e1 _ hb hb' ha ha' HX'.out).mono ?_
  rintro e w1 ⟨rfl, rfl⟩
  go_wp2_with fail
  refine (sum_at a b s e2 _ ha hb HS.out).mono ?_
  rintro e w1 ⟨rfl, rfl⟩
  clear HX'
  have HH : Hid (b = 0 ∧ x = 0 ∧ e1 = 0 ∨ b ≠ 0 ∧ e1 = 0 ∧ (IntKind.u64.wrap (x.tdiv b) == a) = true ∧ (x % b == 0) = true ∨ b ≠ 0 ∧ e1 = 11 ∧ 18446744073709551615 / b < a) := by
    by_cases h0 : b = 0
    · subst h0
      rcases HX.out with ⟨h, h1, h2⟩ | ⟨h, h1, h2⟩
      · exact .inl ⟨rfl, by simpa using h1, h2⟩
      · simp at h
    · rcases HX.out with ⟨h, h1, h2⟩ | ⟨h, h1, h2⟩
      · exact .inr (.inl ⟨h0, h2, by rw [h1, Int.mul_tdiv_cancel _ h0, IntKind.wrap_u64]; simp; omega, by rw [h1]; simp⟩)
      · exact .inr (.inr ⟨h0, h2, (quo_lt (by omega)).2 (by rw [Int.mul_comm]; exact h)⟩)
  have hx0 : 0 ≤ x := by
    have := Int.mul_nonneg ha hb
    rcases HX.out with ⟨h, h1, h2⟩ | ⟨h, h1, h2⟩ <;> omega
  rcases HS.out with ⟨g, rfl, rfl⟩ | ⟨g, rfl, rfl⟩
  · clear HS HX
    have k1 : (a + b - a == b) = true := by simp; omega
    have k2 : a ≤ 18446744073709551615 - b := by omega
    have k3 : decide (a ≤ 18446744073709551615 - b) = true := by simpa using k2
    have k4 : IntKind.u64.wrap (a + b - a) = b := by rw [IntKind.wrap_u64]; omega
    have k5 : a ≤ a + b := by omega
    rcases HH.out with ⟨rfl, rfl, rfl⟩ | ⟨h0, rfl, h4, h5⟩ | ⟨h0, rfl, h1⟩
    · clear HH
      go_wp2
      go_ret
      exact ⟨rfl, Below.refl _ _⟩
    · clear HH
      have h3 : (b == 0) = false := by simpa using h0
      go_wp2
      go_ret
      exact ⟨rfl, Below.refl _ _⟩
    · clear HH
      have h3 : (b == 0) = false := by simpa using h0
      go_wp2
      go_ret
      exact ⟨rfl, Below.refl _ _⟩
  · clear HS HX
    have k2 : 18446744073709551615 - b < a := by omega
    have k3 : decide (a ≤ 18446744073709551615 - b) = false := by simpa using k2
    rcases HH.out with ⟨rfl, rfl, rfl⟩ | ⟨h0, rfl, h4, h5⟩ | ⟨h0, rfl, h1⟩
    · omega
    · clear HH
      have h3 : (b == 0) = false := by simpa using h0
      go_wp2
      go_ret
      exact ⟨rfl, Below.refl _ _⟩
    · clear HH
      have h3 : (b == 0) = false := by simpa using h0
      go_wp2
      go_ret
      exact ⟨rfl, Below.refl _ _⟩
end Go.Proofs.Ytnnmeilbcbicaaa
