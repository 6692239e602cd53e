/-
  The walks of SumBrackets, SumCalls and SumNames.
-/
import Derived.Test.YtooofipllklmgaaSumLives
import Derived.Test.YtooofipllklmgaaSumMoved
import Derived.Test.YtooofipllklmgaaRSumMoved
import Derived.OwnWalk
namespace Go.Proofs.Ytooofipllklmgaa
open Go.RowKit Regs

theorem pick_wide (n m x : Int) (w : World) (h3 : 1 ≤ m) (h4 : m ≤ 4611686018427387904) (hx : n % m = x) :
    Calls Try.prog 12 #[.int .i64 n, .int .i64 m] w fun e w' => e = .returned (.int .i64 x) ∧ w' = w := by
  subst hx
  obtain ⟨hb1, hb2⟩ := tmod_lo n m h3
  by_cases hneg : n.tmod m < 0
  · go_enter Try.func12, Try.ntmps12
    go_wp2
    go_ret
    exact ⟨ret_int (tmod_neg h3 hneg), rfl⟩
  · have hpos : 0 ≤ n.tmod m := by omega
    go_enter Try.func12, Try.ntmps12
    go_wp2
    go_ret
    exact ⟨ret_int (tmod_pos h3 hpos), rfl⟩

/-- Join, with its answer under a name. -/
theorem join_at (a b c : BitVec 32) (n : Int) (w : World) (h0 : 1 ≤ n) (h1 : n ≤ 9223372036854775807) (hc : c = stn (8 * n.toNat) a ^^^ b) :
    Calls Try.prog 9 #[V a, V b, .int .i64 n] w fun e w' => e = .returned (V c) ∧ Below w.heap.size w w' := by
  have := join_any a b n w (by omega) h1
  rwa [if_neg (by omega), ← hc] at this

set_option maxHeartbeats 1000000 in
theorem brackets_walk (a b c : BitVec 32) (n m : Int) (w : World) :
    Calls Try.prog 6 #[V a, V b, V c, .int .i64 n, .int .i64 m] w fun e w' => e = .returned (.bool true) ∧ Below w.heap.size w w' := by
  have W0 := hid (lives_any w)
  obtain ⟨p, hp, hp0, hp1⟩ : ∃ p, n % 1099511627776 = p ∧ 0 ≤ p ∧ p < 1099511627776 := ⟨_, rfl, by omega, by omega⟩
  obtain ⟨q, hq, hq0, hq1⟩ : ∃ p, m % 1099511627776 = p ∧ 0 ≤ p ∧ p < 1099511627776 := ⟨_, rfl, by omega, by omega⟩
  have P1 := fun W => hid (pick_wide n 1099511627776 p W (by omega) (by omega) hp)
  have P2 := fun W => hid (pick_wide m 1099511627776 q W (by omega) (by omega) hq)
  clear hp hq
  obtain ⟨x1, h1⟩ : ∃ x, x = stn (8 * (1 + p).toNat) a ^^^ b := ⟨_, rfl⟩
  obtain ⟨x2, h2⟩ : ∃ x, x = stn (8 * (1 + q).toNat) x1 ^^^ c := ⟨_, rfl⟩
  obtain ⟨x3, h3⟩ : ∃ x, x = stn (8 * (1 + q).toNat) b ^^^ c := ⟨_, rfl⟩
  have h4 : x2 = stn (8 * (1 + p + (1 + q)).toNat) a ^^^ x3 := by
    rw [h2, h1, h3, show (1 + p + (1 + q)).toNat = (1 + p).toNat + (1 + q).toNat by omega]
    exact join_brackets a b c _ _
  have h5 : b = stn (8 * (1 + p).toNat) 0#32 ^^^ b := by rw [stn_zero]; simp
  have J1 := fun W => hid (join_at a b x1 (1 + p) W (by omega) (by omega) h1)
  have J2 := fun W => hid (join_at x1 c x2 (1 + q) W (by omega) (by omega) h2)
  have J3 := fun W => hid (join_at b c x3 (1 + q) W (by omega) (by omega) h3)
  have J4 := fun W => hid (join_at a x3 x2 (1 + p + (1 + q)) W (by omega) (by omega) h4)
  have J5 := fun W => hid (join_at 0#32 b b (1 + p) W (by omega) (by omega) h5)
  clear h1 h2 h3 h4 h5
  go_enter Try.func6, Try.ntmps6
  go_wp2_with fail
  refine W0.out.mono ?_
  rintro e w0 ⟨rfl, hb0⟩
  go_wp2_with fail
  refine (P1 _).out.mono ?_
  rintro e w' ⟨rfl, rfl⟩
  go_wp2_with fail
  refine (P2 _).out.mono ?_
  rintro e w'' ⟨rfl, rfl⟩
  go_wp2_with fail
  refine (J1 _).out.mono ?_
  rintro e w1 ⟨rfl, hb⟩
  have hb1 := hb0.trans (hb.mono hb0.size)
  clear hb hb0
  go_wp2_with fail
  refine (J2 _).out.mono ?_
  rintro e w2 ⟨rfl, hb⟩
  have hb2 := hb1.trans (hb.mono hb1.size)
  clear hb hb1
  go_wp2_with fail
  refine (J3 _).out.mono ?_
  rintro e w3 ⟨rfl, hb⟩
  have hb3 := hb2.trans (hb.mono hb2.size)
  clear hb hb2
  go_wp2_with fail
  refine (J4 _).out.mono ?_
  rintro e w4 ⟨rfl, hb⟩
  have hb4 := hb3.trans (hb.mono hb3.size)
  clear hb hb3
  go_wp2_with fail
  refine (J5 _).out.mono ?_
  rintro e w5 ⟨rfl, hb⟩
  have hb5 := hb4.trans (hb.mono hb4.size)
  clear hb hb4
  go_wp2_with fail
  go_ret
  exact ⟨rfl, hb5⟩
end Go.Proofs.Ytooofipllklmgaa
