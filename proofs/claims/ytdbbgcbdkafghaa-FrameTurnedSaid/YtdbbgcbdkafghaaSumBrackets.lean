/-
  The walks of SumBrackets, SumCalls and SumNames.
-/
import Derived.Test.YtdbbgcbdkafghaaSumLives
import Derived.Test.YtdbbgcbdkafghaaSumMoved
import Derived.Test.YtdbbgcbdkafghaaRSumMoved
import Derived.OwnWalk
namespace Go.Proofs.Ytdbbgcbdkafghaa
open Go.RowKit Regs

theorem pick_wide (n m x : Int) (w : World) (h3 : 1 ≤ m) (h4 : m ≤ 4611686018427387904) (hx : n % m = x) :
    Calls Try.prog 25 #[.int .i64 n, .int .i64 m] w fun e w' => e = .returned (.int .i64 x) ∧ w' = w := by
  subst hx
  obtain ⟨hb1, hb2⟩ := tmod_lo n m h3
  by_cases hneg : n.tmod m < 0
  · go_enter Try.func25, Try.ntmps25
    go_wp2
    go_ret
    exact ⟨ret_int (tmod_neg h3 hneg), rfl⟩
  · have hpos : 0 ≤ n.tmod m := by omega
    go_enter Try.func25, Try.ntmps25
    go_wp2
    go_ret
    exact ⟨ret_int (tmod_pos h3 hpos), rfl⟩

end Go.Proofs.Ytdbbgcbdkafghaa
