/-
  The walk of WalNil.
-/
import Derived.Test.YtchimkkpjdbdpaaWalB
namespace Go.Proofs.Ytchimkkpjdbdpaa
set_option maxRecDepth 40000
open Go.RowKit Go.Joins Go.Maps Dsk Regs

set_option maxHeartbeats 2000000 in
theorem walNil_walk (A : Option Addr) (n c : Nat) (q : Int) (w : World) : Calls Try.prog 5 #[.slice A n c, .int .u64 q] w fun e w' => e = .returned (.bool true) ∧ Below w.heap.size w w' := by
  have LV := hid (lives_any w)
  go_enter Try.func5, Try.ntmps5
  go_wp2_with fail
  refine LV.out.mono ?_
  rintro e w1 ⟨rfl, hb1⟩
  have HB1 := hid hb1
  have AP := hid (append_nilw w1 A n c)
  clear hb1 LV
  go_wp2_with fail
  refine AP.out.mono ?_
  rintro e w2 ⟨rfl, hb2⟩
  have HB2 := hid (HB1.out.trans (hb2.mono HB1.out.size))
  have RS := hid (reset_nilw w2)
  clear hb2 AP
  go_wp2_with fail
  refine RS.out.mono ?_
  rintro e w3 ⟨rfl, hb3⟩
  have HB3 := hid (HB2.out.trans (hb3.mono HB2.out.size))
  clear hb3 RS
  go_wp2_with fail
  refine (skip_nilw w3 q).mono ?_
  rintro e w' ⟨rfl, rfl⟩
  go_wp2_with fail
  refine (next_nilw w').mono ?_
  rintro e w' ⟨rfl, rfl⟩
  go_wp2_with fail
  refine (size_nilw w').mono ?_
  rintro e w' ⟨rfl, rfl⟩
  go_wp2_with fail
  refine (broken_nilw w').mono ?_
  rintro e w' ⟨rfl, rfl⟩
  go_wp2
  go_ret
  exact ⟨rfl, HB3.out⟩
end Go.Proofs.Ytchimkkpjdbdpaa
