/-
  Contracts of the small functions that all the laws share: Same, Own, Pick and bytes.Clone, whatever bytes come in. No condition but that slices read as bytes within the memory that is there.
-/
import Derived.Test.YtjnbdlbgfgdopaaProg
import Derived.Test.YtjnbdlbgfgdopaaWords
import Derived.Deep.QuietTactic
import Derived.BigQuiet
import Derived.Lib.SliceRun
namespace Go.Proofs.Ytjnbdlbgfgdopaa
set_option maxRecDepth 40000
open Go.RowKit

theorem info5 : (Try.prog.info? 5).map (fun i => (i.zero, i.size, i.bytes)) = some (some (.int .u8 0), 1, 1) := by kernel_rfl

/-- What Same finds after k cells that are alike. -/
theorem eq_of_take {l l' : List UInt8} (h : l.length = l'.length) {k : Nat} (hk : k = l.length) (ht : l.take k = l'.take k) : l = l' := by
  subst hk
  rw [List.take_length] at ht
  rw [ht, h, List.take_length]
theorem ne_of_at {l l' : List UInt8} {k : Nat} (h : k < l.length) (h' : k < l'.length) (hne : ((l[k].toNat : Int) != (l'[k].toNat : Int)) = true) : decide (l = l') = false := by
  refine decide_eq_false fun e => ?_
  subst e
  simp at hne
theorem take_of_at {l l' : List UInt8} {k : Nat} (h : k < l.length) (h' : k < l'.length) (ht : l.take k = l'.take k) (he : ((l[k].toNat : Int) != (l'[k].toNat : Int)) = false) : l.take (k + 1) = l'.take (k + 1) := by
  rw [List.take_succ_eq_append_getElem h, List.take_succ_eq_append_getElem h', ht]
  congr 2
  simp at he
  exact UInt8.toNat_inj.1 (by omega)

/-- A row of the call's own is a slice; nil has no room. -/
theorem own_shape {w : World} {base : Nat} {e : TypeId} {v : Value} {n : Nat} {xs : List Value} (h : w.ownsRow base e 1 v n xs) : ∃ A c, v = .slice A n c ∧ (A = none → c = 0) ∧ n ≤ c := by
  rcases h.2 with ⟨rfl, rfl⟩ | ⟨g, cap, cur, rfl, _, _, hc, _⟩
  · exact ⟨none, 0, rfl, fun _ => rfl, Nat.le_refl _⟩
  · exact ⟨_, cap, rfl, (fun h => by cases h), hc⟩

theorem own_cap {w : World} {base : Nat} {e : TypeId} {A : Option Addr} {c n : Nat} {xs : List Value} (h : w.ownsRow base e 1 (.slice A n c) n xs) : n ≤ c := by
  obtain ⟨_, _, he, _, hc⟩ := own_shape h
  injection he with _ _ he
  omega

/-- The call hands back bytes in memory of its own, and nothing that was there has changed. -/
def Fresh (w : World) (l : List UInt8) (e : Ending) (w' : World) : Prop :=
  ∃ A n c, e = .returned (.slice A n c) ∧ Hid (l.length = n) ∧ Hid (A = none → c = 0) ∧ w'.ownsRow w.heap.size 5 1 (.slice A n c) n (U l) ∧ Below w.heap.size w w'

theorem fresh_mk {w w1 : World} {l : List UInt8} {n : Nat} {v : Value} (hl : l.length = n) (hown : w1.ownsRow w.heap.size 5 1 v n (U l)) (hb : Below w.heap.size w w1) : Fresh w l (.returned v) w1 := by
  obtain ⟨A, c, rfl, hA, _⟩ := own_shape hown
  exact ⟨A, n, c, rfl, hl, hA, hown, hb⟩

theorem tmod_lo (n m : Int) (h : 1 ≤ m) : -m < n.tmod m ∧ n.tmod m < m := by
  have h1 := Int.tmod_lt_of_pos n (show 0 < m by omega)
  have h2 := Int.tmod_lt_of_pos (-n) (show 0 < m by omega)
  rw [Int.neg_tmod] at h2
  omega
theorem tmod_neg {n m : Int} (h : 1 ≤ m) (h2 : n.tmod m < 0) : n.tmod m + m = n % m := by
  rw [Int.tmod_eq_emod] at h2 ⊢
  have := Int.emod_nonneg n (show m ≠ 0 by omega)
  split at h2
  · omega
  · rename_i hc
    rw [if_neg hc]
    omega
theorem tmod_pos {n m : Int} (h : 1 ≤ m) (h2 : 0 ≤ n.tmod m) : n.tmod m = n % m := by
  rw [Int.tmod_eq_emod] at h2 ⊢
  have := Int.emod_lt_of_pos n (show 0 < m by omega)
  split at h2
  · rename_i hc
    rw [if_pos hc]
    omega
  · omega
theorem ret_int {k : IntKind} {a b : Int} (h : a = b) : Ending.returned (.int k a) = .returned (.int k b) := by rw [h]

theorem pick_any (n m : Int) (w : World) (h3 : 1 ≤ m) (h4 : m ≤ 1000000) :
    Calls Try.prog 18 #[.int .i64 n, .int .i64 m] w fun e w' => e = .returned (.int .i64 (n % m)) ∧ w = w' := by
  obtain ⟨hb1, hb2⟩ := tmod_lo n m h3
  by_cases hneg : n.tmod m < 0
  · go_enter Try.func18, Try.ntmps18
    go_wp2
    go_ret
    exact ⟨ret_int (tmod_neg h3 hneg), rfl⟩
  · have hpos : 0 ≤ n.tmod m := by omega
    go_enter Try.func18, Try.ntmps18
    go_wp2
    go_ret
    exact ⟨ret_int (tmod_pos h3 hpos), rfl⟩
theorem pick_at (n m x : Int) (w : World) (h3 : 1 ≤ m) (h4 : m ≤ 1000000) (hx : n % m = x) :
    Calls Try.prog 18 #[.int .i64 n, .int .i64 m] w fun e w' => e = .returned (.int .i64 x) ∧ w = w' := by
  rw [← hx]
  exact pick_any n m w h3 h4
theorem pick_still (n m : Int) (w : World) (h3 : 1 ≤ m) (h4 : m ≤ 1000000) :
    Calls Try.prog 18 #[.int .i64 n, .int .i64 m] w fun e w' => e = .returned (.int .i64 (n % m)) ∧ w' = w :=
  (pick_any n m w h3 h4).mono fun _ _ ⟨h, e⟩ => ⟨h, e.symm⟩
end Go.Proofs.Ytjnbdlbgfgdopaa
