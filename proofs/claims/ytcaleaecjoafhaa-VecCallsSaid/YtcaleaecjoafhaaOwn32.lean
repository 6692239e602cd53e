/-
  The contract of Own at 32 bits: a copy in memory of its own.
-/
import Derived.Test.YtcaleaecjoafhaaJoined
namespace Go.Proofs.Ytcaleaecjoafhaa
open Go.RowKit

/-- The call hands back numbers in memory of its own, and nothing that was there has changed. -/
def FreshK (K : IntKind) (et : TypeId) (w : World) (l : List Int) (e : Ending) (w' : World) : Prop :=
  ∃ A n c, e = .returned (.slice A n c) ∧ Hid (l.length = n) ∧ Hid (A = none → c = 0) ∧ w'.ownsRow w.heap.size et 1 (.slice A n c) n (IK K l) ∧ Below w.heap.size w w'
theorem own_shape' {w : World} {base : Nat} {e : TypeId} {v : Value} {n : Nat} {xs : List Value} (h : w.ownsRow base e 1 v n xs) : ∃ A c, v = .slice A n c ∧ (A = none → c = 0) ∧ n ≤ c := by
  rcases h.2 with ⟨rfl, rfl⟩ | ⟨g, cap, cur, rfl, _, _, hc, _⟩
  · exact ⟨none, 0, rfl, fun _ => rfl, Nat.le_refl _⟩
  · exact ⟨_, cap, rfl, (fun h => by cases h), hc⟩
theorem fresh_k {K : IntKind} {et : TypeId} {w w1 : World} {l : List Int} {n : Nat} {v : Value} (hl : l.length = n) (hown : w1.ownsRow w.heap.size et 1 v n (IK K l)) (hb : Below w.heap.size w w1) : FreshK K et w l (.returned v) w1 := by
  obtain ⟨A, c, rfl, hA, _⟩ := own_shape' hown
  exact ⟨A, n, c, rfl, hl, hA, hown, hb⟩
theorem own32_any (A : Option Addr) (n c lo up : Nat) (l : List Int) (w : World) (h : Row w lo up A n (IK .i32 l)) (hA : A = none → c = 0) (hup : up ≤ w.heap.size) (hn : n ≤ 1000000) :
    Calls Try.prog 19 #[.slice A n c] w (FreshK .i32 21 w l) := by
  obtain ⟨i0, hi, hz0, hz1, hz2⟩ := info_parts info32
  go_enter Try.func19, Try.ntmps19
  go_wp2_with (at_builtin; refine wpList_append_row _ rfl _ _ 27 rfl w.heap.size 21 i0 (.int .i32 0) 4 Try.underlying27 hi hz0 hz1 hz2 rfl (.slice (some ⟨w.heap.size, 0, none⟩) 0 0) 0 [] rfl (World.ownsRow_made w #[] 0 (Nat.le_refl _) (by decide) rfl) lo up A n c rfl hA (IK .i32 l) (h.alloc hup _) (IK_one _ l) (by unfold maxLen; omega) (by omega) (by simp) ?_; intro v' w1 hown hgrow _)
  have hb : Below w.heap.size w w1 := ((Below.refl _ _).alloc (Nat.le_refl _) _).grown hgrow (by simp) (by intro k hk; simp [Value.ownBlock] at hk; omega)
  go_ret
  rw [Nat.zero_add, List.nil_append] at hown
  exact fresh_k (by have := h.len; rwa [IK_len] at this) hown hb
end Go.Proofs.Ytcaleaecjoafhaa
