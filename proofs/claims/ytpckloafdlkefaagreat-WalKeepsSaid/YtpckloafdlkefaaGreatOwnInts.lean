/-
  Numbers in memory of their own (the kit's Own at int).
-/
import Derived.Test.YtpckloafdlkefaaGreatKit
namespace Go.Proofs.YtpckloafdlkefaaGreat
set_option maxRecDepth 40000
open Go.RowKit

theorem infoI : (Tryz.prog.info? 3).map (fun i => (i.zero, i.size, i.bytes)) = some (some (.int .i64 0), 1, 8) := by kernel_rfl
theorem I_one (l : List Int) : ∀ u ∈ I l, u.oneCell' = true := by
  intro u hu
  obtain ⟨x, _, rfl⟩ := List.mem_map.1 hu
  rfl
def FreshI (w : World) (l : List Int) (e : Ending) (w' : World) : Prop :=
  ∃ A n c, e = .returned (.slice A n c) ∧ Hid (l.length = n) ∧ Hid (A = none → c = 0) ∧ w'.ownsRow w.heap.size 3 1 (.slice A n c) n (I l) ∧ Below w.heap.size w w'
set_option maxRecDepth 20000 in
theorem own_ints (A : Option Addr) (n c lo up : Nat) (l : List Int) (w : World) (h : Row w lo up A n (I l)) (hA : A = none → c = 0) (hup : up ≤ w.heap.size) (hn : n ≤ 1000000) :
    Calls Tryz.prog 17 #[.slice A n c] w (FreshI w l) := by
  obtain ⟨i0, hi, hz0, hz1, hz2⟩ := info_parts infoI
  go_enter Tryz.func17, Tryz.ntmps17
  go_wp2_with (at_builtin; refine wpList_append_row _ rfl _ _ 34 rfl w.heap.size 3 i0 (.int .i64 0) 8 Tryz.underlying34 hi hz0 hz1 hz2 rfl (.slice (some ⟨w.heap.size, 0, none⟩) 0 0) 0 [] rfl (World.ownsRow_made w #[] 0 (Nat.le_refl _) (by decide) rfl) lo up A n c rfl hA (I l) (h.alloc hup _) (I_one l) (by unfold maxLen; omega) (by omega) (by simp) ?_; intro v' w1 hown hgrow _)
  have hb : Below w.heap.size w w1 := ((Below.refl _ _).alloc (Nat.le_refl _) _).grown hgrow (by simp) (by intro k hk; simp [Value.ownBlock] at hk; omega)
  go_ret
  rw [Nat.zero_add, List.nil_append] at hown
  obtain ⟨A, c, rfl, hA, _⟩ := own_shape hown
  exact ⟨A, n, c, rfl, by have := h.len; rwa [I_len] at this, hA, hown, hb⟩
end Go.Proofs.YtpckloafdlkefaaGreat
