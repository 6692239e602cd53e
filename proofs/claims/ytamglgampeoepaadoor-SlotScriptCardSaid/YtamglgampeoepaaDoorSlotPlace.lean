/-
  Contract of slot's place: a slot's numbers themselves.
-/
import Derived.Test.YtamglgampeoepaaDoorSlotAt
namespace Go.Proofs.YtamglgampeoepaaDoor
set_option maxRecDepth 40000
open Go.RowKit
theorem wrap_next {n : Nat} (h : n < 9223372036854775807) : IntKind.i64.wrap ((n : Int) + 1) = (n : Int) + 1 := by simp [IntKind.wrap, IntKind.bits, IntKind.signed]; omega
theorem wrap64_next {n : Nat} (h : n < 9223372036854775807) : wrap64 ((n : Int) + 1) = (n : Int) + 1 := by unfold wrap64; omega
section
variable {w : World} {g : Nat} {s : SSt} {vv tv rv : Value} {ws : List Nat} {f : Nat}
set_option maxHeartbeats 400000 in
/-- A slot's numbers themselves. -/
theorem place_s (h : SRaw w g s vv tv rv ws f) (hf : SFit s) (n : Nat) (hn : n < s.st.length) : ∃ b cap, vv = .slice (some ⟨b, 0, none⟩) (s.st.length * s.dim) cap ∧ n * s.dim + s.dim ≤ s.st.length * s.dim ∧ Calls Tryd.prog 37 #[ptr g, .int .i64 (n : Int)] w fun e w' => e = .returned (.slice (some ⟨b, n * s.dim, none⟩) s.dim s.dim) ∧ ∃ k, w' = w.drewN k := by
  obtain ⟨hd1, hd2⟩ := hf.dim
  obtain ⟨hr1, hr2⟩ := hf.room
  have hw := hf.wide
  have hle : n * s.dim + s.dim ≤ s.st.length * s.dim := by
    have := Nat.mul_le_mul_right s.dim (show n + 1 ≤ s.st.length by omega)
    rwa [Nat.succ_mul] at this
  have hbig : s.st.length * s.dim ≤ 17179869184 := by
    have := Nat.mul_le_mul (show s.st.length ≤ 16777216 by omega) hd2
    omega
  have c0 := h.c0
  have c2 := h.c2
  rcases h.vo.2 with ⟨hv, h0⟩ | ⟨b, cap, cur, rfl, _, _, hc, hm, _⟩
  · exfalso
    rw [h0] at hle
    omega
  refine ⟨b, cap, rfl, hle, ?_⟩
  obtain ⟨p, hp⟩ : ∃ p, p = n * s.dim := ⟨_, rfl⟩
  obtain ⟨len, hlen⟩ : ∃ len, len = s.st.length * s.dim := ⟨_, rfl⟩
  obtain ⟨dim, hdim⟩ : ∃ dim, dim = s.dim := ⟨_, rfl⟩
  rw [← hlen] at c2 hc hle hbig
  rw [← hp] at hle ⊢
  rw [← hdim] at c0 hle hp hd1 hd2 ⊢
  obtain ⟨q, hq⟩ : ∃ q, q = p + dim := ⟨_, rfl⟩
  have m1 : (n : Int) * (dim : Int) = (p : Int) := by rw [hp]; simp
  have m2 : ((n : Int) + 1) * (dim : Int) = (q : Int) := by rw [Int.add_mul, m1, hq]; simp
  have hn9 : n ≤ 16777216 := by omega
  have b1 : p ≤ 9223372036854775807 := by omega
  have b2 : q ≤ 9223372036854775807 := by omega
  have b3 : n < 9223372036854775807 := by omega
  have l1 : (p : Int) ≤ (q : Int) := by omega
  have l2 : (q : Int) ≤ (cap : Int) := by omega
  have l3 : ¬ q = p := by omega
  have l4 : (0 : Int) ≤ (p : Int) := by omega
  have HQ : Hid (q - p = dim) := hid (by omega)
  have w1 := wrap64_nat b1
  have w2 := wrap64_nat b2
  have w3 := wrap_nat b1
  have w4 := wrap_nat b2
  have w5 := wrap_next b3
  have w6 := wrap64_next b3
  clear h hf hp hlen hdim hn hw hr1 hr2 hm hq hle hbig hc hd1 hd2 hn9 b1 b2 b3
  go_enter Tryd.func37, Tryd.ntmps37
  go_wp2
  go_quiet (fail)
  go_wp2
  go_ret
  trace_state
  exact ⟨by rw [← HQ.out]; rfl, _, rfl⟩
end
end Go.Proofs.YtamglgampeoepaaDoor
