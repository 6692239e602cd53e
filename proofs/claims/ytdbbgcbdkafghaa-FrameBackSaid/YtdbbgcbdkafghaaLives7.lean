/-
  Chapter 7's example, asked ahead of each law.
-/
import Derived.Test.YtdbbgcbdkafghaaFrameOne
import Derived.Test.YtdbbgcbdkafghaaMadeBytes
namespace Go.Proofs.Ytdbbgcbdkafghaa
open Go.RowKit Go.Joins Regs

theorem own_caps {w : World} {base : Nat} {e : TypeId} {A : Option Addr} {n c : Nat} {xs : List Value} (h : w.ownsRow base e 1 (.slice A n c) n xs) : n ≤ c ∧ c ≤ maxLen := by
  rcases h.2 with ⟨e, _⟩ | ⟨g, cap, cur, e, _, _, h1, h2, _⟩
  · simp only [Value.slice.injEq] at e
    obtain ⟨_, e2, e3⟩ := e
    rw [e2, e3]
    exact ⟨Nat.le_refl _, Nat.zero_le _⟩
  · simp only [Value.slice.injEq] at e
    obtain ⟨_, _, e3⟩ := e
    rw [e3]
    exact ⟨h1, h2⟩
theorem hdr_nil : hdr [] = [0, 0, 0, 0] := by decide +kernel
theorem one_self {p : List UInt8} (h : p.length ≤ 33554432) : one (frm p) = (0, p, 8 + p.length) := by
  have := one_frm h []
  rwa [List.append_nil] at this
set_option maxHeartbeats 1000000 in
set_option maxRecDepth 20000 in
theorem lives7_any (w : World) : Calls Try.prog 12 #[] w fun e w' => e = .returned (.bool true) ∧ Below w.heap.size w w' := by
  have B0 := bytes7_any none 0 0 0 0 [] w Row.empty (fun _ => rfl) (Nat.zero_le _) (by omega)
  obtain ⟨fr, hfr⟩ : ∃ fr, fr = frm [] := ⟨_, rfl⟩
  rw [← hfr] at B0
  have hfl : fr.length = 8 := by rw [hfr, frm_len]; rfl
  have hf1 : one fr = (0, [], 8) := by rw [hfr]; exact one_self (by simp)
  have hf4 : fr.take 4 = [0, 0, 0, 0] := by
    rw [hfr]
    have := frm_take4 [] []
    rw [List.append_nil] at this
    rw [this]
    exact hdr_nil
  have B1 := hid B0
  have HFL := hid hfl
  have HF1 := hid hf1
  have HF4 := hid hf4
  clear B0 hfr hfl hf1 hf4
  obtain ⟨X, hX⟩ : ∃ C, C = (U (List.replicate 4 0)).toArray := ⟨_, rfl⟩
  have MK : ∀ W : World, (Instr.makeSlice 22 (.int .i64 4) (.int .i64 4)).run Try.prog W = .ok (.slice (some ⟨W.heap.size, 0, none⟩) 4 4) (W.alloc (.cells X 5)) := fun W => by rw [hX]; exact make_bytes 4 W (by omega)
  have HX := hid hX
  clear hX
  go_enter Try.func12, Try.ntmps12
  go_wp2_with fail
  refine B1.out.mono ?_
  rintro e w1 ⟨A, n, c, rfl, hl, hA, hown, hb1⟩
  have hn : n = 8 := by have := hl.out; rw [HFL.out] at this; exact this.symm
  subst hn
  have hcap := own_caps hown
  have hc := hcap.1
  have HCM := hid hcap.2
  have O1 := one_any A 8 c w.heap.size w1.heap.size fr w1 (Row.of_own hown) hA.out (Nat.le_refl _) (by omega) hcap
  rw [HF1.out] at O1
  have O2 := hid O1
  have R1 := hid (Row.of_own hown)
  have HB1 := hid hb1
  clear O1 hown hb1 hcap
  go_wp2_with fail
  refine O2.out.mono ?_
  rintro e w2 ⟨A2, n2, c2, he, hl2, hA2, hown2, hb2⟩
  have hn2 : n2 = 0 := hl2.out.symm
  subst hn2
  have he2 : e = .returned (.tuple #[.slice A2 0 c2, .int .i64 8, .int .i64 0]) := he
  subst he2
  have HB2 := hid (HB1.out.trans (hb2.mono HB1.out.size))
  have R0 := (R1.out.below hb2 (Nat.le_refl _)).take (k := 4) (by omega)
  rw [U_take, HF4.out] at R0
  have R2 := hid R0
  clear R0
  have hz2 := hid hb2.size
  clear hown2 hb2 he
  have h4c : (4 : Int) ≤ (c : Int) := by omega
  have g6 : 4 ≤ c := by omega
  have g3 : IntKind.i64.wrap (c : Int) = (c : Int) := IntWalk.i64_in _ (by have := HCM.out; unfold maxLen at this; omega)
  go_wp2_with fail
  go_region_held3 (fun _ => True) (exact trivial)
    (first
      | (go_at_call 20; refine (same_yes A _ 4 4 c 4 w.heap.size w1.heap.size w2.heap.size (w2.heap.size + 1) [0, 0, 0, 0] [0, 0, 0, 0] _ (by exact R2.out.alloc hz2.out _) (by exact row_lit_at w2 5 [0, 0, 0, 0] X 4 _ HX.out rfl rfl) (by omega) rfl).mono ?_; rintro e w3 ⟨rfl, kk, rfl⟩))
  go_wp2
  go_ret
  exact ⟨rfl, below_drewN (HB2.out.alloc HB2.out.size _) _⟩
end Go.Proofs.Ytdbbgcbdkafghaa
