/-
  What RankCalls asks, call by call, in any world that has what was there.
-/
import Derived.Test.YtdknjeikhdodeaaRAdd3
import Derived.Test.YtdknjeikhdodeaaRank3
namespace Go.Proofs.Ytdknjeikhdodeaa
open Go.RowKit Go.Sort

/-- Laid behind w0, whatever was there is as it was. -/
theorem below_step {w0 W W' : World} (h : Below w0.heap.size w0 W) (h2 : Below W.heap.size W W') : Below w0.heap.size w0 W' := h.trans (h2.mono h.size)
theorem less_q (w0 : World) (a1 a2 b1 b2 : Int) (v : Bool) (hv : nlt (a1, a2) (b1, b2) = v) (W : World) (h : Below w0.heap.size w0 W) :
    Calls Try.prog 15 #[.agg #[.int .i64 a1, .int .i64 a2], .agg #[.int .i64 b1, .int .i64 b2]] W fun e w' => e = .returned (.bool v) ∧ Below w0.heap.size w0 w' := by
  have := less_any (a1, a2) (b1, b2) W
  rw [hv] at this
  exact this.mono fun e w' ⟨h1, n, os, h2⟩ => ⟨h1, below_step h (Lays.below ⟨n, os, h2⟩)⟩
theorem rless_q (w0 : World) (a1 a2 b1 b2 : Int) (v : Bool) (hv : nlt (a1, a2) (b1, b2) = v) (W : World) (h : Below w0.heap.size w0 W) :
    Calls Try.prog 17 #[.agg #[.int .i64 a1, .int .i64 a2], .agg #[.int .i64 b1, .int .i64 b2]] W fun e w' => e = .returned (.bool v) ∧ Below w0.heap.size w0 w' := by
  have := rless_any (a1, a2) (b1, b2) W
  rw [hv] at this
  exact this.mono fun e w' ⟨h1, n, os, h2⟩ => ⟨h1, below_step h (Lays.below ⟨n, os, h2⟩)⟩
theorem own_q (w0 : World) (A : Option Addr) (n c up : Nat) (l : List (Int × Int)) (hN : Nears w0 0 up A n l) (hA : A = none → c = 0) (hup : up ≤ w0.heap.size) (hn : n ≤ 150) (W : World) (h : Below w0.heap.size w0 W) :
    Calls Try.prog 20 #[.slice A n c] W fun e w' => ∃ A1 c1, e = .returned (.slice A1 n c1) ∧ (Nears w' w0.heap.size w'.heap.size A1 n l ∧ (A1 = none → c1 = 0)) ∧ Below w0.heap.size w0 w' :=
  (ownN_any A n c 0 up l W (hN.below h hup) hA (Nat.le_trans hup h.size) (by omega)).mono fun e w' ⟨v, h1, h2, h3⟩ => by
    obtain ⟨A1, c1, rfl⟩ := own_shape2 h2
    obtain ⟨h4, h5, _⟩ := nears_own h2
    exact ⟨A1, c1, h1, ⟨h4.wide h.size (Nat.le_refl _), h5⟩, below_step h h3⟩
theorem sorted_q (w0 : World) (l : List (Int × Int)) {n : Nat} (hn : n ≤ 150) (hl : l.length = n) (W : World) (A : Option Addr) (c : Nat) (h : Below w0.heap.size w0 W) (hN : Nears W w0.heap.size W.heap.size A n l ∧ (A = none → c = 0)) :
    Calls Try.prog 19 #[.slice A n c] W fun e w' => ∃ A1 c1, e = .returned (.slice A1 n c1) ∧ Nears w' w0.heap.size w'.heap.size A1 n (srt l) ∧ Below w0.heap.size w0 w' :=
  (sorted_any A n c _ _ l W hN.1 hN.2 (Nat.le_refl _) (by omega)).mono fun e w' ⟨A1, n1, c1, h1, h2, h3, h4, h5, h6, h7⟩ => by
    obtain rfl : n1 = n := by have := h2.out; rw [srt_len, hl] at this; exact this.symm
    exact ⟨A1, c1, h1, h6.wide h.size (Nat.le_refl _), below_step h h7⟩
theorem rsorted_q (w0 : World) (A : Option Addr) (n c up : Nat) (l : List (Int × Int)) (hN : Nears w0 0 up A n l) (hup : up ≤ w0.heap.size) (hn : n ≤ 150) (W : World) (lo : Nat) (A2 : Option Addr) (m : List (Int × Int)) (h : Below w0.heap.size w0 W) (h2 : Nears W lo W.heap.size A2 n m) :
    Calls Try.prog 21 #[.slice A n c] W fun e w' => ∃ A1 c1, e = .returned (.slice A1 n c1) ∧ (Nears w' W.heap.size w'.heap.size A1 n (srt l) ∧ Nears w' lo W.heap.size A2 n m) ∧ Below w0.heap.size w0 w' :=
  (rsorted_any A n c 0 up l W (hN.below h hup) (Nat.le_trans hup h.size) (by omega)).mono fun e w' ⟨v, h3, h4, h5⟩ => by
    obtain ⟨A1, c1, rfl⟩ := own_shape2 h4
    obtain ⟨h6, _⟩ := nears_own h4
    exact ⟨A1, c1, h3, ⟨h6, h2.below h5 (Nat.le_refl _)⟩, below_step h h5⟩
theorem same_q (w0 : World) (l : List (Int × Int)) (n : Nat) (hn : n ≤ 150) (W : World) (lo lo' up up' : Nat) (A A' : Option Addr) (c c' : Nat) (h : Below w0.heap.size w0 W) (h1 : Nears W lo up A n l) (h2 : Nears W lo' up' A' n l) :
    Calls Try.prog 18 #[.slice A n c, .slice A' n c'] W fun e w' => e = .returned (.bool true) ∧ Below w0.heap.size w0 w' :=
  (same_yes A A' n n c c' lo up lo' up' l l W h1 h2 (by omega) rfl).mono fun e w' ⟨h3, q, h4⟩ => ⟨h3, by rw [h4]; exact below_drewN h q⟩
set_option maxRecDepth 100000 in
set_option maxHeartbeats 6400000 in
/-- Of k that may not be: nothing is added. -/
theorem rankCalls_bad (A : Option Addr) (n c : Nat) (l : List (Int × Int)) (k : Int) (a b : Int × Int) (w : World) (hN : Nears w 0 w.heap.size A n l) (hA : A = none → c = 0) (hn : n ≤ 150) (hk : k < 0 ∨ 16777216 < k) :
    Calls Try.prog 4 #[.slice A n c, .int .i64 k, .agg #[.int .i64 a.1, .int .i64 a.2], .agg #[.int .i64 b.1, .int .i64 b.2]] w fun e w' => e = .returned (.bool true) ∧ Below w.heap.size w w' := by
  obtain ⟨a1, a2⟩ := a
  obtain ⟨b1, b2⟩ := b
  have HA := hid hA
  have HL := hid hN.1
  have HK := hid hk
  clear hA hk
  have B1 := (Box.new w 29 a1 a2).lays (lays_alloc _ (.cells #[.int .i64 b1, .int .i64 b2] 29))
  have B2 := Box.new (w.alloc (.cells #[.int .i64 a1, .int .i64 a2] 29)) 29 b1 b2
  simp only [World.size_alloc] at B2
  have L0 := (lays_alloc w (.cells #[.int .i64 a1, .int .i64 a2] 29)).trans (lays_alloc _ (.cells #[.int .i64 b1, .int .i64 b2] 29))
  go_enter Try.func4, Try.ntmps4
  go_wp2_with fail
  refine (lives_any _).mono ?_
  rintro e w3 ⟨rfl, hb3⟩
  have bA := B1.below hb3 B1.2.2
  have bB := B2.below hb3 B2.2.2
  have H3 := hid (L0.below.trans (hb3.mono L0.below.size))
  have hN3 := hN.below H3.out (Nat.le_refl _)
  clear B1 B2 L0 hb3 hN
  have hlen : ¬ (150 < n) := by omega
  go_wp2_with fail
  refine (new_bad k HK.out _).mono ?_
  rintro e w4 ⟨rfl, rfl⟩
  go_wp2_with fail
  refine (rnew_bad k HK.out _).mono ?_
  rintro e w4 ⟨rfl, rfl⟩
  have hq : Below w3.heap.size w3 w3.drew := below_drewN (Below.refl _ _) 1
  have K7 : ∀ W : World, Below w3.heap.size w3 W → W.cell? ⟨w.heap.size, 0, none⟩ = some (.int .i64 a1) ∧ W.cell? ⟨w.heap.size, 1, none⟩ = some (.int .i64 a2) ∧ W.cell? ⟨w.heap.size + 1, 0, none⟩ = some (.int .i64 b1) ∧ W.cell? ⟨w.heap.size + 1, 1, none⟩ = some (.int .i64 b2) :=
    fun W hW => ⟨(bA.below hW bA.2.2).1, (bA.below hW bA.2.2).2.1, (bB.below hW bB.2.2).1, (bB.below hW bB.2.2).2.1⟩
  have hs3 : w.heap.size ≤ w3.heap.size := by have := bA.2.2; omega
  obtain ⟨rab, HAB⟩ : ∃ v, Hid (nlt (a1, a2) (b1, b2) = v) := ⟨_, hid rfl⟩
  have cl := less_q w3 a1 a2 b1 b2 rab HAB.out
  have crl := rless_q w3 a1 a2 b1 b2 rab HAB.out
  have cown := own_q w3 A n c w.heap.size l hN3 HA.out hs3 hn
  have csrt := sorted_q w3 l hn HL.out
  have crs := rsorted_q w3 A n c w.heap.size l hN3 hs3 hn
  have csm := same_q w3 (srt l) n hn
  have hbb : (rab != rab) = false := by simp
  go_wp2
  go_region_held3 (fun W => W.cell? ⟨w.heap.size, 0, none⟩ = some (.int .i64 a1) ∧ W.cell? ⟨w.heap.size, 1, none⟩ = some (.int .i64 a2) ∧ W.cell? ⟨w.heap.size + 1, 0, none⟩ = some (.int .i64 b1) ∧ W.cell? ⟨w.heap.size + 1, 1, none⟩ = some (.int .i64 b2)) (exact K7 _ hq)
    (first
      | (go_at_call 15; refine (cl _ hq).mono ?_; rintro e w5 ⟨rfl, hq⟩)
      | (go_at_call 17; refine (crl _ hq).mono ?_; rintro e w6 ⟨rfl, hq⟩)
      | (go_at_call 20; refine (cown _ hq).mono ?_; rintro e w7 ⟨A7, c7, rfl, hN7, hq⟩)
      | (go_at_call 19; refine (csrt _ A7 c7 hq hN7).mono ?_; rintro e w8 ⟨A8, c8, rfl, hN8, hq⟩)
      | (go_at_call 21; refine (crs _ _ A8 _ hq hN8).mono ?_; rintro e w9 ⟨A9, c9, rfl, hN9, hq⟩)
      | (go_at_call 18; refine (csm _ _ _ _ _ A8 A9 c8 c9 hq hN9.2 hN9.1).mono ?_; rintro e wa ⟨rfl, hq⟩))
  have H4 := hid (H3.out.trans (hq.mono hs3))
  clear cl crl cown csrt crs csm K7 hN7 hN8 hN9 hbb
  by_cases h0 : 0 < n
  · go_wp2
    refine wp_loop_rounds 1 ?_
    rw [rounds_succ]
    go_wp2
    go_ret
    exact ⟨rfl, H4.out⟩
  · go_wp2
    refine wp_loop_rounds 1 ?_
    rw [rounds_succ]
    go_wp2
    go_ret
    exact ⟨rfl, H4.out⟩
end Go.Proofs.Ytdknjeikhdodeaa
