/-
  Contracts of slices.Grow of nothing and of slices.Concat of two slices of bytes.
-/
import Derived.Test.YtpckloafdlkefaaGreatNoughts
namespace Go.Proofs.YtpckloafdlkefaaGreat
set_option maxRecDepth 40000
open Go.RowKit

set_option maxRecDepth 40000 in
theorem grow_nil (n : Nat) (w : World) (hn : n ≤ 1000000) :
    Calls Tryz.prog 105 #[.slice none 0 0, .int .i64 (n : Int)] w fun e w' => ∃ v, e = .returned v ∧ w'.ownsRow w.heap.size 5 1 v 0 [] ∧ Below w.heap.size w w' := by
  obtain ⟨i, hi, hz0, hz1, hz2⟩ := info_parts info5
  by_cases h0 : n = 0
  · subst h0
    go_enter Tryz.func105, Tryz.ntmps105
    go_wp2
    go_ret
    exact ⟨_, rfl, World.ownsRow_nil _ _ _ _, Below.refl _ _⟩
  · have ht : Tryz.prog.underlying 33 = some (.slice 5) := Tryz.underlying33
    have htn : Tryz.prog.underlying 3 = some (.int .i64) := Tryz.underlying3
    have hr := Lib.run_append_nil_zeros (P := Tryz.prog) w 33 3 33 5 i (.int .u8 0) .i64 .i64 ht htn hi hz0 n (by omega) (by omega) (by omega) (by rw [hz2]; omega)
    obtain ⟨cp, hcp⟩ : ∃ cp, cp = grownCap w n 0 5 := ⟨_, rfl⟩
    have hge := grownCap_ge w n 0 5
    have hle := grownCap_le_maxLen w n 0 5 (by unfold maxLen; omega)
    rw [← hcp] at hr hge hle
    obtain ⟨cs, hcs⟩ : ∃ cs, cs = Builtin.zeroCells (Value.int .u8 0).cells n ++ Builtin.zeroCells (Value.int .u8 0).cells (cp - n) := ⟨_, rfl⟩
    rw [← hcs] at hr
    have hsz : cs.size = cp := by
      rw [hcs]
      simp [Builtin.zeroCells, Value.cells]
      omega
    have HR := hid hr
    have HS := hid hsz
    have HG := hid hge
    have HL := hid hle
    clear hr hsz hge hle hcs hcp hz0 hz1 hz2 hi
    go_enter Tryz.func105, Tryz.ntmps105
    go_wp2_with (at_builtin; refine wpList_append_asked w rfl _ _ 33 3 rfl (.slice none 0 0) (.int .i64 (n : Int)) rfl rfl _ _ HR.out ?_)
    go_ret
    refine ⟨_, rfl, ⟨rfl, .inr ⟨w.heap.size, cp, cs, rfl, Nat.le_refl _, Blk.new w.drew _ _, Nat.zero_le _, HL.out, by rw [HS.out, Nat.mul_one], by simp⟩⟩, ((Below.refl _ w).drew).alloc (Nat.le_refl _) _⟩

set_option maxHeartbeats 1000000 in
set_option maxRecDepth 40000 in
/-- Two slices of bytes, one behind the other, in memory of their own. -/
theorem concat_any (g : Nat) (t : TypeId) (A B : Option Addr) (n c m d lo up lo' up' : Nat) (a b : List UInt8) (w : World) (hk : Blk w g t #[.slice A n c, .slice B m d])
    (hA : Row w lo up A n (U a)) (hB : Row w lo' up' B m (U b)) (hAc : A = none → c = 0) (hBc : B = none → d = 0) (hup : up ≤ w.heap.size) (hup' : up' ≤ w.heap.size) (hn : n ≤ 400000) (hm : m ≤ 400000) :
    Calls Tryz.prog 81 #[.slice (some ⟨g, 0, none⟩) 2 2] w (Fresh w (a ++ b)) := by
  obtain ⟨i, hi, hz0, hz1, hz2⟩ := info_parts info5
  have c0 : ∀ W, Below w.heap.size w W → W.cell? ⟨g, 0, none⟩ = some (.slice A n c) ∧ W.cell? ⟨g, 1, none⟩ = some (.slice B m d) := fun W hW => by
    have h := hk.below hW hk.lt
    have h0 := h.cell 0
    have h1 := h.cell 1
    simp at h0 h1
    exact ⟨h0, h1⟩
  have HC := hid c0
  have RA : Hid (∀ W, Below w.heap.size w W → Row W lo up A n (U a)) := hid fun W hW => hA.below hW hup
  have RB : Hid (∀ W, Below w.heap.size w W → Row W lo' up' B m (U b)) := hid fun W hW => hB.below hW hup'
  have HAC := hid hAc
  have HBC := hid hBc
  obtain ⟨d0, d1⟩ := c0 w (Below.refl _ _)
  clear c0 hA hB hAc hBc hk
  have GR : Hid (∀ W, Calls Tryz.prog 105 #[.slice none 0 0, .int .i64 ((n : Int) + (m : Int))] W fun e w' => ∃ v, e = .returned v ∧ w'.ownsRow W.heap.size 5 1 v 0 [] ∧ Below W.heap.size W w') := hid fun W => by
    have := grow_nil (n + m) W (by omega)
    rwa [show ((n + m : Nat) : Int) = (n : Int) + (m : Int) by omega] at this
  go_enter Tryz.func81, Tryz.ntmps81
  go_wp2
  go_loopw [3, 5, 11] (fun s _ i wr => w = wr ∧ ((s = .int .i64 0 ∧ i = .int .i64 0) ∨ (s = .int .i64 (n : Int) ∧ i = .int .i64 1) ∨ (s = .int .i64 ((n : Int) + (m : Int)) ∧ i = .int .i64 2))) (fun _ _ i _ => 2 - (intOf i).toNat)
  case atStart => exact ⟨rfl, .inl ⟨rfl, rfl⟩⟩
  case round =>
    obtain ⟨rfl, ⟨rfl, rfl⟩ | ⟨rfl, rfl⟩ | ⟨rfl, rfl⟩⟩ := hrel
    · go_wp2
      go_roundw
      case rel => exact ⟨by trivial, .inr (.inl ⟨by go_num, by go_num⟩)⟩
      case measure => simp [intOf]
    · go_wp2
      go_roundw
      case rel => exact ⟨by trivial, .inr (.inr ⟨by go_num, by go_num⟩)⟩
      case measure => simp [intOf]
    · go_wp2_with fail
      refine (GR.out _).mono ?_
      rintro e w1 ⟨v, rfl, hown, hb1⟩
      have HO := hid hown
      have HB1 := hid hb1
      clear hown hb1 d0 d1
      have hsz : w.heap.size ≤ w1.heap.size := HB1.out.size
      go_wp2
      go_loopw [6, 8, 27] (fun v _ i wq => Below w.heap.size w wq ∧ ((i = .int .i64 0 ∧ wq.ownsRow w.heap.size 5 1 v 0 []) ∨ (i = .int .i64 1 ∧ wq.ownsRow w.heap.size 5 1 v n (U a)) ∨ (i = .int .i64 2 ∧ wq.ownsRow w.heap.size 5 1 v (n + m) (U (a ++ b))))) (fun _ _ i _ => 2 - (intOf i).toNat)
      case atStart => exact ⟨HB1.out, .inl ⟨rfl, HO.out⟩⟩
      case round =>
        obtain ⟨hb, ⟨rfl, hown⟩ | ⟨rfl, hown⟩ | ⟨rfl, hown⟩⟩ := hrel
        · obtain ⟨d0, _⟩ := HC.out wr hb
          go_wp2_with (at_builtin; go_loud (refine wpList_append_row _ rfl _ _ 33 rfl w.heap.size 5 i (.int .u8 0) 1 Tryz.underlying33 hi hz0 hz1 hz2 rfl _ 0 [] rfl hown _ _ A n c rfl HAC.out (U a) (RA.out _ hb) (U_one _) (by unfold maxLen; omega) (by omega) hb.size ?_); intro v' w2 own2 grow2 at2)
          have hb2 := hb.grown grow2 hb.size (fun g hg => (hown.lt g hg).1)
          rw [Nat.zero_add, List.nil_append] at own2
          exact ⟨⟨hb2, .inr (.inl ⟨rfl, own2⟩)⟩, by simp [intOf]⟩
        · obtain ⟨_, d1⟩ := HC.out wr hb
          go_wp2_with (at_builtin; go_loud (refine wpList_append_row _ rfl _ _ 33 rfl w.heap.size 5 i (.int .u8 0) 1 Tryz.underlying33 hi hz0 hz1 hz2 rfl _ n (U a) rfl hown _ _ B m d rfl HBC.out (U b) (RB.out _ hb) (U_one _) (by unfold maxLen; omega) (by omega) hb.size ?_); intro v' w2 own2 grow2 at2)
          have hb2 := hb.grown grow2 hb.size (fun g hg => (hown.lt g hg).1)
          rw [← U_append] at own2
          exact ⟨⟨hb2, .inr (.inr ⟨rfl, own2⟩)⟩, by simp [intOf]⟩
        · obtain ⟨A', c', rfl, hA', _⟩ := own_shape hown
          have hlen : (a ++ b).length = n + m := by have := hown.1; rw [U_len] at this; omega
          have HL := hid hlen
          have HA' := hid hA'
          clear hlen hA'
          go_wp2
          go_ret
          exact ⟨A', n + m, c', rfl, HL, HA', hown, hb⟩
end Go.Proofs.YtpckloafdlkefaaGreat
