/-
  Contracts of vec.Dist and of the reference's Dist, whatever vectors come in.
-/
import Derived.Test.YtcaleaecjoafhaaThrough
import Derived.OwnWalk
import Derived.Deep.QuietTactic
import Derived.BigQuiet
namespace Go.Proofs.Ytcaleaecjoafhaa
open Go.RowKit

theorem dist_bounds {x y : Int} (hx : -131072 ≤ x ∧ x ≤ 131072) (hy : -131072 ≤ y ∧ y ≤ 131072) :
    0 ≤ (x - y) * (x - y) ∧ (x - y) * (x - y) ≤ 68719476736 := ⟨sq_nn _, sq_top (B := 262144) (by omega) (by omega)⟩

theorem distStep (g g' b off n d k : Nat) (x y s : Int) (w : World) (hb : w.cell? ⟨g, 0, none⟩ = some (.slice (some ⟨b, off, none⟩) n d)) (hk : k < n)
    (hy : w.cell? ⟨b, off + k, none⟩ = some (.int .i32 y)) (hs : w.cell? ⟨g', 0, none⟩ = some (.int .i64 s)) (hf : w.frozen? ⟨g', 0, none⟩ = false)
    (bx : -131072 ≤ x ∧ x ≤ 131072) (bz : -131072 ≤ y ∧ y ≤ 131072) (h0 : 0 ≤ s) (h1 : s ≤ 70368744177664) :
    Calls Try.prog 50 #[.int .i64 k, .int .i32 x, .pointer (some ⟨g, 0, none⟩), .pointer (some ⟨g', 0, none⟩)] w fun e w' => e = .returned (.bool true) ∧ w' = w.setCell ⟨g', 0, none⟩ (.int .i64 (s + (x - y) * (x - y))) := by
  obtain ⟨q1, q2⟩ := dist_bounds bx bz
  obtain ⟨bx1, bx2⟩ := bx
  obtain ⟨by1, by2⟩ := bz
  go_enter Try.func50, Try.ntmps50
  go_wp2
  go_ret
  exact ⟨rfl, rfl⟩

set_option maxHeartbeats 800000 in
theorem dist_any (A B : Option Addr) (n m c d lo up lo' up' : Nat) (a b : List Int) (w : World) (hR : Row w lo up A n (IK .i32 a)) (hR' : Row w lo' up' B m (IK .i32 b)) (hup : up ≤ w.heap.size) (hup' : up' ≤ w.heap.size) (hn : n ≤ 9223372036854775807) (hm : m ≤ 9223372036854775807) :
    Calls Try.prog 16 #[.slice A n c, .slice B m d] w fun e w' => e = .returned (.tuple #[.int .i64 (dd a b), .int .i64 (cp a b)]) ∧ Below w.heap.size w w' := by
  have hl := hR.len
  have hl' := hR'.len
  rw [IK_len] at hl hl'
  have HA := hid hl
  have HB := hid hl'
  clear hl hl'
  have W1 := hid (checkPair_any A B n m c d lo up lo' up' a b (w.alloc (.cells #[.slice B m d] 27)) (hR.alloc hup _) (hR'.alloc hup' _) hn hm)
  have hb0 : Below w.heap.size w (w.alloc (.cells #[.slice B m d] 27)) := (Below.refl _ _).alloc (Nat.le_refl _) _
  by_cases h0 : cp a b = 0
  · obtain ⟨c1, c2, c3⟩ := cp_zero h0
    obtain ⟨a1, a2, a3⟩ := cw_zero c1
    obtain ⟨_, _, b3⟩ := cw_zero c2
    have HE : Hid (dd a b = sq2 a b) := hid (dd_ok h0)
    have H0 := hid h0
    rw [h0] at W1
    have hmn : m = n := by rw [← HA.out, ← HB.out, c3]
    subst hmn
    have HT := hid (through32 50 #[.pointer (some ⟨w.heap.size, 0, none⟩), .pointer (some ⟨w.heap.size + 1, 0, none⟩)] A m c a ((w.alloc (.cells #[.slice B m d] 27)).alloc (.cells #[.int .i64 0] 2))
      (fun k wr => Blk wr w.heap.size 27 #[.slice B m d] ∧ Blk wr (w.heap.size + 1) 2 #[.int .i64 (sq2 (a.take k) (b.take k))] ∧ Below w.heap.size w wr)
      (fun _ => False) (enters_of Try.func50 (by kernel_rfl) rfl) hn HA.out
      (fun k wr _ h => ⟨lo, up, hR.below h.2.2 hup⟩)
      (by
        rintro k hk wr ⟨k1, k2, k3⟩
        have hkb : k < b.length := by omega
        have hR2 := hR'.below k3 hup'
        obtain ⟨q, off, rfl, _, _, hy⟩ := cells_at hR2 hkb
        have hs1 := sq2_nn (a.take k) (b.take k)
        have hs2 := sq2_le (a.take k) (b.take k) (fun x hx => a3 x (List.mem_of_mem_take hx)) (fun x hx => b3 x (List.mem_of_mem_take hx))
        have hlen : (a.take k).length ≤ 1024 := by rw [List.length_take]; omega
        refine (distStep w.heap.size (w.heap.size + 1) q off m d k a[k] b[k] _ wr (k1.cell 0) (by rw [← HB.out]; exact hkb) hy (k2.cell 0) (k2.frozen 0) (a3 _ (List.getElem_mem _)) (b3 _ (List.getElem_mem _)) hs1 (by omega)).mono ?_
        rintro e w' ⟨rfl, rfl⟩
        refine .inl ⟨rfl, k1.far (by simp) _, ?_, k3.setCell (by simp) _⟩
        have := k2.set 0 (.int .i64 (sq2 (a.take k) (b.take k) + (a[k] - b[k]) * (a[k] - b[k])))
        rw [sq2_take a b k hk hkb]
        exact this)
      ⟨(Blk.new _ _ _).alloc _, by simpa [sq2] using Blk.new (w.alloc (.cells #[.slice B m d] 27)) 2 #[.int .i64 0], (hb0.alloc (by simp) _)⟩)
    clear h0 c1 c2 c3 a1 a2 a3 b3
    go_enter Try.func16, Try.ntmps16
    go_wp2_with fail
    refine W1.out.mono ?_
    rintro e w1 ⟨rfl, rfl⟩
    go_wp2_with fail
    refine HT.out.mono ?_
    rintro e w1 (⟨rfl, k1, k2, k3⟩ | ⟨_, hF⟩)
    · have hc := k2.cell 0
      rw [List.take_of_length_le (by rw [HA.out]; exact Nat.le_refl _), List.take_of_length_le (by rw [HB.out]; exact Nat.le_refl _)] at hc
      have hc' : w1.cell? ⟨w.heap.size + 1, 0, none⟩ = some (.int .i64 (sq2 a b)) := hc
      go_wp2
      go_ret2
      exact ⟨by rw [HE.out, H0.out]; rfl, k3⟩
    · exact hF.elim
  · have HE : Hid (dd a b = 0) := hid (dd_no h0)
    have hb : (cp a b != 0) = true := by simpa using h0
    clear h0
    go_enter Try.func16, Try.ntmps16
    go_wp2_with fail
    refine W1.out.mono ?_
    rintro e w1 ⟨rfl, rfl⟩
    go_wp2
    go_ret2
    exact ⟨by rw [HE.out]; rfl, hb0⟩
end Go.Proofs.Ytcaleaecjoafhaa
