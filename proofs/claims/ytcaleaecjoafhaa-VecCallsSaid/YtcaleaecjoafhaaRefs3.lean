/-
  Contracts of the reference's Dist, Sub and Add of layer 3, whatever vectors come in.
-/
import Derived.Test.YtcaleaecjoafhaaJoined
import Derived.Deep.RegionLaw
import Derived.Deep.RegionHeld3
namespace Go.Proofs.Ytcaleaecjoafhaa
open Go.RowKit

set_option maxHeartbeats 1600000 in
theorem rdist_any (A B : Option Addr) (n m c d lo up lo' up' : Nat) (a b : List Int) (w : World) (hR : Row w lo up A n (IK .i32 a)) (hR' : Row w lo' up' B m (IK .i32 b)) (hn : n ≤ 9223372036854775807) (hm : m ≤ 9223372036854775807) :
    Calls Try.prog 17 #[.slice A n c, .slice B m d] w fun e w' => e = .returned (.tuple #[.int .i64 (dd a b), .int .i64 (cp a b)]) ∧ ∃ q, w' = w.drewN q := by
  have hl := hR.len
  have hl' := hR'.len
  rw [IK_len] at hl hl'
  have HA := hid hl
  have HB := hid hl'
  clear hl hl'
  have W1 := hid (both_any A B n m c d lo up lo' up' a b w hR hR' hn hm)
  by_cases h0 : cp a b = 0
  · obtain ⟨c1, c2, c3⟩ := cp_zero h0
    obtain ⟨a1, a2, a3⟩ := cw_zero c1
    obtain ⟨_, _, b3⟩ := cw_zero c2
    have HA3 := hid a3
    have HB3 := hid b3
    have HE : Hid (dd a b = sq2 a b) := hid (dd_ok h0)
    have H0 := hid h0
    rw [h0] at W1
    have hmn : m = n := by rw [← HA.out, ← HB.out, c3]
    subst hmn
    have hm1 : m ≤ 1024 := by rw [← HA.out]; exact a2
    clear h0 c1 c2 c3 a1 a2 a3 b3
    go_enter Try.func17, Try.ntmps17
    go_wp2_with fail
    refine W1.out.mono ?_
    rintro e w1 ⟨rfl, rfl⟩
    go_wp2
    go_loopw [7, 8] (fun s i wr => ∃ k : Nat, k ≤ m ∧ i = .int .i64 k ∧ s = .int .i64 (sq2 (a.take k) (b.take k)) ∧ ∃ q, wr = w.drewN q) (fun _ i _ => m - (intOf i).toNat)
    case atStart => exact ⟨0, Nat.zero_le _, rfl, by simp [sq2], 0, rfl⟩
    case round =>
      obtain ⟨k, hk, rfl, rfl, q, rfl⟩ := hrel
      have hs1 := sq2_nn (a.take k) (b.take k)
      have hs2 := sq2_le (a.take k) (b.take k) (fun x hx => HA3.out x (List.mem_of_mem_take hx)) (fun x hx => HB3.out x (List.mem_of_mem_take hx))
      have hlen : (a.take k).length ≤ 1024 := by rw [List.length_take, HA.out]; omega
      have hs3 : sq2 (a.take k) (b.take k) ≤ 70368744177664 := by omega
      clear hs2 hlen
      by_cases hlt : k < m
      · have hka : k < a.length := by rw [HA.out]; exact hlt
        have hkb : k < b.length := by rw [HB.out]; exact hlt
        obtain ⟨p, off, rfl, _, _, hx⟩ := cells_at hR hka
        obtain ⟨p', off', rfl, _, _, hy⟩ := cells_at hR' hkb
        have HT : Hid (sq2 (a.take (k + 1)) (b.take (k + 1)) = sq2 (a.take k) (b.take k) + (a[k] - b[k]) * (a[k] - b[k])) := hid (sq2_take a b k hka hkb)
        have bx := HA3.out a[k] (List.getElem_mem _)
        have bz := HB3.out b[k] (List.getElem_mem _)
        obtain ⟨q1, q2⟩ := dist_bounds bx bz
        obtain ⟨bx1, bx2⟩ := bx
        obtain ⟨by1, by2⟩ := bz
        have g1 : (w.drewN q).cell? ⟨p, off + k, none⟩ = some (.int .i32 a[k]) := hx
        have g2 : (w.drewN q).cell? ⟨p', off' + k, none⟩ = some (.int .i32 b[k]) := hy
        generalize a[k] = x at *
        generalize b[k] = y at *
        generalize sq2 (a.take k) (b.take k) = s at *
        go_wp2
        go_quiet (fail)
        go_wp2
        go_roundw
        case rel => exact ⟨k + 1, by omega, by go_num, by rw [HT.out], _, rfl⟩
        case measure => simp [intOf]; omega
      · obtain rfl : k = m := by omega
        have HS : Hid (sq2 (a.take k) (b.take k) = sq2 a b) := hid (by rw [List.take_of_length_le (by rw [HA.out]; exact Nat.le_refl _), List.take_of_length_le (by rw [HB.out]; exact Nat.le_refl _)])
        go_wp2
        go_ret2
        exact ⟨by rw [HE.out, H0.out, ← HS.out]; rfl, _, rfl⟩
  · have HE : Hid (dd a b = 0) := hid (dd_no h0)
    have hb : (cp a b != 0) = true := by simpa using h0
    clear h0
    go_enter Try.func17, Try.ntmps17
    go_wp2_with fail
    refine W1.out.mono ?_
    rintro e w1 ⟨rfl, rfl⟩
    go_wp2
    go_ret2
    exact ⟨by rw [HE.out]; rfl, 0, rfl⟩

theorem own_slice' {w : World} {base : Nat} {e : TypeId} {v : Value} {n : Nat} {xs : List Value} (h : w.ownsRow base e 1 v n xs) : ∃ A c, v = .slice A n c ∧ (A = none → c = 0) := by
  rcases h.2 with ⟨rfl, rfl⟩ | ⟨g, cap, cur, rfl, _, _, hc, _⟩
  · exact ⟨none, 0, rfl, fun _ => rfl⟩
  · exact ⟨_, cap, rfl, fun h => by cases h⟩
set_option maxHeartbeats 3200000 in
theorem rwith_any (t : Int) (ht : t = 1 ∨ t = -1) (A B : Option Addr) (n m c d lo up lo' up' : Nat) (a b : List Int) (w : World) (hR : Row w lo up A n (IK .i32 a)) (hR' : Row w lo' up' B m (IK .i32 b)) (hup : up ≤ w.heap.size) (hup' : up' ≤ w.heap.size) (hn : n ≤ 9223372036854775807) (hm : m ≤ 9223372036854775807) :
    Calls Try.prog 53 #[.slice A n c, .slice B m d, .int .i32 t] w (Owns .i32 21 w (mx t a b) (er t a b)) := by
  obtain ⟨i0, hi, hz0, hz1, hz2⟩ := info_parts info32
  have hl := hR.len
  have hl' := hR'.len
  rw [IK_len] at hl hl'
  have HA := hid hl
  have HB := hid hl'
  have HT1 := hid ht
  clear hl hl' ht
  have W1 := hid (both_any A B n m c d lo up lo' up' a b w hR hR' hn hm)
  by_cases h0 : cp a b = 0
  · obtain ⟨c1, c2, c3⟩ := cp_zero h0
    obtain ⟨a1, a2, a3⟩ := cw_zero c1
    obtain ⟨_, _, b3⟩ := cw_zero c2
    have HA3 := hid a3
    have HB3 := hid b3
    have HER : Hid (er t a b = cw (mix t a b)) := hid (by rw [er, if_pos h0])
    have HML : Hid ((mix t a b).length = n) := hid (by rw [mix_len t c3]; exact HA.out)
    rw [h0] at W1
    have hmn : m = n := by rw [← HA.out, ← HB.out, c3]
    subst hmn
    have hm1 : m ≤ 1024 := by rw [← HA.out]; exact a2
    clear h0 c1 c2 c3 a1 a2 a3 b3
    go_enter Try.func53, Try.ntmps53
    go_wp2_with fail
    refine W1.out.mono ?_
    rintro e w1 ⟨rfl, rfl⟩
    go_wp2
    go_loopw [9, 10] (fun v i wr => ∃ k : Nat, k ≤ m ∧ i = .int .i64 k ∧ wr.ownsRow w.heap.size 21 1 v k (IK .i32 ((mix t a b).take k)) ∧ Below w.heap.size w wr) (fun _ i _ => m - (intOf i).toNat)
    case atStart => exact ⟨0, Nat.zero_le _, rfl, World.ownsRow_nil _ _ _ _, Below.refl _ _⟩
    case round =>
      obtain ⟨k, hk, rfl, hown, hb⟩ := hrel
      have hsz := hb.size
      by_cases hlt : k < m
      · have hka : k < a.length := by rw [HA.out]; exact hlt
        have hkb : k < b.length := by rw [HB.out]; exact hlt
        obtain ⟨p, off, rfl, _, hpu, hx⟩ := cells_at (hR.below hb hup) hka
        obtain ⟨p', off', rfl, _, hpu', hy⟩ := cells_at (hR'.below hb hup') hkb
        have HI : Hid (IK .i32 ((mix t a b).take (k + 1)) = IK .i32 ((mix t a b).take k) ++ [.int .i32 (a[k] + t * b[k])]) := hid (by rw [mix_take t hka hkb, IK_append]; rfl)
        obtain ⟨bx1, bx2⟩ := HA3.out a[k] (List.getElem_mem _)
        obtain ⟨by1, by2⟩ := HB3.out b[k] (List.getElem_mem _)
        generalize a[k] = x at *
        generalize b[k] = y at *
        obtain ⟨z, hz⟩ : ∃ z, t * y = z := ⟨_, rfl⟩
        have z1 : -131072 ≤ z ∧ z ≤ 131072 := by rcases HT1.out with h | h <;> rw [h] at hz <;> omega
        obtain ⟨z1, z2⟩ := z1
        have q1 : IntKind.i32.wrap z = z := by simp [IntKind.wrap, IntKind.bits, IntKind.signed]; omega
        have q2 : IntKind.i32.wrap (x + z) = x + z := by simp [IntKind.wrap, IntKind.bits, IntKind.signed]; omega
        rw [hz] at HI
        go_wp2
        have np : some p ≠ u9.ownBlock := by intro h; have := (hown.lt p h.symm).1; omega
        have np' : some p' ≠ u9.ownBlock := by intro h; have := (hown.lt p' h.symm).1; omega
        have lp : p < wr.heap.size := by omega
        have lp' : p' < wr.heap.size := by omega
        have i1 : (0 : Int) ≤ (k : Int) := by omega
        have i2 : (k : Int) < (m : Int) := by omega
        have cx := World.cell?_alloc_lt wr (.cells #[.int .i32 (x + z)] 21) ⟨p, off + k, none⟩ lp
        have cy := World.cell?_alloc_lt wr (.cells #[.int .i32 (x + z)] 21) ⟨p', off' + k, none⟩ lp'
        have o1 : k + 1 ≤ maxLen := by unfold maxLen; omega
        have o2 : (k + 1) * 4 ≤ 140737488355328 := by omega
        have o3 : ∀ u ∈ [Value.int .i32 (x + z)], u.oneCell' = true := by intro u hu; simp at hu; subst hu; rfl
        go_region_held3 (fun w' => w'.cell? ⟨p, off + k, none⟩ = some (.int .i32 x) ∧ w'.cell? ⟨p', off' + k, none⟩ = some (.int .i32 y))
          (first | exact ⟨hx, hy⟩ | exact ⟨cx.trans hx, cy.trans hy⟩ | exact ⟨(hgrow3.cell_far _ (by simp; omega) np).trans (cx.trans hx), (hgrow3.cell_far _ (by simp; omega) np').trans (cy.trans hy)⟩)
          (first
            | (refine step_append_row _ rfl (.tmp 23) (.tmp 35) 27 rfl w.heap.size 21 i0 (.int .i32 0) 4 Try.underlying27 hi hz0 hz1 hz2 rfl u9 k (IK .i32 ((mix t a b).take k)) rfl (by exact hown.alloc _) wr.heap.size (wr.heap.size + 1) (some ⟨wr.heap.size, 0, none⟩) 1 1 rfl (by intro h; cases h) [.int .i32 (x + z)] (by exact row_one wr _ _) o3 o1 o2 (by exact Nat.le_trans hsz (by simp)) ?_; intro v3 w3 hown3 hgrow3 at3))
        have hgrow3 := only_undrew hgrow3
        have hb3 : Below w.heap.size w w3 := (hb.alloc hsz _).grown hgrow3 (by simp; omega) (fun g hg => (hown.lt g hg).1)
        rw [← HI.out] at hown3
        clear hgrow3 hown hb at3 cx cy np np' q1 q2
        go_wp2
        go_roundw
        case rel => exact ⟨k + 1, by omega, by go_num, hown3, hb3⟩
        case measure => simp [intOf]; omega
      · obtain rfl : k = m := by omega
        rw [List.take_of_length_le (by rw [HML.out]; exact Nat.le_refl _)] at hown
        obtain ⟨A4, c4, rfl, hA4⟩ := own_slice' hown
        have HA4 := hid hA4
        have r4 := Row.of_own hown
        have HO := hid hown
        clear hA4 hown
        by_cases he : cw (mix t a b) = 0
        · have HX : Hid (mx t a b = mix t a b) := hid (by rw [mx, HER.out, if_pos he])
          go_wp2_with fail
          refine (rcheckWide_any A4 k c4 _ _ (mix t a b) wr r4 (by omega)).mono ?_
          rintro e w5 ⟨rfl, rfl⟩
          rw [he]
          have HER' : Hid (er t a b = 0) := hid (by rw [HER.out, he])
          clear he HER
          go_wp2
          go_ret2
          rw [HER'.out, HX.out]
          exact ⟨A4, k, c4, rfl, HML, HA4, HO.out, hb⟩
        · have HX : Hid (mx t a b = []) := hid (by rw [mx, HER.out, if_neg he])
          have q1 : (cw (mix t a b) != 0) = true := by simpa using he
          clear he
          go_wp2_with fail
          refine (rcheckWide_any A4 k c4 _ _ (mix t a b) wr r4 (by omega)).mono ?_
          rintro e w5 ⟨rfl, rfl⟩
          go_wp2
          go_ret2
          rw [HER.out, HX.out]
          exact ⟨none, 0, 0, rfl, hid rfl, hid (fun _ => rfl), World.ownsRow_nil _ _ _ _, hb⟩
  · have HE : Hid (er t a b = cp a b) := hid (er_no h0)
    have hb : (cp a b != 0) = true := by simpa using h0
    have HX : Hid (mx t a b = []) := hid (by rw [mx, if_neg (by rw [HE.out]; exact h0)])
    clear h0
    go_enter Try.func53, Try.ntmps53
    go_wp2_with fail
    refine W1.out.mono ?_
    rintro e w1 ⟨rfl, rfl⟩
    go_wp2
    go_ret2
    rw [HE.out, HX.out]
    exact ⟨none, 0, 0, rfl, hid rfl, hid (fun _ => rfl), World.ownsRow_nil _ _ _ _, Below.refl _ _⟩
theorem rsub_any (A B : Option Addr) (n m c d lo up lo' up' : Nat) (a b : List Int) (w : World) (hR : Row w lo up A n (IK .i32 a)) (hR' : Row w lo' up' B m (IK .i32 b)) (hup : up ≤ w.heap.size) (hup' : up' ≤ w.heap.size) (hn : n ≤ 9223372036854775807) (hm : m ≤ 9223372036854775807) : Calls Try.prog 20 #[.slice A n c, .slice B m d] w (Owns .i32 21 w (mx (-1) a b) (er (-1) a b)) := by
  have HJ := hid (rwith_any (-1) (.inr rfl) A B n m c d lo up lo' up' a b w hR hR' hup hup' hn hm)
  go_enter Try.func20, Try.ntmps20
  go_wp2_with fail
  refine HJ.out.mono ?_
  rintro e w1 ⟨A', n', c', rfl, h1, h2, h3, h4⟩
  go_wp2
  go_ret2
  exact ⟨A', n', c', rfl, h1, h2, h3, h4⟩
theorem radd_any (A B : Option Addr) (n m c d lo up lo' up' : Nat) (a b : List Int) (w : World) (hR : Row w lo up A n (IK .i32 a)) (hR' : Row w lo' up' B m (IK .i32 b)) (hup : up ≤ w.heap.size) (hup' : up' ≤ w.heap.size) (hn : n ≤ 9223372036854775807) (hm : m ≤ 9223372036854775807) : Calls Try.prog 21 #[.slice A n c, .slice B m d] w (Owns .i32 21 w (mx 1 a b) (er 1 a b)) := by
  have HJ := hid (rwith_any 1 (.inl rfl) A B n m c d lo up lo' up' a b w hR hR' hup hup' hn hm)
  go_enter Try.func21, Try.ntmps21
  go_wp2_with fail
  refine HJ.out.mono ?_
  rintro e w1 ⟨A', n', c', rfl, h1, h2, h3, h4⟩
  go_wp2
  go_ret2
  exact ⟨A', n', c', rfl, h1, h2, h3, h4⟩
end Go.Proofs.Ytcaleaecjoafhaa
