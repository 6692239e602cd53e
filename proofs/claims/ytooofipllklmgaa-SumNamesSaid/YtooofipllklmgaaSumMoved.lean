/-
  Contracts of sum's aByte, moved, Join and Noughts, whatever words and numbers come in.
-/
import Derived.Test.YtooofipllklmgaaSumMat
namespace Go.Proofs.Ytooofipllklmgaa
open Go.RowKit Regs

theorem shl_two (k : Nat) (hk : k < 32) : (2 : Int) ^ k % 4294967296 = ((1#32 <<< k).toNat : Int) := by
  have : ∀ k : Fin 32, (2 : Int) ^ k.val % 4294967296 = ((1#32 <<< k.val).toNat : Int) := by decide
  exact this ⟨k, hk⟩
theorem mat_one : fillw (fun i => st (1#32 <<< i)) 32 = mat 1 := by rw [fillw_all]; rfl

set_option maxHeartbeats 1000000 in
theorem aByte_any (w : World) :
    Calls Try.prog 17 #[] w fun e w' => e = .returned (.agg (WC (mat 8))) ∧ Below w.heap.size w w' := by
  go_enter Try.func17, Try.ntmps17
  go_wp2_with fail
  go_loopw [2, 3] (fun _ i wr => ∃ k : Nat, k ≤ 32 ∧ i = .int .i64 k ∧ Blk wr w.heap.size 38 noughts ∧ Blk wr (w.heap.size + 1) 38 (WC (fillw (fun i => st (1#32 <<< i)) k)) ∧ Below w.heap.size w wr) (fun _ i _ => 32 - (intOf i).toNat)
  case atStart =>
    refine ⟨0, Nat.zero_le _, rfl, ?_, ?_, ((Below.refl _ _).alloc (Nat.le_refl _) _).alloc (by simp) _⟩
    · rw [noughts_eq]; exact Blk.alloc (Blk.new w _ _) _
    · rw [fillw_zero, noughts_eq]; simpa using Blk.new (w.alloc _) _ _
  case round =>
    obtain ⟨k, hk, rfl, b2, b3, hbel⟩ := hrel
    have B2 := hid b2
    have B3 := hid b3
    have BB := hid hbel
    clear b2 b3 hbel
    by_cases hlt : k < 32
    · obtain ⟨x, hx, hsh⟩ : ∃ x, Hid (x = 1#32 <<< k) ∧ (2 : Int) ^ k % 4294967296 = (x.toNat : Int) := ⟨_, hid rfl, shl_two k hlt⟩
      have W1 := hid (step_any x wr)
      have hcell := B3.out.cell k
      rw [wc_get _ k (by rw [fillw_len]; exact hlt)] at hcell
      have hfr := B3.out.frozen k
      go_wp2_with fail
      refine W1.out.mono ?_
      rintro e w1 ⟨rfl, rfl⟩
      go_wp2
      go_roundw
      case rel =>
        refine ⟨k + 1, by omega, by go_num, B2.out.far (by simp) _, ?_, BB.out.setCell (by simp) _⟩
        rw [← fillw_set, ← hx.out]
        exact B3.out.set k _
      case measure => simp [intOf]; omega
    · obtain rfl : k = 32 := by omega
      have HI : ∀ q, Hid ((Try.prog.info? 38).map (·.size) = some (WC (mat q)).size) := fun q => hid (by rw [wc_size, mat_len]; exact info_m)
      have b3 := B3.out
      rw [mat_one] at b3
      have C3 := hid b3
      clear b3
      have W1 := fun W => hid (square_any 1 W)
      have W2 := fun W => hid (square_any 2 W)
      have W4 := fun W => hid (square_any 4 W)
      go_wp2_with (refine wpList_load_row rfl 38 _ rfl (w.heap.size + 1) rfl 38 (WC (mat 1)) (0, 0) _ C3.out Try.underlying38 rfl (HI 1).out ?_)
      refine (W1 _).out.mono ?_
      rintro e w1 ⟨rfl, hb1⟩
      go_wp2_with fail
      refine (W2 _).out.mono ?_
      rintro e w2 ⟨rfl, hb2⟩
      go_wp2_with fail
      refine (W4 _).out.mono ?_
      rintro e w3 ⟨rfl, hb3⟩
      have hb : Below wr.heap.size wr w3 := (hb1.trans (hb2.mono hb1.size)).trans (hb3.mono (Nat.le_trans hb1.size hb2.size))
      have D2 := hid (B2.out.below hb B2.out.lt)
      have HB := hid hb
      clear hb1 hb2 hb3 hb
      go_wp2_with (refine store_all rfl rfl 38 _ _ rfl w.heap.size (WC (mat 8)) rfl rfl 38 noughts D2.out (HI 8).out (by rw [wc_size, mat_len]; rfl) (wc_one _) ?_)
      refine bodyPost_ret (v := .agg (WC (mat 8))) ?_ rfl ⟨rfl, ?_⟩
      · exact results_cell_row rfl _ _ w.heap.size 38 _ (0, 0) _ rfl (setRow_heap _ _ _ _ _ _ D2.out) Try.underlying38 rfl (HI 8).out
      · exact setRow_below (BB.out.trans (HB.out.mono BB.out.size)) (Nat.le_refl _) _

theorem and_one64 (m : Int) (h0 : 0 ≤ m) (h1 : m ≤ 9223372036854775807) : bits .and .i64 m 1 = m % 2 := by
  show IntKind.i64.wrap ((BitVec.ofInt 64 m &&& BitVec.ofInt 64 1).toNat : Int) = _
  rw [BitVec.toNat_and, show (BitVec.ofInt 64 1).toNat = 1 by decide, Nat.and_one_is_mod, BitVec.toNat_ofInt]
  simp [IntKind.wrap, IntKind.bits, IntKind.signed]
  omega

theorem halved_odd (q : Nat) (m : Int) (y : BitVec 32) (h : 0 < m) (ho : m % 2 = 1) : stn (2 * q * (m / 2).toNat) (stn q y) = stn (q * m.toNat) y := by
  rw [halves_odd q m.toNat y (by omega), show (m / 2).toNat = m.toNat / 2 by omega]
theorem halved_even (q : Nat) (m : Int) (y : BitVec 32) (h : 0 < m) (ho : ¬ m % 2 = 1) : stn (2 * q * (m / 2).toNat) y = stn (q * m.toNat) y := by
  rw [halves_even q m.toNat y (by omega), show (m / 2).toNat = m.toNat / 2 by omega]

set_option maxHeartbeats 1000000 in
theorem moved_any (r : BitVec 32) (n : Int) (w : World) (h0 : -9223372036854775808 ≤ n) (h1 : n ≤ 9223372036854775807) :
    Calls Try.prog 15 #[V r, .int .i64 n] w fun e w' => e = .returned (V (stn (8 * n.toNat) r)) ∧ Below w.heap.size w w' := by
  have HI : ∀ q, Hid ((Try.prog.info? 38).map (·.size) = some (WC (mat q)).size) := fun q => hid (by rw [wc_size, mat_len]; exact info_m)
  have W0 := hid (aByte_any w)
  go_enter Try.func15, Try.ntmps15
  go_wp2_with fail
  refine W0.out.mono ?_
  rintro e w1 ⟨rfl, hb1⟩
  have HB1 := hid hb1
  clear hb1
  go_wp2_with (refine store_all rfl rfl 38 _ _ rfl w1.heap.size (WC (mat 8)) rfl rfl 38 _ (Blk.new w1 _ _) (HI 8).out (by rw [wc_size, mat_len]; rfl) (wc_one _) ?_)
  go_loopw [0, 1, 5] (fun x i p wr => ∃ (y : BitVec 32) (m : Int) (q g : Nat), x = V y ∧ i = .int .i64 m ∧ p = .pointer (some ⟨g, 0, none⟩) ∧ -9223372036854775808 ≤ m ∧ m ≤ 9223372036854775807 ∧ stn (q * m.toNat) y = stn (8 * n.toNat) r ∧ w.heap.size ≤ g ∧ Blk wr g 38 (WC (mat q)) ∧ Below w.heap.size w wr) (fun _ i _ _ => (intOf i).toNat)
  case atStart =>
    exact ⟨r, n, 8, w1.heap.size, rfl, rfl, rfl, h0, h1, rfl, HB1.out.size, setRow_heap _ _ _ _ _ _ (Blk.new w1 _ _), setRow_below (HB1.out.alloc HB1.out.size _) HB1.out.size _⟩
  case round =>
    obtain ⟨y, m, q, g, rfl, rfl, rfl, hm0, hm1, hst, hg, b, hbel⟩ := hrel
    have B := hid b
    have BB := hid hbel
    have HS := hid hst
    clear b hbel hst
    by_cases hpos : 0 < m
    · have hand := and_one64 m (by omega) hm1
      by_cases hodd : m % 2 = 1
      · have HO := hid hodd
        have hb : (m % 2 == 1) = true := by simpa using hodd
        clear hodd
        have W1 := hid (of_any (mat q) y wr (mat_len q))
        have HT := hid (tms_stn' (mx (mat q)) q y (fun i hi => by simp [mx, mat, hi]))
        go_wp2_with (refine wpList_load_row rfl 38 _ rfl g rfl 38 (WC (mat q)) (0, 0) _ B.out Try.underlying38 rfl (HI q).out ?_)
        refine W1.out.mono ?_
        rintro e W ⟨rfl, hb2⟩
        rw [HT.out]
        have C := hid (B.out.below hb2 B.out.lt)
        have BB' := hid (BB.out.trans (hb2.mono BB.out.size))
        clear hb2
        have W2 := hid (square_any q W)
        go_wp2_with (refine wpList_load_row rfl 38 _ rfl g rfl 38 (WC (mat q)) (0, 0) _ C.out Try.underlying38 rfl (HI q).out ?_)
        refine W2.out.mono ?_
        rintro e w3 ⟨rfl, hb3⟩
        have HB3 := hid hb3
        clear hb3
        have D := hid (C.out.below HB3.out C.out.lt)
        have E0 : Blk (w3.setRow g (WC (mat (2 * q)))) g 38 (WC (mat (2 * q))) := setRow_heap _ _ _ _ _ _ D.out
        have E := hid E0
        clear E0
        go_wp2_with (first | refine store_all rfl rfl 38 _ _ rfl g (WC (mat (2 * q))) rfl rfl 38 (WC (mat q)) D.out (HI (2 * q)).out (by rw [wc_size, wc_size, mat_len, mat_len]) (wc_one _) ?_ | refine wpList_load_row rfl 38 _ rfl g rfl 38 (WC (mat (2 * q))) (0, 0) _ E.out Try.underlying38 rfl (HI (2 * q)).out ?_ | refine store_all rfl rfl 38 _ _ rfl w3.heap.size (WC (mat (2 * q))) rfl rfl 38 _ (new_setRow _ _ _ _ _) (HI (2 * q)).out (by rw [wc_size, mat_len]; rfl) (wc_one _) ?_)
        refine ⟨⟨stn q y, m / 2, 2 * q, w3.heap.size, rfl, rfl, rfl, by omega, by omega, ?_, Nat.le_trans BB'.out.size HB3.out.size, ?_, ?_⟩, by simp [intOf]; omega⟩
        · rw [← HS.out]; exact halved_odd q m y hpos HO.out
        · exact setRow_heap _ _ _ _ _ _ (new_setRow _ _ _ _ _)
        · exact setRow_below ((setRow_below (BB'.out.trans (HB3.out.mono BB'.out.size)) hg _).alloc (by rw [setRow_size]; exact Nat.le_trans BB'.out.size HB3.out.size) _) (Nat.le_trans BB'.out.size HB3.out.size) _
      · have HO := hid hodd
        have hb : (m % 2 == 1) = false := by simpa using hodd
        clear hodd
        obtain ⟨W, hW⟩ : ∃ W, W = wr := ⟨_, rfl⟩
        subst hW
        have C := B
        have BB' := BB
        have W2 := hid (square_any q W)
        go_wp2_with (refine wpList_load_row rfl 38 _ rfl g rfl 38 (WC (mat q)) (0, 0) _ C.out Try.underlying38 rfl (HI q).out ?_)
        refine W2.out.mono ?_
        rintro e w3 ⟨rfl, hb3⟩
        have HB3 := hid hb3
        clear hb3
        have D := hid (C.out.below HB3.out C.out.lt)
        have E0 : Blk (w3.setRow g (WC (mat (2 * q)))) g 38 (WC (mat (2 * q))) := setRow_heap _ _ _ _ _ _ D.out
        have E := hid E0
        clear E0
        go_wp2_with (first | refine store_all rfl rfl 38 _ _ rfl g (WC (mat (2 * q))) rfl rfl 38 (WC (mat q)) D.out (HI (2 * q)).out (by rw [wc_size, wc_size, mat_len, mat_len]) (wc_one _) ?_ | refine wpList_load_row rfl 38 _ rfl g rfl 38 (WC (mat (2 * q))) (0, 0) _ E.out Try.underlying38 rfl (HI (2 * q)).out ?_ | refine store_all rfl rfl 38 _ _ rfl w3.heap.size (WC (mat (2 * q))) rfl rfl 38 _ (new_setRow _ _ _ _ _) (HI (2 * q)).out (by rw [wc_size, mat_len]; rfl) (wc_one _) ?_)
        refine ⟨⟨y, m / 2, 2 * q, w3.heap.size, rfl, rfl, rfl, by omega, by omega, ?_, Nat.le_trans BB'.out.size HB3.out.size, ?_, ?_⟩, by simp [intOf]; omega⟩
        · rw [← HS.out]; exact halved_even q m y hpos HO.out
        · exact setRow_heap _ _ _ _ _ _ (new_setRow _ _ _ _ _)
        · exact setRow_below ((setRow_below (BB'.out.trans (HB3.out.mono BB'.out.size)) hg _).alloc (by rw [setRow_size]; exact Nat.le_trans BB'.out.size HB3.out.size) _) (Nat.le_trans BB'.out.size HB3.out.size) _
    · go_wp2_with fail
      go_ret
      refine ⟨?_, BB.out⟩
      have h2 : m.toNat = 0 := by omega
      have h3 := HS.out
      rw [h2, Nat.mul_zero] at h3
      rw [← h3]
      rfl
theorem join_any (a b : BitVec 32) (n : Int) (w : World) (h0 : -9223372036854775808 ≤ n) (h1 : n ≤ 9223372036854775807) :
    Calls Try.prog 9 #[V a, V b, .int .i64 n] w fun e w' => e = .returned (V (if n < 1 then a else stn (8 * n.toNat) a ^^^ b)) ∧ Below w.heap.size w w' := by
  have W1 := hid (moved_any a n w h0 h1)
  by_cases hn : n < 1
  · rw [if_pos hn]
    go_enter Try.func9, Try.ntmps9
    go_wp2_with fail
    go_ret
    exact ⟨rfl, Below.refl _ _⟩
  · rw [if_neg hn]
    go_enter Try.func9, Try.ntmps9
    go_wp2_with fail
    refine W1.out.mono ?_
    rintro e w1 ⟨rfl, hb⟩
    go_wp2_with fail
    go_ret
    exact ⟨by rw [xor_word]; rfl, hb⟩

theorem nought_any (s : BitVec 32) (n : Int) (w : World) (h0 : -9223372036854775808 ≤ n) (h1 : n ≤ 9223372036854775807) :
    Calls Try.prog 10 #[V s, .int .i64 n] w fun e w' => e = .returned (V (~~~ (stn (8 * n.toNat) (~~~ s)))) ∧ Below w.heap.size w w' := by
  have hnot := not_word s
  obtain ⟨x, hx⟩ : ∃ x, x = ~~~ s := ⟨_, rfl⟩
  rw [← hx] at hnot ⊢
  have W1 := hid (moved_any x n w h0 h1)
  clear hx
  go_enter Try.func10, Try.ntmps10
  go_wp2_with fail
  refine W1.out.mono ?_
  rintro e w1 ⟨rfl, hb⟩
  go_wp2_with fail
  go_ret
  exact ⟨by rw [not_word]; rfl, hb⟩
end Go.Proofs.Ytooofipllklmgaa
