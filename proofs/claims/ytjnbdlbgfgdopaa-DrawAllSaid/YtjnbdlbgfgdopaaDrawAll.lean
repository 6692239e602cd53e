/-
  The walk of DrawAll: each row of unlike numbers is picked by some draws.
-/
import Derived.Test.YtjnbdlbgfgdopaaRowF
namespace Go.Proofs.Ytjnbdlbgfgdopaa
set_option maxRecDepth 40000
set_option linter.unusedVariables false
open Go.RowKit

theorem all_light (A B : Option Addr) (len cap blen bcap : Nat) (w : World) (h : len < 1 ∨ 60 < len ∨ 60 < blen) :
    Calls Try.prog 6 #[.slice A len cap, .slice B blen bcap] w fun e w' => e = .returned (.bool true) ∧ Below w.heap.size w w' := by
  have W0 := hid (lives_any w)
  by_cases h1 : len < 1
  · clear h
    have h2 : len = 0 := by omega
    subst h2
    go_enter Try.func6, Try.ntmps6
    go_wp2_with fail
    refine W0.out.mono ?_
    rintro e w0 ⟨rfl, hb0⟩
    go_wp2
    go_ret
    exact ⟨rfl, hb0⟩
  · by_cases h2 : 60 < len
    · clear h
      go_enter Try.func6, Try.ntmps6
      go_wp2_with fail
      refine W0.out.mono ?_
      rintro e w0 ⟨rfl, hb0⟩
      go_wp2
      go_ret
      exact ⟨rfl, hb0⟩
    · have h3 : 60 < blen := by omega
      clear h
      go_enter Try.func6, Try.ntmps6
      go_wp2_with fail
      refine W0.out.mono ?_
      rintro e w0 ⟨rfl, hb0⟩
      go_wp2
      go_ret
      exact ⟨rfl, hb0⟩
set_option maxHeartbeats 1600000 in
theorem all_walk (A B : Option Addr) (len cap blen bcap : Nat) (l b : List Int) (w : World) (h : Row w 0 w.heap.size A len (IK .i64 l)) (h' : Row w 0 w.heap.size B blen (IK .u64 b)) (hwf' : ∀ x ∈ b, 0 ≤ x ∧ x ≤ 18446744073709551615) :
    Calls Try.prog 6 #[.slice A len cap, .slice B blen bcap] w fun e w' => e = .returned (.bool true) ∧ Below w.heap.size w w' := by
  by_cases hl : len < 1 ∨ 60 < len ∨ 60 < blen
  · exact all_light A B len cap blen bcap w hl
  have W0 := hid (lives_any w)
  have hl1 : 1 ≤ len := by omega
  have hl2 : len ≤ 60 := by omega
  have hl3 : blen ≤ 60 := by omega
  have HLN : Hid (l.length = len) := by have := h.len; rwa [IK_len] at this
  have HBN : Hid (b.length = blen) := by have := h'.len; rwa [IK_len] at this
  have HWB := hid hwf'
  have mk : ∀ W : World, (Instr.makeSlice 22 (.int .i64 len) (.int .i64 len)).run Try.prog W = .ok (.slice (some ⟨W.heap.size, 0, none⟩) len len) (W.alloc (.cells (IK .i64 (List.replicate len 0)).toArray 3)) := fun W => make_any len len W (Nat.le_refl _) (by omega)
  clear hl hwf'
  go_enter Try.func6, Try.ntmps6
  go_wp2_with fail
  refine W0.out.mono ?_
  rintro e w0 ⟨rfl, hb0⟩
  have H0 := hid (h.below hb0 (Nat.le_refl _))
  have HT0 := hid (h'.below hb0 (Nat.le_refl _))
  have HB0 := hid hb0
  have hs0 := hb0.size
  clear h h' hb0
  go_wp2
  go_loopw [7] (fun v wr => ∃ i : Nat, i ≤ len ∧ v = .int .i64 i ∧ RF wr w0.heap.size len (wl l i 0) ∧ Below w0.heap.size w0 wr) (fun v _ => len - (intOf v).toNat)
  case atStart => exact ⟨0, Nat.zero_le _, rfl, (RF.new w0 len).congr (fun x _ => (wl_start l x).symm), (Below.refl _ _).alloc (Nat.le_refl _) _⟩
  case round =>
    obtain ⟨i, hi, rfl, hf, hb⟩ := hrel
    by_cases hlt : i < len
    · have HF := hid hf
      have HB := hid hb
      clear hf hb
      generalize wr = w1 at *
      go_wp2
      go_loopw [8] (fun v wr => ∃ k : Nat, k ≤ len ∧ v = .int .i64 k ∧ RF wr w0.heap.size len (wl l i k) ∧ Below w0.heap.size w0 wr) (fun v _ => len - (intOf v).toNat)
      case atStart => exact ⟨0, Nat.zero_le _, rfl, HF.out, HB.out⟩
      case round =>
        obtain ⟨k, hk, rfl, hf, hb⟩ := hrel
        by_cases hlk : k < len
        · have R0 := H0.out.below hb hs0
          have hil : i < l.length := by rw [HLN.out]; exact hlt
          have hkl : k < l.length := by rw [HLN.out]; exact hlk
          obtain ⟨b0, off, rfl, _, _, hc⟩ := cells_at R0 hil
          obtain ⟨b1, off1, e1, _, _, hck⟩ := cells_at R0 hkl
          injection e1 with e1
          injection e1 with e2 e3
          subst e2 e3
          have ec := hf.cell hlt
          rw [wl_here] at ec
          have efz := hf.frozen i
          have hset := fun q => (hf.drewN q).set i ((rk l i k : Int) + 1)
          have hrk := rk_le l i k
          have hbset : ∀ q, Below w0.heap.size w0 ((wr.drewN q).setCell ⟨w0.heap.size, i, none⟩ (.int .i64 ((rk l i k : Int) + 1))) := fun q => (below_drewN hb q).setCell (Nat.le_refl _) _
          have HS : Hid (bef l k i = true → ∀ q, RF ((wr.drewN q).setCell ⟨w0.heap.size, i, none⟩ (.int .i64 ((rk l i k : Int) + 1))) w0.heap.size len (wl l i (k + 1))) := fun hbf q => (hset q).congr fun x _ => wl_up hbf x
          have HN : Hid (bef l k i = false → ∀ q, RF (wr.drewN q) w0.heap.size len (wl l i (k + 1))) := fun hbf q => (hf.drewN q).congr fun x _ => wl_stay hbf x
          have HBS := hid hbset
          have HB2 := hid hb
          have eg1 : l.getD i 0 = l[i] := by rw [List.getD_eq_getElem?_getD, List.getElem?_eq_getElem hil]; rfl
          have eg2 : l.getD k 0 = l[k] := by rw [List.getD_eq_getElem?_getD, List.getElem?_eq_getElem hkl]; rfl
          have HBF : Hid (bef l k i = (decide (l[k] < l[i]) || (decide (l[k] = l[i]) && decide (k < i)))) := by unfold bef; rw [eg1, eg2]; exact rfl
          generalize l[i] = xi at *
          generalize l[k] = xk at *
          generalize rk l i k = r at *
          clear eg1 eg2 hset hbset hf hb R0
          by_cases c1 : xk < xi
          · have d1 : decide (xk < xi) = true := decide_eq_true c1
            have hbf : Hid (bef l k i = true) := by rw [HBF.out, d1]; exact rfl
            go_wp2
            go_quiet (fail)
            go_wp2
            exact ⟨⟨k + 1, by omega, by go_num, HS.out hbf.out nq, HBS.out nq⟩, by simp [intOf]; omega⟩
          · have d1 : decide (xk < xi) = false := decide_eq_false c1
            by_cases c2 : xk = xi
            · have d2 : (xk == xi) = true := by simp [c2]
              have c2h := hid c2
              by_cases c3 : k < i
              · have hbf : Hid (bef l k i = true) := by rw [HBF.out, c2]; simp [c3]; exact trivial
                have d3 : decide ((k : Int) < (i : Int)) = true := decide_eq_true (by omega)
                clear c2 c1
                go_wp2
                go_quiet (fail)
                go_wp2
                exact ⟨⟨k + 1, by omega, by go_num, HS.out hbf.out nq, HBS.out nq⟩, by simp [intOf]; omega⟩
              · have hbf : Hid (bef l k i = false) := by rw [HBF.out, c2]; simp [c3]; exact trivial
                have d3 : decide ((k : Int) < (i : Int)) = false := decide_eq_false (by omega)
                clear c2 c1
                go_wp2
                go_quiet (fail)
                go_wp2
                exact ⟨⟨k + 1, by omega, by go_num, HN.out hbf.out nq, below_drewN HB2.out nq⟩, by simp [intOf]; omega⟩
            · have d2 : (xk == xi) = false := by simp [c2]
              have hbf : Hid (bef l k i = false) := by rw [HBF.out]; simp [c1, c2]; exact trivial
              go_wp2
              go_quiet (fail)
              go_wp2
              exact ⟨⟨k + 1, by omega, by go_num, HN.out hbf.out nq, below_drewN HB2.out nq⟩, by simp [intOf]; omega⟩
        · obtain rfl : k = len := by omega
          have hf2 := hf.congr (f' := wl l (i + 1) 0) (fun x _ => by have h9 := wl_next l i x; rw [HLN.out] at h9; exact h9)
          have HF2 := hid hf2
          have HB2 := hid hb
          clear hf hf2 hb
          go_wp2
          exact ⟨⟨i + 1, by omega, by go_num, HF2.out, HB2.out⟩, by simp [intOf]; omega⟩
    · obtain rfl : i = len := by omega
      have hf2 := hf.congr (f' := fun x => (rank l x : Int)) (fun x hx => by have h9 := wl_end l x (by rw [HLN.out]; exact hx); rw [HLN.out] at h9; exact h9)
      have HF := hid hf2
      have HB := hid hb
      clear hf hf2 hb
      generalize wr = w1 at *
      have R0 := hid (HT0.out.below HB.out hs0)
      have hs1 := HB.out.size
      have hg1 := HF.out.lt
      clear H0 HT0
      go_wp2
      go_loopw [10] (fun v wr => ∃ k : Nat, k ≤ i ∧ v = .int .i64 k ∧ RF wr w1.heap.size i (fun x => if x < k then (x : Int) else 0) ∧ Below w1.heap.size w1 wr) (fun v _ => i - (intOf v).toNat)
      case atStart => exact ⟨0, Nat.zero_le _, rfl, (RF.new w1 i).congr (fun x _ => by simp), (Below.refl _ _).alloc (Nat.le_refl _) _⟩
      case round =>
        obtain ⟨k, hk, rfl, hf, hb⟩ := hrel
        by_cases hlk : k < i
        · have hc := hf.cell hlk
          have hfz := hf.frozen k
          have HS := hid ((hf.set k (k : Int)).congr (f' := fun x => if x < k + 1 then (x : Int) else 0) (fun x _ => by
            by_cases e : x = k
            · subst e; simp
            · simp only [if_neg e]
              by_cases h9 : x < k
              · rw [if_pos h9, if_pos (by omega)]
              · rw [if_neg h9, if_neg (by omega)]))
          have HBS : Hid (Below w1.heap.size w1 (wr.setCell ⟨w1.heap.size, k, none⟩ (.int .i64 (k : Int)))) := hb.setCell (Nat.le_refl _) _
          clear hf hb
          go_wp2
          exact ⟨⟨k + 1, by omega, by go_num, HS.out, HBS.out⟩, by simp [intOf]; omega⟩
        · obtain rfl : k = i := by omega
          have hf2 := hf.congr (f' := fun x => ((turn [] k 0 x : Nat) : Int)) (fun x hx => by simp only [if_pos hx]; rfl)
          have HRow := hid hf2
          have HBr := hid hb
          have HW : Hid (RF wr w0.heap.size k (fun x => (rank l x : Int))) := HF.out.below hb hg1
          clear hf hf2 hb
          generalize wr = w2 at *
          go_wp2
          go_loopw [11, 12] (fun v i wr => ∃ (ds : List Int) (p : Nat), p ≤ k ∧ i = .int .i64 p ∧ ds.length = p ∧ (∀ x ∈ ds, 0 ≤ x ∧ x ≤ 18446744073709551615) ∧ (∀ j, j < p → pk ds k j = rank l j) ∧ wr.ownsRow (w1.heap.size + 1) 27 1 v p (IK .u64 ds) ∧ RF wr w1.heap.size k (fun x => ((turn ds k p x : Nat) : Int)) ∧ Below w1.heap.size w1 wr) (fun _ v _ => k - (intOf v).toNat)
          case atStart => exact ⟨[], 0, Nat.zero_le _, rfl, rfl, (fun x hx => by cases hx), (fun j hj => by omega), World.ownsRow_nil _ _ _ _, HRow.out, HBr.out⟩
          case round =>
            obtain ⟨ds, p, hp, rfl, hdl, hdw, hpk, hown, hrow, hb⟩ := hrel
            by_cases hlp : p < k
            · have hkl : k = l.length := HLN.out.symm
              obtain ⟨x0, hx0, hxe⟩ := turn_onto (l := ds) (n := k) p hp (rank l p) (by have := rank_lt (l := l) (i := p) (by omega); omega)
              have hpx : p ≤ x0 := by
                rcases Nat.lt_or_ge x0 p with h9 | h9
                · exfalso
                  rw [turn_done h9, hpk x0 h9] at hxe
                  have := rank_inj (l := l) (by omega) (by omega) hxe
                  omega
                · exact h9
              have HX := hid (And.intro hx0 (And.intro hpx hxe))
              have HK := hid hkl
              have HDL := hid hdl
              have HDW := hid hdw
              have HPK := hid hpk
              have HO := hid hown
              have HR := hid hrow
              have HB3 := hid hb
              have HW3 := hid (HF.out.below hb hg1)
              clear hkl hx0 hpx hxe hdl hdw hpk hown hrow hb
              generalize wr = w3 at *
              go_wp2
              go_loopw [13] (fun v wr => ∃ a : Nat, v = .int .i64 a ∧ p ≤ a ∧ a < k ∧ (∀ y, p ≤ y → y < a → turn ds k p y ≠ rank l p) ∧ ∃ q, wr = w3.drewN q) (fun v _ => k - (intOf v).toNat)
              case atStart => exact ⟨p, rfl, Nat.le_refl _, hlp, (fun y h1 h2 => by omega), 0, rfl⟩
              case round =>
                obtain ⟨a, rfl, hpa, hak, hno, q, rfl⟩ := hrel
                have cw := HW3.out.cell hlp
                have cr := HR.out.cell hak
                have HNO := hid hno
                clear hno
                have HE : Hid (turn ds k p a = rank l p → p ≤ a ∧ a < k ∧ turn ds k p a = rank l p) := fun h9 => ⟨hpa, hak, h9⟩
                by_cases hne : turn ds k p a = rank l p
                · have hb9 : (((turn ds k p a : Nat) : Int) != ((rank l p : Nat) : Int)) = false := by rw [hne]; simp
                  have HNE := hid hne
                  clear hne
                  have hpa2 := hpa
                  have hak2 := hak
                  by_cases hpb : p < blen
                  · have hpbl : p < b.length := by rw [HBN.out]; exact hpb
                    obtain ⟨bb, off, rfl, _, _, hcb⟩ := cells_at ((R0.out.below HB3.out (Nat.le_trans hs0 hs1))) hpbl
                    have hx0 : 0 ≤ b[p] := (HWB.out _ (List.getElem_mem _)).1
                    obtain ⟨m, hm⟩ := Int.eq_ofNat_of_zero_le (Int.emod_nonneg b[p] (show (1099511627776 : Int) ≠ 0 by omega))
                    have hm1 : (m : Int) < 1099511627776 := by have := Int.emod_lt_of_pos b[p] (show (0 : Int) < 1099511627776 by omega); omega
                    have hmm : (b[p]).tmod 1099511627776 = (m : Int) := by rw [Int.tmod_eq_emod_of_nonneg hx0]; exact hm
                    generalize b[p] = bp at *
                    clear hm hx0
                    have hs3 := HB3.out.size
                    obtain ⟨z, hz⟩ : ∃ z, z = m * (k - p) := ⟨_, rfl⟩
                    have hz2 : (z : Int) ≤ 65970697666560 := by
                      have h1 : m * (k - p) ≤ m * 60 := Nat.mul_le_mul_left m (by omega)
                      rw [hz]
                      omega
                    have hmul : (m : Int) * ((k : Int) - (p : Int)) = (z : Int) := by
                      rw [hz, show (k : Int) - (p : Int) = ((k - p : Nat) : Int) by omega, ← Int.natCast_mul]
                    have hxx0 : a - p + z = a - p + m * (k - p) := by rw [hz]
                    obtain ⟨xx, hxx⟩ : ∃ xx, xx = a - p + z := ⟨_, rfl⟩
                    have hadd : (a : Int) - (p : Int) + (z : Int) = (xx : Int) := by omega
                    have HSO : Hid ((xx : Int) ≤ 18446744073709551615) := hid (by omega)
                    have HXX : Hid (xx = a - p + m * (k - p)) := hid (hxx.trans hxx0)
                    have hso : (xx : Int) ≤ 65970697666660 := by omega
                    have hso0 : (0 : Int) ≤ (xx : Int) := by omega
                    clear hz hxx hxx0
                    have one1 : ∀ u ∈ [Value.int .u64 (xx : Int)], u.oneCell' = true := by intro u hu; simp at hu; subst hu; rfl
                    obtain ⟨i0, hi0, hz0, hz1, hz9⟩ := info_parts infoU
                    go_wp2
                    go_quiet (fail)
                    go_wp2_with (at_builtin; go_loud (refine wpList_append_row _ rfl _ _ 28 rfl (w1.heap.size + 1) 27 i0 (.int .u64 0) 8 Try.underlying28 hi0 hz0 hz1 hz9 rfl u11 p (IK .u64 ds) rfl ((own_drewN HO.out _).alloc _) (w3.drewN (q + nq)).heap.size ((w3.drewN (q + nq)).heap.size + 1) (some ⟨(w3.drewN (q + nq)).heap.size, 0, none⟩) 1 1 rfl (fun e => by cases e) [.int .u64 (xx : Int)] (row_one (w3.drewN (q + nq)) _ _) one1 (by unfold maxLen; omega) (by omega) (by simp; have := HR.out.lt; omega) ?_); intro v5 w5 own5 grow5 at5)
                    have hb5 : Below w1.heap.size w1 w5 := ((below_drewN HB3.out _).alloc (by simp; have := HB3.out.size; omega) _).grown grow5 (by simp; have := HB3.out.size; omega) (fun g hg => by have := (HO.out.lt g hg).1; omega)
                    have hnb : some w1.heap.size ≠ u11.ownBlock := fun e => by have := (HO.out.lt _ e.symm).1; omega
                    have hr5 : RF w5 w1.heap.size k (fun x => ((turn ds k p x : Nat) : Int)) := ((HR.out.drewN _).alloc _).grown grow5 hnb
                    have own5 : w5.ownsRow (w1.heap.size + 1) 27 1 v5 (p + 1) (IK .u64 (ds ++ [(xx : Int)])) := by rw [IK_append]; exact own5
                    have hnv : v5.ownBlock ≠ some w1.heap.size := fun e => by have := (own5.lt _ e).1; omega
                    have l1 := hr5.cell hlp
                    have l2 := hr5.cell hak2
                    have f1 := hr5.frozen p
                    have f2 := hr5.frozen a
                    rw [HNE.out] at l2
                    have hg5 := hr5.lt
                    have ht1 : turn (ds ++ [(xx : Int)]) k (p + 1) = swp (turn ds k p) p a := by rw [HXX.out]; exact turn_last HDL.out hpa2 hak2
                    have ht2 : pk (ds ++ [(xx : Int)]) k p = rank l p := by rw [HXX.out]; exact (pk_last HDL.out hpa2 hak2).trans HNE.out
                    have HFin : Hid (∀ q, RF (((w5.drewN q).setCell ⟨w1.heap.size, p, none⟩ (.int .i64 ((rank l p : Nat) : Int))).setCell ⟨w1.heap.size, a, none⟩ (.int .i64 ((turn ds k p p : Nat) : Int))) w1.heap.size k (fun x => ((turn (ds ++ [(xx : Int)]) k (p + 1) x : Nat) : Int))) := fun q => (((hr5.drewN q).set p _).set a _).congr fun x hx => by
                      rw [ht1]
                      unfold swp
                      by_cases e1 : x = a
                      · rw [if_pos e1, if_pos e1]
                      · rw [if_neg e1, if_neg e1]
                        by_cases e2 : x = p
                        · rw [if_pos e2, if_pos e2, HNE.out]
                        · rw [if_neg e2, if_neg e2]
                    have HOw : Hid (∀ q, (((w5.drewN q).setCell ⟨w1.heap.size, p, none⟩ (.int .i64 ((rank l p : Nat) : Int))).setCell ⟨w1.heap.size, a, none⟩ (.int .i64 ((turn ds k p p : Nat) : Int))).ownsRow (w1.heap.size + 1) 27 1 v5 (p + 1) (IK .u64 (ds ++ [(xx : Int)]))) := fun q => ownsRow_setCell_other (ownsRow_setCell_other (own_drewN own5 q) hnv _) hnv _
                    have HBl : Hid (∀ q, Below w1.heap.size w1 (((w5.drewN q).setCell ⟨w1.heap.size, p, none⟩ (.int .i64 ((rank l p : Nat) : Int))).setCell ⟨w1.heap.size, a, none⟩ (.int .i64 ((turn ds k p p : Nat) : Int)))) := fun q => ((below_drewN hb5 q).setCell (Nat.le_refl _) _).setCell (Nat.le_refl _) _
                    have HPN : Hid (∀ j, j < p + 1 → pk (ds ++ [(xx : Int)]) k j = rank l j) := fun j hj => by
                      by_cases e : j = p
                      · rw [e]; exact ht2
                      · rw [pk_pre HDL.out (by omega)]; exact HPK.out j (by omega)
                    have HDN : Hid (∀ x ∈ ds ++ [(xx : Int)], 0 ≤ x ∧ x ≤ 18446744073709551615) := fun x hx => by
                      rcases List.mem_append.1 hx with h9 | h9
                      · exact HDW.out x h9
                      · rw [List.mem_singleton] at h9
                        rw [h9]
                        exact ⟨by omega, HSO.out⟩
                    have HLn : Hid ((ds ++ [(xx : Int)]).length = p + 1) := by rw [List.length_append, HDL.out]; exact rfl
                    have c1 := l1
                    obtain ⟨y3, l3⟩ : ∃ y3, (w5.setCell ⟨w1.heap.size, p, none⟩ (.int .i64 ((rank l p : Nat) : Int))).cell? ⟨w1.heap.size, a, none⟩ = some (.int .i64 y3) := ⟨_, (hr5.set p _).cell hak2⟩
                    generalize turn ds k p p = tp at *
                    generalize rank l p = tr at *
                    clear ht1 ht2 own5 grow5 at5 hb5 hr5 hnb hnv c1
                    go_wp2
                    go_region
                    go_wp2
                    exact ⟨⟨ds ++ [(xx : Int)], p + 1, by omega, by go_num, HLn.out, HDN.out, HPN.out, HOw.out 0, HFin.out 0, (HBl.out 0).drew⟩, by simp [intOf]; omega⟩
                  · obtain ⟨m, hm⟩ : ∃ m : Nat, m = 0 := ⟨0, rfl⟩
                    have hm1 : (m : Int) < 1099511627776 := by omega
                    have hm0 : (0 : Int) = (m : Int) := by omega
                    have hs3 := HB3.out.size
                    obtain ⟨z, hz⟩ : ∃ z, z = m * (k - p) := ⟨_, rfl⟩
                    have hz2 : (z : Int) ≤ 65970697666560 := by
                      have h1 : m * (k - p) ≤ m * 60 := Nat.mul_le_mul_left m (by omega)
                      rw [hz]
                      omega
                    have hmul : (0 : Int) * ((k : Int) - (p : Int)) = 0 := Int.zero_mul _
                    have hz0m : z = 0 := by rw [hz, hm, Nat.zero_mul]
                    have hxx0 : a - p + z = a - p + m * (k - p) := by rw [hz]
                    obtain ⟨xx, hxx⟩ : ∃ xx, xx = a - p + z := ⟨_, rfl⟩
                    have hadd : (a : Int) - (p : Int) = (xx : Int) := by omega
                    have HSO : Hid ((xx : Int) ≤ 18446744073709551615) := hid (by omega)
                    have HXX : Hid (xx = a - p + m * (k - p)) := hid (hxx.trans hxx0)
                    have hso : (xx : Int) ≤ 65970697666660 := by omega
                    have hso0 : (0 : Int) ≤ (xx : Int) := by omega
                    clear hz hxx hxx0 hm hm0 hz0m
                    have one1 : ∀ u ∈ [Value.int .u64 (xx : Int)], u.oneCell' = true := by intro u hu; simp at hu; subst hu; rfl
                    obtain ⟨i0, hi0, hz0, hz1, hz9⟩ := info_parts infoU
                    go_wp2
                    go_quiet (fail)
                    go_wp2_with (at_builtin; go_loud (refine wpList_append_row _ rfl _ _ 28 rfl (w1.heap.size + 1) 27 i0 (.int .u64 0) 8 Try.underlying28 hi0 hz0 hz1 hz9 rfl u11 p (IK .u64 ds) rfl ((own_drewN HO.out _).alloc _) (w3.drewN (q + nq)).heap.size ((w3.drewN (q + nq)).heap.size + 1) (some ⟨(w3.drewN (q + nq)).heap.size, 0, none⟩) 1 1 rfl (fun e => by cases e) [.int .u64 (xx : Int)] (row_one (w3.drewN (q + nq)) _ _) one1 (by unfold maxLen; omega) (by omega) (by simp; have := HR.out.lt; omega) ?_); intro v5 w5 own5 grow5 at5)
                    have hb5 : Below w1.heap.size w1 w5 := ((below_drewN HB3.out _).alloc (by simp; have := HB3.out.size; omega) _).grown grow5 (by simp; have := HB3.out.size; omega) (fun g hg => by have := (HO.out.lt g hg).1; omega)
                    have hnb : some w1.heap.size ≠ u11.ownBlock := fun e => by have := (HO.out.lt _ e.symm).1; omega
                    have hr5 : RF w5 w1.heap.size k (fun x => ((turn ds k p x : Nat) : Int)) := ((HR.out.drewN _).alloc _).grown grow5 hnb
                    have own5 : w5.ownsRow (w1.heap.size + 1) 27 1 v5 (p + 1) (IK .u64 (ds ++ [(xx : Int)])) := by rw [IK_append]; exact own5
                    have hnv : v5.ownBlock ≠ some w1.heap.size := fun e => by have := (own5.lt _ e).1; omega
                    have l1 := hr5.cell hlp
                    have l2 := hr5.cell hak2
                    have f1 := hr5.frozen p
                    have f2 := hr5.frozen a
                    rw [HNE.out] at l2
                    have hg5 := hr5.lt
                    have ht1 : turn (ds ++ [(xx : Int)]) k (p + 1) = swp (turn ds k p) p a := by rw [HXX.out]; exact turn_last HDL.out hpa2 hak2
                    have ht2 : pk (ds ++ [(xx : Int)]) k p = rank l p := by rw [HXX.out]; exact (pk_last HDL.out hpa2 hak2).trans HNE.out
                    have HFin : Hid (∀ q, RF (((w5.drewN q).setCell ⟨w1.heap.size, p, none⟩ (.int .i64 ((rank l p : Nat) : Int))).setCell ⟨w1.heap.size, a, none⟩ (.int .i64 ((turn ds k p p : Nat) : Int))) w1.heap.size k (fun x => ((turn (ds ++ [(xx : Int)]) k (p + 1) x : Nat) : Int))) := fun q => (((hr5.drewN q).set p _).set a _).congr fun x hx => by
                      rw [ht1]
                      unfold swp
                      by_cases e1 : x = a
                      · rw [if_pos e1, if_pos e1]
                      · rw [if_neg e1, if_neg e1]
                        by_cases e2 : x = p
                        · rw [if_pos e2, if_pos e2, HNE.out]
                        · rw [if_neg e2, if_neg e2]
                    have HOw : Hid (∀ q, (((w5.drewN q).setCell ⟨w1.heap.size, p, none⟩ (.int .i64 ((rank l p : Nat) : Int))).setCell ⟨w1.heap.size, a, none⟩ (.int .i64 ((turn ds k p p : Nat) : Int))).ownsRow (w1.heap.size + 1) 27 1 v5 (p + 1) (IK .u64 (ds ++ [(xx : Int)]))) := fun q => ownsRow_setCell_other (ownsRow_setCell_other (own_drewN own5 q) hnv _) hnv _
                    have HBl : Hid (∀ q, Below w1.heap.size w1 (((w5.drewN q).setCell ⟨w1.heap.size, p, none⟩ (.int .i64 ((rank l p : Nat) : Int))).setCell ⟨w1.heap.size, a, none⟩ (.int .i64 ((turn ds k p p : Nat) : Int)))) := fun q => ((below_drewN hb5 q).setCell (Nat.le_refl _) _).setCell (Nat.le_refl _) _
                    have HPN : Hid (∀ j, j < p + 1 → pk (ds ++ [(xx : Int)]) k j = rank l j) := fun j hj => by
                      by_cases e : j = p
                      · rw [e]; exact ht2
                      · rw [pk_pre HDL.out (by omega)]; exact HPK.out j (by omega)
                    have HDN : Hid (∀ x ∈ ds ++ [(xx : Int)], 0 ≤ x ∧ x ≤ 18446744073709551615) := fun x hx => by
                      rcases List.mem_append.1 hx with h9 | h9
                      · exact HDW.out x h9
                      · rw [List.mem_singleton] at h9
                        rw [h9]
                        exact ⟨by omega, HSO.out⟩
                    have HLn : Hid ((ds ++ [(xx : Int)]).length = p + 1) := by rw [List.length_append, HDL.out]; exact rfl
                    have c1 := l1
                    obtain ⟨y3, l3⟩ : ∃ y3, (w5.setCell ⟨w1.heap.size, p, none⟩ (.int .i64 ((rank l p : Nat) : Int))).cell? ⟨w1.heap.size, a, none⟩ = some (.int .i64 y3) := ⟨_, (hr5.set p _).cell hak2⟩
                    generalize turn ds k p p = tp at *
                    generalize rank l p = tr at *
                    clear ht1 ht2 own5 grow5 at5 hb5 hr5 hnb hnv c1
                    go_wp2
                    go_region
                    go_wp2
                    exact ⟨⟨ds ++ [(xx : Int)], p + 1, by omega, by go_num, HLn.out, HDN.out, HPN.out, HOw.out 0, HFin.out 0, (HBl.out 0).drew⟩, by simp [intOf]; omega⟩
                · have hb9 : (((turn ds k p a : Nat) : Int) != ((rank l p : Nat) : Int)) = true := by simp; omega
                  have ha2 : a + 1 < k ∧ (∀ y, p ≤ y → y < a + 1 → turn ds k p y ≠ rank l p) := by
                    refine ⟨?_, fun y h1 h2 => ?_⟩
                    · have h9 : x0 ≠ a := fun e => hne (by rw [← e]; exact HX.out.2.2)
                      have h10 : ¬ x0 < a := fun h => HNO.out x0 HX.out.2.1 h HX.out.2.2
                      have := HX.out.1
                      omega
                    · by_cases e : y = a
                      · rw [e]; exact hne
                      · exact HNO.out y h1 (by omega)
                  have HA2 := hid ha2.2
                  have ha3 := ha2.1
                  clear ha2 hne
                  go_wp2
                  go_quiet (fail)
                  go_wp2
                  exact ⟨⟨a + 1, by go_num, by omega, ha3, HA2.out, _, rfl⟩, by simp [intOf]; omega⟩
            · obtain rfl : p = k := by omega
              obtain ⟨A7, c7, rfl, _, _⟩ := own_shape hown
              have R7 := Row.of_own hown
              have hgl := hrow.lt
              have co := order_any A7 p c7 _ _ ds (p : Int) wr R7 (Nat.le_refl _) (by omega) hdw
              have e0 : pkI ds (p : Int) (p : Int) = (pks ds p p, 0) := by
                unfold pkI
                rw [if_neg (by omega), Int.toNat_natCast]
              rw [e0] at co
              have HEq : Hid (pks ds p p = (List.range p).map fun x => ((rank l x : Nat) : Int)) := by
                refine hid (List.map_congr_left fun x hx => ?_)
                have hx := List.mem_range.1 hx
                rw [Nat.mod_eq_of_lt hx, hpk x hx]
              have HWr := hid (HF.out.below hb hg1)
              have HBr9 := hid (HB0.out.trans ((HB.out.mono hs0).trans (hb.mono (Nat.le_trans hs0 hs1))))
              have hsz9 := hb.size
              clear hown hrow hb hdw hpk R7
              go_wp2_with fail
              refine co.mono ?_
              rintro e w8 ⟨A8, n8, c8, er, rfl, r1, r2, r3, r4, R8, hb8⟩
              have r1 := r1.out
              have r2 : 0 = er := r2.out
              subst r2
              have hn8 : n8 = p := by rw [← r1]; exact pks_len p
              subst hn8
              have RW := (HWr.out.below hb8 (by have := HWr.out.lt; omega)).row (lo := w0.heap.size) (Nat.le_refl _)
              have cs := sameI A8 (some ⟨w0.heap.size, 0, none⟩) n8 n8 c8 n8 _ _ _ _ _ _ w8 R8 RW (by omega)
              rw [show (pks ds n8 n8, (0 : Int)).1 = (List.range n8).map (fun x => ((rank l x : Nat) : Int)) from HEq.out, decide_eq_true rfl] at cs
              have HB8 := hid (HBr9.out.trans (hb8.mono HBr9.out.size))
              clear r1 R8 hb8 RW co
              go_wp2_with fail
              refine cs.mono ?_
              rintro e w9 ⟨rfl, q, rfl⟩
              go_wp2
              go_ret
              exact ⟨rfl, below_drewN HB8.out _⟩
end Go.Proofs.Ytjnbdlbgfgdopaa
