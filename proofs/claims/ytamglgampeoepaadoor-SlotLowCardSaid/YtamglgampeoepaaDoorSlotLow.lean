/-
  The walk of SlotLow.
-/
import Derived.Test.YtamglgampeoepaaDoorLowMath
namespace Go.Proofs.YtamglgampeoepaaDoor
set_option maxRecDepth 40000
open Go.RowKit Go.Joins

theorem own_low {w : World} {base base' : Nat} {e : TypeId} {size : Nat} {v : Value} {n : Nat} {xs : List Value} (h : w.ownsRow base e size v n xs) (hb : base' ≤ base) : w.ownsRow base' e size v n xs :=
  ⟨h.1, h.2.imp id fun ⟨g, cap, cur, h1, h2, h3⟩ => ⟨g, cap, cur, h1, Nat.le_trans hb h2, h3⟩⟩
theorem un_drew {B : Nat} {a b : World} (h : Below B a.drew b) : Below B a b := ⟨h.os, h.tape, h.output, h.size, h.block⟩
/-- What is carried from round to round. -/
structure LS (w W : World) (g g' r : Nat) (F F' : List Nat) (st st' : Sts) (th : Value) (L : List Int) : Prop where
  a : Sl w W g F ⟨2, r, st, []⟩
  b : Sl w W g' F' ⟨1, r, st', []⟩
  ab : ∀ x ∈ F, x ∉ F'
  ro : W.ownsRow w.heap.size 3 1 th L.length (IK .i64 L)
  ra : ∀ x, th.ownBlock = some x → x ∉ F ∧ x ∉ F'
  al : Alike st st' L
section
variable {w W W' : World} {g g' r m z : Nat} {F F' : List Nat} {st st' : Sts} {th : Value} {L : List Int} {C : Option Addr} {cc : Nat} {x : Int}
theorem LS.below (h : LS w W g g' r F F' st st' th L) (hb : Below W.heap.size W W') : LS w W' g g' r F F' st st' th L :=
  ⟨h.a.then hb, h.b.then hb, h.ab, own_touched h.ro (touch_below hb []) (fun _ _ hx => by cases hx), h.ra, h.al⟩
theorem LS.cell (h : LS w W g g' r F F' st st' (.slice C m cc) L) (hm : L.length = m) (hz : z < L.length) (hx : L[z] = x) : ∃ b5, C = some ⟨b5, 0, none⟩ ∧ W.cell? ⟨b5, z, none⟩ = some (.int .i64 x) ∧ b5 < W.heap.size ∧ b5 ∉ F ∧ b5 ∉ F' := by
  have hro := h.ro
  rcases hro.2 with ⟨hv, h0⟩ | ⟨b5, cap, cur, hv, _⟩
  · omega
  · injection hv with hA
    have hc := hro.cells (g := b5) (by rw [hA]; rfl) z (.int .i64 x) (by simp [IK, List.getElem?_eq_getElem hz, hx])
    rw [addr_add, Nat.zero_add] at hc
    have hr := h.ra b5 (by rw [hA]; rfl)
    exact ⟨b5, hA, hc, World.block_lt_of_cell? W _ hc, hr.1, hr.2⟩
end
set_option maxRecDepth 40000 in
set_option maxHeartbeats 12000000 in
theorem slotLow_walk (r0 : Int) (A : Option Addr) (n c : Nat) (l : List Int) (w : World) (hT : Tab w) (hR : Row w 0 w.heap.size A n (IK .i64 l)) :
    Calls Tryd.prog 5 #[.int .i64 r0, .slice A n c] w fun e w' => e = .returned (.bool true) ∧ Below w.heap.size w w' := by
  have LV := hid (lives9_any w hT)
  have HT0 := hid hT
  have HR := hid hR
  obtain ⟨r, HK, hk⟩ : ∃ r : Nat, Hid (r0 % 40 = (r : Int)) ∧ r < 40 := ⟨(r0 % 40).toNat, hid (by omega), by omega⟩
  clear hT hR
  obtain ⟨i0, hi, hz0, hz1, hz2⟩ := info_parts info64
  go_enter Tryd.func5, Tryd.ntmps5
  go_wp2_with fail
  refine LV.out.mono ?_
  rintro e w1 ⟨rfl, hb1⟩
  have HB1 := hid hb1
  have HT := hid (HT0.out.below hb1)
  clear hb1 LV
  by_cases hlen : 100 < n
  · go_wp2
    go_ret
    exact ⟨rfl, HB1.out⟩
  · go_wp2_with fail
    refine (pick_at r0 40 (r : Int) _ (by omega) (by omega) HK.out).mono ?_
    rintro e w2 ⟨rfl, rfl⟩
    have NA := hid (new_ok 2 (1 + r) w1 (by omega) (by omega))
    rw [show ((1 + r : Nat) : Int) = 1 + (r : Int) by omega] at NA
    go_wp2_with fail
    refine NA.out.mono ?_
    rintro e w3 ⟨g, rfl, hS, hg, hb⟩
    have LA : Sl w1 w3 g [g] ⟨2, 1 + r, [], []⟩ := ⟨hS, fun b hb => by rw [List.mem_singleton] at hb; rw [hb]; exact hg, hb⟩
    have HLA := hid LA
    have NB := hid (new_ok 1 (1 + r) w3 (by omega) (by omega))
    rw [show ((1 + r : Nat) : Int) = 1 + (r : Int) by omega] at NB
    clear NA LA hS hg hb
    go_wp2_with fail
    refine NB.out.mono ?_
    rintro e w4 ⟨g', rfl, hS, hg, hb⟩
    have LB : Sl w1 w4 g' [g'] ⟨1, 1 + r, [], []⟩ := ⟨hS, fun b hx => by rw [List.mem_singleton] at hx; rw [hx]; exact Nat.le_trans HLA.out.below.size hg, (HLA.out.then hb).below⟩
    have HAB : Hid (∀ x ∈ [g], x ∉ [g']) := hid fun x hx hy => by
      rw [List.mem_singleton] at hx hy
      have := HLA.out.at_.lt x (by rw [hx]; exact List.mem_singleton.2 rfl)
      omega
    have HS : Hid (LS w1 w4 g g' (1 + r) [g] [g'] [] [] (.slice none 0 0) []) := hid ⟨HLA.out.then hb, LB, HAB.out, World.ownsRow_nil w4 w1.heap.size _ 1, fun x hx => (by cases hx), alike_nil⟩
    clear NB LB hS hg hb HLA HAB
    go_wp2
    go_loopw [9, 10, 11] (fun gr th i wr => ∃ (k m q : Nat) (F F' : List Nat) (st st' : Sts) (L : List Int) (C : Option Addr) (cc : Nat), k ≤ n ∧ i = .int .i64 (k : Int) ∧ gr = .int .i64 (q : Int) ∧ th = .slice C m cc ∧ m ≤ q ∧ q ≤ k ∧ Hid (L.length = m ∧ LS w1 wr g g' (1 + r) F F' st st' (.slice C m cc) L)) (fun _ _ i _ => n - (intOf i).toNat)
    case atStart => exact ⟨0, 0, 0, _, _, _, _, [], none, 0, Nat.zero_le _, rfl, rfl, rfl, Nat.le_refl _, Nat.le_refl _, hid ⟨rfl, HS.out⟩⟩
    case round =>
      clear HS
      obtain ⟨k, m, q, F, F', st, st', L, C, cc, hk2, rfl, rfl, rfl, hmq, hqk, HS⟩ := hrel
      by_cases hlt : k < n
      · obtain ⟨b, off, rfl, _, hb, hc⟩ := cells_at HR.out (k := k) (by have := HR.out.len; rw [IK_len] at this; omega)
        obtain ⟨x, hx⟩ : ∃ x, x = l[k]'(by have := HR.out.len; rw [IK_len] at this; omega) := ⟨_, rfl⟩
        rw [← hx] at hc
        have cx : wr.cell? ⟨b, off + k, none⟩ = some (.int .i64 x) := ((HB1.out.trans (HS.out.2.a.below.mono HB1.out.size)).cell hb).trans hc
        clear hx hc
        by_cases h3 : ¬ x.tmod 2 = 0 ∧ ¬ m = 0
        · obtain ⟨he, hm⟩ := h3
          have hmf : ((m : Int) == 0) = false := by simp; omega
          obtain ⟨z, hz, hzm⟩ : ∃ z : Nat, x % (m : Int) = (z : Int) ∧ z < m := by
            have h1 := Int.emod_nonneg x (show (m : Int) ≠ 0 by omega)
            have h2 := Int.emod_lt_of_pos x (show 0 < (m : Int) by omega)
            exact ⟨(x % (m : Int)).toNat, by omega, by omega⟩
          have PK := hid (pick_at x (m : Int) (z : Int) wr (by omega) (by omega) hz)
          clear hz
          go_wp2_with fail
          refine PK.out.mono ?_
          rintro e w5 ⟨rfl, rfl⟩
          obtain ⟨p, hp, hp1, hp2⟩ := HS.out.2.al.at_ (k := z) (by have := HS.out.1; omega)
          have HP := hid hp
          have FA := hid (sl_free HS.out.2.a p hp1)
          obtain ⟨b5, rfl, c5, hb5, hn1, hn2⟩ := HS.out.2.cell HS.out.1 (z := z) (by have := HS.out.1; omega) HP.out
          have hz9 : (z : Int) < (m : Int) := by omega
          have HN1 := hid hn1
          have HN2 := hid hn2
          clear PK hn1 hn2
          go_wp2_with fail
          refine FA.out.mono ?_
          rintro e w6 ⟨rfl, F6, L6, T6, hF6⟩
          have c6 := (World.cell?_of_block (T6.block b5 hb5 HN1.out)).trans c5
          have hb6 := Nat.lt_of_lt_of_le hb5 T6.size
          have FB := hid (sl_free (sl_beside HS.out.2.b T6 (fun b hb hx => HS.out.2.ab b hx hb) HS.out.2.a.new) p hp2)
          have HL6 := hid L6
          have HT6 := hid T6
          have HF6 := hid hF6
          clear FA L6 T6 hF6
          go_wp2_with fail
          refine FB.out.mono ?_
          rintro e w7 ⟨rfl, F7, L7, T7, hF7⟩
          have c7 := (World.cell?_of_block (T7.block b5 hb6 HN2.out)).trans c6
          have LA7 := sl_beside HL6.out T7 (fun b hb hx => by
            rcases HF6.out b hb with h | h
            · exact HS.out.2.ab b h hx
            · have := HS.out.2.b.at_.lt b hx; omega) HS.out.2.b.new
          have FN := hid (free_no LA7.at_ (p : Int) (by have h1 := has_lt hp1; have h2 := HS.out.2.a.at_.fit.wide; simp only at h2; omega) freed_no)
          have HLA7 := hid LA7
          have HL7 := hid L7
          have HT7 := hid T7
          have HF7 := hid hF7
          clear FB L7 T7 hF7 LA7
          go_wp2_with fail
          refine FN.out.mono ?_
          rintro e w8 ⟨rfl, k8, rfl⟩
          obtain ⟨w8, hw8⟩ : ∃ w8, w8 = w7.drewN k8 := ⟨_, rfl⟩
          have HA8 : Hid (Sl w1 w8 g F6 ⟨2, 1 + r, freeS st p, []⟩) := hid (by rw [hw8]; exact HLA7.out.draws k8)
          have HB8 : Hid (Sl w1 w8 g' F7 ⟨1, 1 + r, freeS st' p, []⟩) := hid (by rw [hw8]; exact HL7.out.draws k8)
          have ro7 := own_touched (own_touched HS.out.2.ro HT6.out (fun e he => (HS.out.2.ra e he).1)) HT7.out (fun e he => (HS.out.2.ra e he).2)
          have HO8 : Hid (w8.ownsRow w1.heap.size 3 1 (.slice (some ⟨b5, 0, none⟩) m cc) L.length (IK .i64 L)) := hid (by rw [hw8]; exact ro7)
          have hF7' : ∀ x ∈ F7, x ∈ F' ∨ w6.heap.size ≤ x := HF7.out
          have HAB8 : Hid (∀ x ∈ F6, x ∉ F7) := hid fun x hx hy => by
            have h6 := HL6.out.at_.lt x hx
            rcases hF7' x hy with h | h
            · rcases HF6.out x hx with h1 | h1
              · exact HS.out.2.ab x h1 h
              · have := HS.out.2.b.at_.lt x h; omega
            · omega
          rw [← hw8]
          have hmc : m ≤ cc := by obtain ⟨_, _, h1, _, h2⟩ := own_shape' HS.out.2.ro; injection h1 with h3 h4 h5; have := HS.out.1; omega
          have hcc : cc ≤ 9223372036854775807 := by
            rcases HS.out.2.ro.2 with ⟨hv, h0⟩ | ⟨b6, cap, cur, hv, _, _, hc, hm, _⟩
            · cases hv
            · injection hv with h3 h4 h5; unfold maxLen at hm; omega
          have HMC := hid hmc
          clear ro7 hF7' hw8 c5 c6 c7
          go_wp2
          have hlm := HS.out.1
          have R1 : Row w8 w1.heap.size w8.heap.size (some ⟨b5, 0, none⟩) m (IK .i64 L) := by
            have h := HO8.out
            rw [hlm] at h
            exact Row.of_own h
          obtain ⟨z1, hz1⟩ : ∃ z1, z1 = z + 1 := ⟨_, rfl⟩
          have RT := hid (R1.take (k := z) (by omega))
          have RD := hid (R1.drop (k := z1) (cap := cc) (by omega) hmc)
          rw [show (IK .i64 L).take z = IK .i64 (L.take z) by simp [IK, List.map_take]] at RT
          rw [show (IK .i64 L).drop z1 = IK .i64 (L.drop z1) by simp [IK, List.map_drop]] at RD
          have hs18 := HA8.out.below.size
          have j0 : (0 : Int) ≤ (z : Int) := by omega
          have j1 : (z : Int) ≤ (cc : Int) := by omega
          have j9 : (0 : Int) ≤ (z1 : Int) := by omega
          have j2 : (z1 : Int) ≤ (m : Int) := by omega
          have j10 : (z1 : Int) ≤ (cc : Int) := by omega
          have j3 : (m : Int) ≤ (cc : Int) := by omega
          have o1 : z + (m - z1) ≤ maxLen := by unfold maxLen; omega
          have o2 : (z + (m - z1)) * 8 ≤ 140737488355328 := by omega
          have hl9 : Hid ((L.take z).length = z) := hid (by rw [List.length_take]; omega)
          have n1 : z ≤ m := by omega
          have n2 : z1 ≤ m := by omega
          have n3 : z ≤ cc := by omega
          have n4 : z1 ≤ cc := by omega
          have n5 : z ≤ 1000000 := by omega
          have k1 : z < 9223372036854775807 := by omega
          have k2 : z ≤ 9223372036854775807 := by omega
          have k3 : m ≤ 9223372036854775807 := by omega
          have k4 : z1 ≤ 9223372036854775807 := by omega
          have J4 := hid (wrap64_next k1)
          have J5 := hid (wrap_next k1)
          rw [show (z : Int) + 1 = (z1 : Int) by omega] at J4 J5
          have J6 := hid (wrap_nat k2)
          have J7 := hid (wrap_nat k3)
          have J8 := hid (wrap_nat hcc)
          have J10 : Hid ((z : Int) + 1 = (z1 : Int)) := hid (by omega)
          have HZ1 := hid hz1
          clear hz1
          clear R1 hlm
          have FIN : Hid (∀ (v10 : Value) (w9 w10 : World) (A9 : Option Addr) (c9 : Nat), Below w8.heap.size w8 w9 → w9.ownsRow w8.heap.size 3 1 (.slice A9 z c9) z (IK .i64 (L.take z)) → w10.ownsRow w8.heap.size 3 1 v10 (z + (m - z1)) (IK .i64 (L.take z) ++ IK .i64 (L.drop z1)) → w9.grownBy w10 (Value.slice A9 z c9).ownBlock →
              ∃ A c, v10 = .slice A (m - 1) c ∧ Hid ((L.take z ++ L.drop z1).length = m - 1 ∧ LS w1 w10 g g' (1 + r) F6 F7 (freeS st p) (freeS st' p) (.slice A (m - 1) c) (L.take z ++ L.drop z1))) := hid (fun v10 w9 w10 A9 c9 hb9 own9 own10 grow10 => by
            have hz1' := HZ1.out
            have e1 : z + (m - z1) = m - 1 := by omega
            have e2 : (L.take z ++ L.drop z1).length = m - 1 := by have := HS.out.1; rw [List.length_append, List.length_take, List.length_drop]; omega
            have hb10 : Below w8.heap.size w8 w10 := hb9.grown grow10 hb9.size (fun g hg => (own9.lt g hg).1)
            rw [e1, ← IK_append] at own10
            obtain ⟨A, c, rfl, _, _⟩ := own_shape' own10
            refine ⟨A, c, rfl, hid ⟨e2, HA8.out.then hb10, HB8.out.then hb10, HAB8.out, ?_, fun x hx => ?_, ?_⟩⟩
            · rw [e2]
              exact own_low own10 hs18
            · have h1 := (own10.lt x hx).1
              exact ⟨fun h => absurd (HA8.out.at_.lt x h) (by omega), fun h => absurd (HB8.out.at_.lt x h) (by omega)⟩
            · have h := HS.out.2.al.free (k := z) (m := p) (by have := HS.out.1; omega) HP.out
              rw [hz1']
              exact h)
          have hm9 : m - 1 ≤ q := by omega
          by_cases hcz : cc = z1
          · rw [if_pos hcz] at RD
            have RD2 := RD
            have hmc9 : m = z1 := by omega
            rw [hmc9, Nat.sub_self] at RD2
            have o3 : z + 0 ≤ maxLen := by unfold maxLen; omega
            have o4 : (z + 0) * 8 ≤ 140737488355328 := by omega
            have e9 : z + (m - z1) = z + 0 := by omega
            have E9 := hid e9
            clear e9
            subst hcz
            subst hmc9
            have j11 := J10.out
            have j4 := J4.out
            have j6 := J6.out
            have j7 := J7.out
            have j8 := J8.out
            have j5 := J5.out
            go_region_held3 (fun _ => True) (exact trivial)
              (first
                | (go_at_call 28; refine (own64_any (some ⟨b5, 0, none⟩) z m w1.heap.size w8.heap.size (L.take z) _ (by exact RT.out) (fun e => by cases e) (by exact Nat.le_refl _) n5).mono ?_; rintro e w9 ⟨A9, n9, c9, rfl, l9, z9, own9, hb9⟩; obtain rfl : z = n9 := hl9.out.symm.trans l9.out; have hb9 := un_drew hb9)
                | (refine step_append_row _ rfl (.tmp 141) (.tmp 145) 45 rfl w8.heap.size 3 i0 (.int .i64 0) 8 Tryd.underlying45 hi hz0 hz1 hz2 rfl (.slice A9 z c9) z (IK .i64 (L.take z)) rfl (by exact own9) w1.heap.size w8.heap.size (some ⟨b5, 0, none⟩) 0 0 rfl (fun e => by cases e) (IK .i64 (L.drop m)) (RD2.out.below hb9 (Nat.le_refl _)) (IK_one _ _) o3 o4 hb9.size ?_; intro v10 w10 own10 grow10 at10))
            obtain ⟨A10, c10, rfl, HE⟩ := FIN.out v10 w9 w10 A9 c9 hb9 own9 (by rw [E9.out]; exact own10) grow10
            clear own9 own10 grow10 at10 hb9 j4 j5 j6 j7 j8 j11
            go_wp2
            exact ⟨⟨k + 1, m - 1, q, F6, F7, _, _, _, A10, c10, hlt, by go_num, rfl, rfl, hm9, by omega, HE⟩, by simp [intOf]; omega⟩
          · rw [if_neg hcz] at RD
            have RD2 : Hid (Row w8 w1.heap.size w8.heap.size (some ⟨b5, z1, none⟩) (m - z1) (IK .i64 (L.drop z1))) := by
              have h := RD.out
              rw [Option.map_some, addr_add, Nat.zero_add] at h
              exact hid h
            have j11 := J10.out
            have j4 := J4.out
            have j6 := J6.out
            have j7 := J7.out
            have j8 := J8.out
            have j5 := J5.out
            go_region_held3 (fun _ => True) (exact trivial)
              (first
                | (go_at_call 28; refine (own64_any (some ⟨b5, 0, none⟩) z cc w1.heap.size w8.heap.size (L.take z) _ (by exact RT.out) (fun e => by cases e) (by exact Nat.le_refl _) n5).mono ?_; rintro e w9 ⟨A9, n9, c9, rfl, l9, z9, own9, hb9⟩; obtain rfl : z = n9 := hl9.out.symm.trans l9.out; have hb9 := un_drew hb9)
                | (refine step_append_row _ rfl (.tmp 141) (.tmp 145) 45 rfl w8.heap.size 3 i0 (.int .i64 0) 8 Tryd.underlying45 hi hz0 hz1 hz2 rfl (.slice A9 z c9) z (IK .i64 (L.take z)) rfl (by exact own9) w1.heap.size w8.heap.size (some ⟨b5, z1, none⟩) (m - z1) (cc - z1) rfl (fun e => by cases e) (IK .i64 (L.drop z1)) (RD2.out.below hb9 (Nat.le_refl _)) (IK_one _ _) o1 o2 hb9.size ?_; intro v10 w10 own10 grow10 at10))
            obtain ⟨A10, c10, rfl, HE⟩ := FIN.out v10 w9 w10 A9 c9 hb9 own9 own10 grow10
            clear own9 own10 grow10 at10 hb9 j4 j5 j6 j7 j8 j11
            go_wp2
            exact ⟨⟨k + 1, m - 1, q, F6, F7, _, _, _, A10, c10, hlt, by go_num, rfl, rfl, hm9, by omega, HE⟩, by simp [intOf]; omega⟩
        · have HM0 : Hid (x.tmod 2 = 0 ∨ ¬ x.tmod 2 = 0 ∧ ((m : Int) == 0) = true) := hid (by
            by_cases h : x.tmod 2 = 0
            · exact .inl h
            · refine .inr ⟨h, ?_⟩
              by_cases h4 : m = 0
              · rw [h4]; rfl
              · exact absurd ⟨h, h4⟩ h3)
          clear h3
          have hm9 : m ≤ 1 + r := by
            have h1 := HS.out.2.a.at_.fit.cnt
            have h2 := HS.out.2.al.c1
            have h4 := HS.out.1
            simp only at h1
            omega
          obtain ⟨p, hp⟩ := low_exists st
          have HP := hid hp
          have hpm : p ≤ m := by have h1 := HS.out.2.al.le hp; have h2 := HS.out.1; omega
          clear hp
          have LA := HS.out.2.a.then (W' := wr.alloc (.cells #[.int .i16 (k : Int), .int .i16 (-1)] 39)) ((Below.refl _ _).alloc (Nat.le_refl _) _)
          have HLA := hid LA
          have HLB := hid (HS.out.2.b.then (W' := wr.alloc (.cells #[.int .i16 (k : Int), .int .i16 (-1)] 39)) ((Below.refl _ _).alloc (Nat.le_refl _) _))
          by_cases hroom : m = 1 + r
          · have hlr : ¬ ((m : Int) < 1 + (r : Int)) := by omega
            have P1 := hid (put_full LA.at_ (some ⟨wr.heap.size, 0, none⟩) 2 2 (by show chk 2 (2 : Int) = 0; decide) (by have h1 := HS.out.2.al.c1; have h2 := HS.out.1; simp only; omega))
            have HRM := hid hroom
            clear LA hroom
            rcases HM0.out with he | ⟨he, hm⟩
            all_goals
              go_wp2_with fail
              refine P1.out.mono ?_
              rintro e w5 ⟨rfl, k5, rfl⟩
              have HW5 := HS.out.2.below (below_drewN ((Below.refl wr.heap.size wr).alloc (Nat.le_refl _) (.cells #[.int .i16 (k : Int), .int .i16 (-1)] 39)) k5)
              obtain ⟨w5, hw5⟩ : ∃ w5, w5 = (wr.alloc (.cells #[.int .i16 (k : Int), .int .i16 (-1)] 39)).drewN k5 := ⟨_, rfl⟩
              rw [← hw5] at HW5 ⊢
              have HS5 := hid HW5
              clear hw5 HW5 P1 HLA HLB
              have P2 := hid (put_full (HS5.out.b.then (W' := w5.alloc (.cells #[.int .i16 7] 39)) ((Below.refl _ _).alloc (Nat.le_refl _) _)).at_ (some ⟨w5.heap.size, 0, none⟩) 1 1 (by show chk 1 (1 : Int) = 0; decide) (by have h1 := HS.out.2.al.c2; have h2 := HS.out.1; have h3 := HRM.out; simp only; omega))
              go_wp2_with fail
              refine P2.out.mono ?_
              rintro e w6 ⟨rfl, k6, rfl⟩
              have HS6 := hid (HS5.out.below (below_drewN ((Below.refl w5.heap.size w5).alloc (Nat.le_refl _) (.cells #[.int .i16 7] 39)) k6))
              clear P2
              go_wp2
              exact ⟨⟨k + 1, m, q, F, F', st, st', L, C, cc, hlt, by go_num, rfl, rfl, hmq, by omega, hid ⟨HS.out.1, HS6.out⟩⟩, by simp [intOf]; omega⟩
          · have hlr : (m : Int) < 1 + (r : Int) := by omega
            have hmr : m < 1 + r := by omega
            have P1 := hid (Sl.put LA HT.out (some ⟨wr.heap.size, 0, none⟩) 2 wr.heap.size (wr.heap.size + 1) 2 [(k : Int), -1] rfl (rowk_lit wr .i16 _ [(k : Int), -1] 2 rfl rfl) (by simp) (fun e => by cases e) (fun b hb => .inl (HS.out.2.a.at_.lt b hb)) (by have h1 := HS.out.2.al.c1; have h2 := HS.out.1; simp only; omega) HP.out)
            clear LA HLA
            rcases HM0.out with he | ⟨he, hm⟩
            all_goals
              go_wp2_with fail
              refine P1.out.mono ?_
              rintro e w5 ⟨rfl, F5, L5, T5, hF5⟩
              have hz5 : wr.heap.size ≤ w5.heap.size := Nat.le_trans ((Below.refl wr.heap.size wr).alloc (Nat.le_refl _) _).size T5.size
              have hF5' : ∀ x ∈ F5, x ∈ F ∨ wr.heap.size ≤ x := fun x hx => (hF5 x hx).imp id (fun h => Nat.le_trans ((Below.refl wr.heap.size wr).alloc (Nat.le_refl _) _).size h)
              have HB5 := hid (sl_beside HLB.out T5 (fun b hb hx => HS.out.2.ab b hx hb) HS.out.2.a.new)
              have HO5 := hid (own_touched (own_touched HS.out.2.ro (touch_below ((Below.refl wr.heap.size wr).alloc (Nat.le_refl _) _) []) (fun _ _ hx => by cases hx)) T5 (fun e he => (HS.out.2.ra e he).1))
              have HL5 := hid L5
              have HF5 := hid hF5'
              have P2 := hid (Sl.put (HB5.out.then (W' := w5.alloc (.cells #[.int .i16 7] 39)) ((Below.refl _ _).alloc (Nat.le_refl _) _)) HT.out (some ⟨w5.heap.size, 0, none⟩) 1 w5.heap.size (w5.heap.size + 1) 1 [7] rfl (rowk_lit w5 .i16 _ [7] 1 rfl rfl) (by simp) (fun e => by cases e) (fun b hb => .inl (HB5.out.at_.lt b hb)) (by have h1 := HS.out.2.al.c2; have h2 := HS.out.1; simp only; omega) (HS.out.2.al.low HP.out))
              clear P1 L5 T5 hF5 hF5'
              go_wp2_with fail
              refine P2.out.mono ?_
              rintro e w6 ⟨rfl, F6, L6, T6, hF6⟩
              have hlo : ∀ x, (Value.slice C m cc).ownBlock = some x → x < wr.heap.size := fun x hx => (HS.out.2.ro.lt x hx).2
              have HA6 := hid (sl_beside (HL5.out.then (W' := w5.alloc (.cells #[.int .i16 7] 39)) ((Below.refl _ _).alloc (Nat.le_refl _) _)) T6 (fun b hb hx => by
                rcases HF5.out b hb with h | h
                · exact HS.out.2.ab b h hx
                · have := HS.out.2.b.at_.lt b hx; omega) HS.out.2.b.new)
              have HO6 := hid (own_touched (own_touched HO5.out (touch_below ((Below.refl w5.heap.size w5).alloc (Nat.le_refl _) (.cells #[.int .i16 7] 39)) []) (fun _ _ hx => by cases hx)) T6 (fun e he => (HS.out.2.ra e he).2))
              have hF6' : ∀ x ∈ F6, x ∈ F' ∨ w5.heap.size ≤ x := fun x hx => (hF6 x hx).imp id (fun h => Nat.le_trans ((Below.refl w5.heap.size w5).alloc (Nat.le_refl _) _).size h)
              have HAB6 : Hid (∀ x ∈ F5, x ∉ F6) := hid fun x hx hy => by
                have h5 := HL5.out.at_.lt x hx
                rcases hF6' x hy with h | h
                · rcases HF5.out x hx with h1 | h1
                  · exact HS.out.2.ab x h1 h
                  · have := HS.out.2.b.at_.lt x h; omega
                · omega
              have HRA6 : Hid (∀ x, (Value.slice C m cc).ownBlock = some x → x ∉ F5 ∧ x ∉ F6) := hid fun x hx => by
                have h1 := hlo x hx
                refine ⟨fun h => ?_, fun h => ?_⟩
                · rcases HF5.out x h with h2 | h2
                  · exact (HS.out.2.ra x hx).1 h2
                  · omega
                · rcases hF6' x h with h2 | h2
                  · exact (HS.out.2.ra x hx).2 h2
                  · omega
              have HO7 := own_touched HO6.out (touch_below ((Below.refl w6.heap.size w6).alloc (Nat.le_refl _) (.cells #[.int .i64 (p : Int)] 3)) []) (fun _ _ hx => by cases hx)
              rw [HS.out.1] at HO7
              have HO := hid HO7
              have HL6 := hid L6
              clear P2 L6 T6 hF6 hF6' hlo HO7
              have hzz := HL6.out.below.size
              go_wp2_with (at_builtin; go_loud (refine wpList_append_row _ rfl _ _ 45 rfl w1.heap.size 3 i0 (.int .i64 0) 8 Tryd.underlying45 hi hz0 hz1 hz2 rfl (.slice C m cc) m (IK .i64 L) rfl HO.out w6.heap.size (w6.heap.size + 1) (some ⟨w6.heap.size, 0, none⟩) 1 1 rfl (fun e => by cases e) (IK .i64 [(p : Int)]) (rowk_lit w6 .i64 _ [(p : Int)] 1 rfl rfl) (IK_one _ _) (by unfold maxLen; omega) (by omega) (by simp; omega) ?_); intro v7 w7 own7 grow7 at7)
              obtain ⟨A7, c7, rfl, hA7, hm7⟩ := own_shape' own7
              obtain ⟨m1, hm1⟩ : ∃ m1, m1 = m + 1 := ⟨_, rfl⟩
              rw [← hm1] at own7 hm7 ⊢
              have HO7 := hid own7
              have HG7 := hid grow7
              have HA7 := hid at7
              have hq1 : (m1 : Int) ≤ 100 := by omega
              have HM1 := hid hm1
              have hp0 : (0 : Int) ≤ (p : Int) := by omega
              have hp1 : (p : Int) < (m1 : Int) := by omega
              have hp2 : (p : Int) ≤ (q : Int) := by omega
              have hq0 : m1 ≤ k + 1 := by omega
              have hq9 : q ≤ k + 1 := by omega
              clear own7 grow7 at7 hA7 hm7 hm1
              have hl7 : (Builtin.len_ #[45] 3 #[.slice A7 m1 c7]).run Tryd.prog w7 = .ok (.int .i64 (m1 : Int)) w7 := run_len_slice _ _ _ _ _ _ (by kernel_rfl)
              have FIN : Hid ((L ++ [(p : Int)]).length = m1 ∧ LS w1 w7 g g' (1 + r) F5 F6 (putS st p [(k : Int), -1]) (putS st' p [7]) (.slice A7 m1 c7) (L ++ [(p : Int)])) := by
                have e : (L ++ [(p : Int)]).length = m1 := by have h1 := HS.out.1; have h2 := HM1.out; rw [List.length_append, List.length_singleton]; omega
                have h7 : (Value.slice A7 m1 c7).ownBlock = (Value.slice C m cc).ownBlock ∨ (Value.slice A7 m1 c7).ownBlock = some (w6.alloc (.cells #[.int .i64 (p : Int)] 3)).heap.size := by rw [HM1.out]; exact HA7.out
                have T7 : Touch w6 w7 ((Value.slice C m cc).ownBlock.toList) := (touch_below ((Below.refl w6.heap.size w6).alloc (Nat.le_refl _) (.cells #[.int .i64 (p : Int)] 3)) _).then (touch_grown (F := (Value.slice C m cc).ownBlock.toList) HG7.out (fun x hx => by rw [hx]; simp)) (fun _ _ h => h)
                have hmem : ∀ x, x ∈ (Value.slice C m cc).ownBlock.toList → (Value.slice C m cc).ownBlock = some x := fun x hx => by simpa using hx
                refine hid ⟨e, sl_beside HA6.out T7 (fun b hb hx => (HRA6.out b (hmem b hx)).1 hb) (fun b hx => (HS.out.2.ro.lt b (hmem b hx)).1), sl_beside HL6.out T7 (fun b hb hx => (HRA6.out b (hmem b hx)).2 hb) (fun b hx => (HS.out.2.ro.lt b (hmem b hx)).1), HAB6.out, ?_, fun x hx => ?_, HS.out.2.al.put HP.out⟩
                · have h := HO7.out
                  rw [← IK_append] at h
                  rw [e]
                  exact h
                · have hsz : w6.heap.size ≤ (w6.alloc (.cells #[.int .i64 (p : Int)] 3)).heap.size := ((Below.refl w6.heap.size w6).alloc (Nat.le_refl _) _).size
                  rcases h7 with h | h
                  · rw [h] at hx
                    exact HRA6.out x hx
                  · rw [h] at hx
                    injection hx with hx
                    refine ⟨fun hy => ?_, fun hy => ?_⟩
                    · have := HA6.out.at_.lt x hy; omega
                    · have := HL6.out.at_.lt x hy; omega
              refine Or.elim (Nat.lt_or_ge q m1) (fun hcq => ?_) (fun hcq => ?_)
              · have hcq2 : (q : Int) < (m1 : Int) := by omega
                go_wp2
                rw [hl7]
                go_wp2
                exact ⟨⟨k + 1, m1, m1, F5, F6, _, _, L ++ [(p : Int)], A7, c7, hlt, by go_num, rfl, rfl, Nat.le_refl _, hq0, FIN⟩, by simp [intOf]; omega⟩
              · have hcq2 : (m1 : Int) ≤ (q : Int) := by omega
                have hp3 : (p : Int) < (q : Int) := by omega
                go_wp2
                rw [hl7]
                go_wp2
                exact ⟨⟨k + 1, m1, q, F5, F6, _, _, L ++ [(p : Int)], A7, c7, hlt, by go_num, rfl, rfl, hcq, hq9, FIN⟩, by simp [intOf]; omega⟩
      · obtain rfl : k = n := by omega
        have CA := hid (HS.out.2.a.count)
        have CB := hid (HS.out.2.b.count)
        rw [HS.out.2.al.c1, HS.out.1] at CA
        rw [HS.out.2.al.c2, HS.out.1] at CB
        go_wp2_with fail
        refine CA.out.mono ?_
        rintro e w5 ⟨rfl, rfl⟩
        go_wp2_with fail
        refine CB.out.mono ?_
        rintro e w6 ⟨rfl, rfl⟩
        go_wp2
        go_ret
        exact ⟨rfl, HB1.out.trans (HS.out.2.a.below.mono HB1.out.size)⟩
end Go.Proofs.YtamglgampeoepaaDoor
