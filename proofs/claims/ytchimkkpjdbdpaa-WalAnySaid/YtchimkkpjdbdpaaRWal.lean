/-
  Contracts of the document's Cost and Scan of a log.
-/
import Derived.Test.YtchimkkpjdbdpaaWalA
import Derived.Test.YtchimkkpjdbdpaaRScanAll
namespace Go.Proofs.Ytchimkkpjdbdpaa
set_option maxRecDepth 40000
open Go.RowKit Go.Joins Regs

theorem rcost_any (n : Int) (w : World) : Calls Try.prog 20 #[.int .i64 n] w fun e w' => e = .returned (.int .i64 (wcost n)) ∧ w' = w := by
  unfold wcost
  by_cases h0 : n < 0
  · rw [if_pos (.inl h0)]
    go_enter Try.func20, Try.ntmps20
    go_wp2
    go_ret
    exact ⟨rfl, rfl⟩
  · by_cases h1 : 33554424 < n
    · rw [if_pos (.inr h1)]
      go_enter Try.func20, Try.ntmps20
      go_wp2
      go_ret
      exact ⟨rfl, rfl⟩
    · rw [if_neg (by omega)]
      have hf : fsize (n + 8) = 16 + n := by unfold fsize; rw [if_neg (by omega)]; omega
      have SZ : Hid (∀ W, Calls Try.prog 45 #[.int .i64 (n + 8)] W fun e w' => e = .returned (.int .i64 (16 + n)) ∧ w' = W) := hid fun W => by have := rsize_any (n + 8) W; rwa [hf] at this
      clear hf
      go_enter Try.func20, Try.ntmps20
      go_wp2_with fail
      refine (SZ.out _).mono ?_
      rintro e w' ⟨rfl, rfl⟩
      go_wp2
      go_ret
      exact ⟨rfl, rfl⟩
def RP.y (x : RP) : Pay := ⟨x.p, x.A, x.n, x.c⟩
theorem paid_bod {w : World} {base : Nat} {x : RP} (h : Paid base x.y w) : Bod w base w.heap.size x := by
  obtain ⟨h1, h2⟩ := own_caps h.2.2
  exact ⟨Row.of_own h.2.2, h.2.1, h1, h2⟩
theorem rscan_done {w w' : World} {b : List UInt8} {ps : List (List UInt8)} {r : List UInt8} {xs : List RP} {v : Value} {z : Nat} (hS : Scans b ps r) (hz : z = (logB (xs.map RP.r)).length) (hx : recs none ps = xs.map RP.r) (hO : w'.ownsRow w.heap.size 57 2 v xs.length (RCs xs)) (hP : ∀ x ∈ xs, Paid w.heap.size x.y w') (hB : Below w.heap.size w w') :
    WScanPost w b (.returned (.tuple #[v, .int .i64 (z : Int)])) w' :=
  ⟨xs, v, by rw [← hz], hid (by rw [← hx]; exact recs_wscans hS), hO, hid (fun x hx => paid_bod (hP x hx)), hB⟩
theorem Paid.le {n₀ n₁ : Nat} {x : Pay} {W : World} (h : Paid n₀ x W) (hn : n₁ ≤ n₀) : Paid n₁ x W := ⟨h.1, h.2.1, ownsRow_le h.2.2 hn⟩
theorem Paid.appended2 {n₀ : Nat} {x : Pay} {W w2 : World} (h : Paid n₀ x W) {v : Value} {k : Nat} {xs : List Value} {tmp : Obj} (hrow : W.ownsRow n₀ 57 2 v k xs) (hgrow : (W.alloc tmp).grownBy w2 v.ownBlock) : Paid n₀ x w2 := by
  have h1 : Paid n₀ x (W.alloc tmp) := h.kept (World.grownBy_alloc W tmp none) (by cases hh : (Value.slice x.A x.n x.c).ownBlock <;> simp)
  exact h1.kept hgrow (own_apart (by decide) h1.2.2 (hrow.alloc tmp))
theorem own_len {w : World} {base : Nat} {v : Value} {k : Nat} {xs : List RP} {y : RP} (h : w.ownsRow base 57 2 v (k + 1) (RCs (xs ++ [y]))) (hx : xs.length = k) : w.ownsRow base 57 2 v (xs ++ [y]).length (RCs (xs ++ [y])) := by
  rw [List.length_append, hx]; exact h
theorem paid_of {w : World} {base n c : Nat} {A : Option Addr} {l : List UInt8} (h : w.ownsRow base 5 1 (.slice A n c) n (U l)) (hA : A = none → c = 0) : Paid base ⟨l, A, n, c⟩ w :=
  ⟨by have h1 := h.1; rw [U_len, Nat.mul_one] at h1; exact h1, hA, h⟩
theorem nxt_at {xs : List RP} {j : Nat} {x : RP} (h : xs[j]? = some x) (hl : xs.length = j + 1) : nxt none (xs.map RP.r) = some (x.s + 1) := by
  have e : xs = xs.take j ++ [x] := by
    have h2 := take_next h
    rw [← h2, List.take_of_length_le (by omega)]
  rw [e, List.map_append, List.map_cons, List.map_nil, nxt_snoc]
  rfl
theorem chain_topc {nx : Option Nat} {rs : List Rec} (h : Chain nx rs) : ∀ r ∈ rs, r.1 ≤ 4611686018427387904 := by
  induction rs generalizing nx with
  | nil => intro r hr; cases hr
  | cons q rs ih =>
    intro r hr
    rcases List.mem_cons.1 hr with rfl | hr
    · exact h.2.1
    · exact ih h.2.2.2 r hr
set_option maxHeartbeats 8000000 in
theorem rwscan_any (A : Option Addr) (n c lo up : Nat) (b : List UInt8) (w : World) (hR : Row w lo up A n (U b)) (hA : A = none → c = 0) (hup : up ≤ w.heap.size) (hc : n ≤ c ∧ c ≤ maxLen) (hn : n ≤ 300000) :
    Calls Try.prog 18 #[.slice A n c] w (WScanPost w b) := by
  obtain ⟨i0, hi, hz0, hz1, hz2⟩ := info_parts info5
  have S1 := hid (rscan_any A n c lo up b w hR hA hup hc hn)
  have hbl : b.length = n := by have := hR.len; rwa [U_len] at this
  have HBL := hid hbl
  clear hR hA hbl
  go_enter Try.func18, Try.ntmps18
  go_wp2_with fail
  refine S1.out.mono ?_
  rintro e w1 ⟨ps, r, A1, n1, c1, vs1, rfl, hS, hBL, hA1, hc1, hc1', hb1⟩
  have hfl : b.length = (flat ps).length + r.length := by have := congrArg List.length hS.out.bytes; rwa [List.length_append] at this
  have hmany := flat_many ps
  have hp1 : ps.length = n1 := hBL.out.len
  have hn1 : n1 ≤ 40000 := by have := HBL.out; omega
  have HPL := hid hp1
  have HZB : Hid ((logB (recs none ps)).length ≤ 300000) := hid (by
    have e : flat ps = logB (recs none ps) ++ flat (ps.drop (recs none ps).length) := by
      unfold logB
      rw [recs_pay, ← flat_append, List.take_append_drop]
    have h2 := congrArg List.length e
    rw [List.length_append] at h2
    have := HBL.out
    omega)
  obtain ⟨z0, hz0'⟩ : ∃ z0, z0 = (flat ps).length := ⟨_, rfl⟩
  rw [← hz0']
  have HB1 := hid hb1
  have HS := hid hS.out
  have Z01 : w.heap.size ≤ w1.heap.size := hb1.size
  clear hz0' hfl hmany S1 hb1 hS hp1 hA1
  go_wp2
  go_loopw [6, 7, 8] (fun v y i wr => ∃ (k z : Nat) (xs : List RP), k ≤ n1 ∧ i = .int .i64 (k : Int) ∧ y = .int .i64 (z : Int) ∧ xs.length = k ∧ Hid (z = (logB (xs.map RP.r)).length) ∧ Hid (recs none ps = xs.map RP.r ++ recs (nxt none (xs.map RP.r)) (ps.drop k)) ∧ Hid (wr.ownsRow w1.heap.size 57 2 v xs.length (RCs xs)) ∧ Hid (∀ x ∈ xs, Paid w1.heap.size x.y wr) ∧ Hid (Below w1.heap.size w1 wr)) (fun _ _ i _ => n1 - (intOf i).toNat)
  case atStart => exact ⟨0, 0, [], Nat.zero_le _, rfl, rfl, rfl, hid (by simp [logB, flat]), hid (by simp [nxt]), hid (World.ownsRow_nil _ _ _ _), hid (fun x hx => by cases hx), hid (Below.refl _ _)⟩
  case round =>
    obtain ⟨k, z, xs, hk, rfl, rfl, hxl, HZ, HQ, HO, HPD, HBR⟩ := hrel
    obtain ⟨A2, c2, rfl, hA2, hc2, hc2', hg2⟩ := own_shape_two HO.out
    have HXL := hid hxl
    have DONE : Hid (recs (nxt none (xs.map RP.r)) (ps.drop k) = [] → WScanPost w b (.returned (.tuple #[.slice A2 xs.length c2, .int .i64 (z : Int)])) wr) := hid fun h => rscan_done HS.out HZ.out (by rw [HQ.out, h, List.append_nil]) (ownsRow_le HO.out Z01) (fun x hx => (HPD.out x hx).le Z01) (HB1.out.trans (HBR.out.mono Z01))
    have hzl : z ≤ 300000 := by
      have h1 := HZB.out
      rw [HQ.out, logB_append, List.length_append, ← HZ.out] at h1
      omega
    rw [hxl] at HO DONE hc2
    rw [hxl]
    clear hxl
    by_cases hlt : k < n1
    · obtain ⟨bb, off, p, B, m, cc, rfl, hp, hcl, hr, hnc, hmc, hcm⟩ := (hBL.out.below HBR.out (Nat.le_refl _)).get hlt
      have hlm : p.length = m := by have := hr.len; rwa [U_len] at this
      have hbb : bb < w1.heap.size := by
        obtain ⟨x1, x2, _, e1, _, x3, _, _⟩ := hBL.out.row.at_ hlt
        simp only [Option.some.injEq, Addr.mk.injEq] at e1
        omega
      have HC5 : Hid (∀ W, Below w1.heap.size w1 W → W.cell? ⟨bb, off + k, none⟩ = some (.slice B m cc)) := hid fun W h => (h.cell (p := ⟨bb, off + k, none⟩) hbb).trans ((HBR.out.cell (p := ⟨bb, off + k, none⟩) hbb).symm.trans hcl)
      have hmb : m ≤ 33554432 := by rw [← hlm]; exact HS.out.short p (List.mem_of_getElem? hp)
      have st := recs_step (nx := nxt none (xs.map RP.r)) hp
      have HST := hid st
      have HLM := hid hlm
      have HP := hid hp
      have HR := hid hr
      clear st hlm hr hp
      by_cases hm8 : m < 8
      · have D := hid (DONE.out (by rw [HST.out, if_neg (fun g => by have := g.1; have := HLM.out; omega)]))
        go_wp2
        go_ret2
        exact D.out
      obtain ⟨s, hs⟩ : ∃ s, s = seqOf p := ⟨_, rfl⟩
      have hsl : s < 18446744073709551616 := by rw [hs]; exact seq_lt p
      have O1 := rof_any B 8 cc w.heap.size w1.heap.size (p.take 8) wr (by have := HR.out.take (k := 8) (by omega); rwa [U_take] at this) (by omega)
      rw [List.take_take, Nat.min_self] at O1
      have O2 : Hid (Calls Try.prog 44 #[.slice B 8 cc] wr fun e w' => e = .returned (.int .u64 (s : Int)) ∧ wr = w') := hid (by rw [hs]; exact O1)
      have HSQ := hid hs
      have hcm9 : cc ≤ 9223372036854775807 := by unfold maxLen at hcm; exact hcm
      clear O1 hs
      by_cases hs1 : s < 1
      · have D := hid (DONE.out (by rw [HST.out, if_neg (fun g => by have := g.2.1; have := HSQ.out; omega)]))
        go_wp2_with fail
        refine O2.out.mono ?_
        rintro e w' ⟨rfl, rfl⟩
        go_wp2
        go_ret2
        exact D.out
      by_cases hs2 : 4611686018427387904 < s
      · have D := hid (DONE.out (by rw [HST.out, if_neg (fun g => by have := g.2.2.1; have := HSQ.out; omega)]))
        go_wp2_with fail
        refine O2.out.mono ?_
        rintro e w' ⟨rfl, rfl⟩
        go_wp2
        go_ret2
        exact D.out
      have HTOP : Hid (∀ x ∈ xs, x.s ≤ 4611686018427387904) := hid fun x hx => by
        have h1 := chain_recs none ps
        rw [HQ.out] at h1
        have := chain_topc h1 x.r (List.mem_append_left _ (List.mem_map_of_mem hx))
        exact this
      have Z1r : w1.heap.size ≤ wr.heap.size := HBR.out.size
      have hbbr : bb < wr.heap.size := by omega
      have HO4 : Hid (∀ W, Below wr.heap.size wr W → W.ownsRow w1.heap.size 57 2 (.slice A2 k c2) k (RCs xs)) := hid fun W h => own_on HO.out h
      have OWN := hid (fun g (hg : (Value.slice A2 k c2).ownBlock = some g) => HO.out.lt g hg)
      have NX : Hid (good (nxt none (xs.map RP.r)) p → recs none ps = (xs.map RP.r ++ [(s, p.drop 8)]) ++ recs (some (s + 1)) (ps.drop (k + 1))) := hid fun g => by
        rw [HQ.out, HST.out, if_pos g, List.append_assoc, HSQ.out]; rfl
      rcases Nat.eq_zero_or_pos k with hk0 | hk0
      case' inl =>
        have HG : Hid (good (nxt none (xs.map RP.r)) p) := hid (by
          have hx0 : xs = [] := List.eq_nil_of_length_eq_zero (by rw [HXL.out, hk0])
          rw [hx0]
          exact ⟨by have := HLM.out; omega, by rw [← HSQ.out]; omega, by rw [← HSQ.out]; omega, .inl rfl⟩)
        have hk1 : ¬ 0 < k := by omega
        clear hk0
      case' inr =>
        obtain ⟨j, rfl⟩ : ∃ j, k = j + 1 := ⟨k - 1, by omega⟩
        obtain ⟨x, hx⟩ : ∃ x, xs[j]? = some x := ⟨xs[j]'(by rw [HXL.out]; omega), List.getElem?_eq_getElem _⟩
        obtain ⟨g, rfl⟩ := hg2 (by rw [HXL.out]; omega)
        have hx0 := (rec_cells HO.out hx).1
        have hxs := HTOP.out x (List.mem_of_getElem? hx)
        have hnx := nxt_at hx HXL.out
        have hjb : (j : Int) ≤ 40000 := by omega
        obtain ⟨t, ht⟩ : ∃ t, t = x.s := ⟨_, rfl⟩
        rw [← ht] at hx0 hxs hnx
        have HNX := hid hnx
        clear hnx hx ht hk0
        rcases Nat.decEq s (t + 1) with hsq | hsq
        · have hsqb : ((s : Int) != (t : Int) + 1) = true := by simp; omega
          have D := hid (DONE.out (by rw [HST.out, if_neg (fun g => by
            rcases g.2.2.2 with h | h
            · rw [HNX.out] at h; cases h
            · rw [HNX.out] at h; injection h with h; exact hsq (by rw [HSQ.out, h]))]))
          clear hsq
          go_wp2_with fail
          refine O2.out.mono ?_
          rintro e w' ⟨rfl, rfl⟩
          go_wp2
          go_ret2
          exact D.out
        have hsqb : ((s : Int) != (t : Int) + 1) = false := by simp; omega
        have HG : Hid (good (nxt none (xs.map RP.r)) p) := hid (⟨by have := HLM.out; omega, by rw [← HSQ.out]; omega, by rw [← HSQ.out]; omega, .inr (by rw [HNX.out, ← HSQ.out, hsq])⟩)
        clear hsq
      all_goals
        obtain ⟨b2, off2, rfl⟩ : ∃ b off, B = some ⟨b, off, none⟩ := by
          obtain ⟨b, off, e, _⟩ := HR.out.2 (by omega)
          exact ⟨b, off, e⟩
        have DR := HR.out.drop (k := 8) (cap := cc) (by omega) hmc
        rw [U_drop] at DR
        rcases Nat.lt_or_ge 8 cc with h8c | h8c
        case' inl =>
          have hc8 : ¬ cc = 8 := by omega
          have g2 : ((cc : Int) == 8) = false := by simp; omega
          rw [if_neg hc8, Option.map_some, addr_add] at DR
        case' inr =>
          obtain rfl : cc = 8 := by omega
          obtain rfl : m = 8 := by omega
          rw [if_pos rfl] at DR
        all_goals
          have HDR := hid DR
          clear DR
          go_wp2_with fail
          refine O2.out.mono ?_
          rintro e w' ⟨rfl, rfl⟩
          go_wp2_with (first
            | (at_builtin; go_loud (refine wpList_append_row _ rfl _ _ 34 rfl w1.heap.size 5 i0 (.int .u8 0) 1 Try.underlying34 hi hz0 hz1 hz2 rfl (.slice (some ⟨wr.heap.size, 0, none⟩) 0 0) 0 [] rfl (World.ownsRow_made wr #[] 0 Z1r (by decide) rfl) w.heap.size w1.heap.size _ _ _ rfl (fun e => by cases e) (U (p.drop 8)) (HDR.out.alloc Z1r _) (U_one _) (by unfold maxLen; omega) (by omega) (by simp; omega) ?_); intro v4 w4 own4 grow4 at4
               rw [Nat.zero_add, List.nil_append] at own4
               obtain ⟨A4, c4, rfl, hA4, _⟩ := own_shape own4
               have P4 := hid (paid_of own4 hA4)
               have hb4 : Below wr.heap.size wr w4 := ((Below.refl _ _).alloc (Nat.le_refl _) _).grown grow4 (by simp) (by intro k hk; simp [Value.ownBlock] at hk; omega)
               have ho4 := hid (HO4.out w4 hb4)
               have zr4 : wr.heap.size ≤ w4.heap.size := hb4.size)
            | (at_builtin; go_loud (refine wpList_append_rec _ rfl _ _ 24 rfl w1.heap.size Try.underlying24 _ _ xs rfl (ho4.out.alloc _) w4.heap.size 1 rfl ⟨s, p.drop 8, A4, _, c4⟩ (rcs_new w4 _ _ _ _ _ rfl) (by omega) (by simp; omega) ?_); intro v5 w5 own5 grow5 at5
               have hb5 : Below w1.heap.size w1 w5 := ((HBR.out.trans (hb4.mono Z1r)).alloc (by omega) _).grown grow5 (by simp; omega) (fun g hg => (OWN.out g hg).1)
               have own6 := own_len own5 HXL.out
               have hcl5 := HC5.out w5 hb5))
          refine ⟨⟨xs.length + 1, z + 8 + p.length, _, by rw [HXL.out]; omega, by rw [HXL.out]; go_num, by rw [HLM.out]; go_num, by simp, hid ?_, hid ?_, hid own6, hid (fun x hx => ?_), hid hb5⟩, by simp [intOf]; omega⟩
          · rw [List.map_append, logB_append, List.length_append, ← HZ.out]
            show _ = z + (logB [(s, p.drop 8)]).length
            rw [logB_one, frm_len, pay_len]
            show _ = z + (8 + (p.drop 8).length + 8)
            rw [List.length_drop]
            have := HLM.out
            omega
          · rw [List.map_append]
            show _ = (xs.map RP.r ++ [(s, p.drop 8)]) ++ recs (nxt none (xs.map RP.r ++ [(s, p.drop 8)])) (ps.drop (xs.length + 1))
            rw [nxt_snoc, HXL.out]
            exact NX.out HG.out
          · rcases List.mem_append.1 hx with hx | hx
            · exact (pay_below (HPD.out x hx) hb4).appended2 ho4.out grow5
            · rw [List.mem_singleton] at hx
              subst hx
              exact P4.out.appended2 ho4.out grow5
    · obtain rfl : k = n1 := by omega
      have D := hid (DONE.out (by rw [List.drop_of_length_le (by rw [HPL.out]; exact Nat.le_refl _)]; rfl))
      go_wp2
      go_ret2
      exact D.out
end Go.Proofs.Ytchimkkpjdbdpaa
