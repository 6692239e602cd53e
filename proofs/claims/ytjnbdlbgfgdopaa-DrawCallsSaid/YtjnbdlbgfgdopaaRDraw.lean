/-
  Contracts of the document's own answers for draw: Draw, Picks, Order, Distinct.
-/
import Derived.Test.YtjnbdlbgfgdopaaRowF
namespace Go.Proofs.Ytjnbdlbgfgdopaa
set_option maxRecDepth 40000
set_option linter.unusedVariables false
open Go.RowKit Go.Maps Go.ChangeShapes Go.WideShapes

theorem rdraw_at (A : Option Addr) (len cap lo up : Nat) (l : List Int) (i : Nat) (w : World) (h : Row w lo up A len (IK .u64 l)) (hn : len ≤ 1000000) (hi : i ≤ 9223372036854775807) :
    Calls Try.prog 16 #[.slice A len cap, .int .i64 i] w fun e w' => e = .returned (.int .u64 (dr l i)) ∧ w' = w := by
  have hl : l.length = len := by have := h.len; rwa [IK_len] at this
  by_cases h0 : len = 0
  · have e0 : Hid (dr l i = 0) := by
      have : l = [] := List.eq_nil_of_length_eq_zero (by omega)
      rw [this]; rfl
    have hb : ((len : Int) == 0) = true := by simp [h0]
    clear h0 hl
    go_enter Try.func16, Try.ntmps16
    go_wp2
    go_ret
    exact ⟨by rw [e0.out]; rfl, rfl⟩
  · have hb : ((len : Int) == 0) = false := by simp; omega
    have hk : i % len < l.length := by rw [hl]; exact Nat.mod_lt _ (by omega)
    obtain ⟨b, off, rfl, _, _, hc⟩ := cells_at h hk
    have hm : (i : Int).tmod (len : Int) = ((i % len : Nat) : Int) := by rw [← Int.ofNat_tmod]
    have hlt : ((i % len : Nat) : Int) < (len : Int) := by have := Nat.mod_lt i (show 0 < len by omega); omega
    have e0 : Hid (dr l i = l[i % len]) := by
      unfold dr
      rw [hl, List.getElem?_eq_getElem hk]; rfl
    generalize l[i % len] = v at e0 hc
    generalize i % len = m at hc hm hlt
    clear h hl hk
    go_enter Try.func16, Try.ntmps16
    go_wp2
    go_ret
    exact ⟨by rw [e0.out]; rfl, rfl⟩
theorem rdraw_any (A : Option Addr) (len cap lo up : Nat) (l : List Int) (i : Int) (w : World) (h : Row w lo up A len (IK .u64 l)) (hn : len ≤ 1000000) (hi : -9223372036854775808 ≤ i ∧ i ≤ 9223372036854775807) :
    Calls Try.prog 16 #[.slice A len cap, .int .i64 i] w fun e w' => e = .returned (.int .u64 (drI l i)) ∧ w' = w := by
  by_cases h0 : i < 0
  · have e0 : Hid (drI l i = 0) := by unfold drI; exact if_pos h0
    clear h
    go_enter Try.func16, Try.ntmps16
    go_wp2
    go_ret
    exact ⟨by rw [e0.out]; rfl, rfl⟩
  · obtain ⟨k, rfl⟩ := Int.eq_ofNat_of_zero_le (show 0 ≤ i by omega)
    rw [drI_nat]
    exact rdraw_at A len cap lo up l k w h hn (by omega)
set_option maxHeartbeats 1600000 in
theorem rpicks_at (A : Option Addr) (len cap lo up : Nat) (l : List Int) (n k : Nat) (w : World) (h : Row w lo up A len (IK .u64 l)) (hup : up ≤ w.heap.size) (hln : len ≤ 1000000) (hwf : ∀ x ∈ l, 0 ≤ x ∧ x ≤ 18446744073709551615)
    (hn1 : 1 ≤ n) (hn : n ≤ 5000) (hk : k ≤ 4096) :
    Calls Try.prog 14 #[.slice A len cap, .int .i64 n, .int .i64 k] w (Picked w (pks l n k, 0)) := by
  have mk : ∀ W : World, (Instr.makeSlice 22 (.int .i64 n) (.int .i64 n)).run Try.prog W = .ok (.slice (some ⟨W.heap.size, 0, none⟩) n n) (W.alloc (.cells (IK .i64 (List.replicate n 0)).toArray 3)) := fun W => make_any n n W (Nat.le_refl _) (by omega)
  have HH := hid h
  have HW := hid hwf
  clear h hwf
  go_enter Try.func14, Try.ntmps14
  go_wp2
  go_loopw [9] (fun v wr => ∃ i : Nat, i ≤ n ∧ v = .int .i64 i ∧ RF wr w.heap.size n (fun x => if x < i then (x : Int) else 0) ∧ Below w.heap.size w wr) (fun v _ => n - (intOf v).toNat)
  case atStart => exact ⟨0, Nat.zero_le _, rfl, (RF.new w n).congr (fun x _ => by simp), (Below.refl _ _).alloc (Nat.le_refl _) _⟩
  case round =>
    obtain ⟨i, hi, rfl, hf, hb⟩ := hrel
    by_cases hlk : i < n
    · have hc := hf.cell hlk
      have hfz := hf.frozen i
      have HS := hid ((hf.set i (i : Int)).congr (f' := fun x => if x < i + 1 then (x : Int) else 0) (fun x _ => by
        by_cases e : x = i
        · subst e; simp
        · simp only [if_neg e]
          by_cases h9 : x < i
          · rw [if_pos h9, if_pos (by omega)]
          · rw [if_neg h9, if_neg (by omega)]))
      have HBS : Hid (Below w.heap.size w (wr.setCell ⟨w.heap.size, i, none⟩ (.int .i64 (i : Int)))) := hb.setCell (Nat.le_refl _) _
      clear hf hb
      go_wp2
      exact ⟨⟨i + 1, by omega, by go_num, HS.out, HBS.out⟩, by simp [intOf]; omega⟩
    · obtain rfl : i = n := by omega
      have hf2 := hf.congr (f' := fun x => ((turn l i 0 x : Nat) : Int)) (fun x hx => by simp only [if_pos hx]; rfl)
      have HRow := hid hf2
      have HB := hid hb
      clear hf hf2 hb
      generalize wr = w1 at *
      go_wp2
      go_loopw [10] (fun v wr => ∃ p : Nat, p ≤ i ∧ p ≤ k ∧ v = .int .i64 p ∧ RF wr w.heap.size i (fun x => ((turn l i p x : Nat) : Int)) ∧ Below w.heap.size w wr) (fun v _ => i - (intOf v).toNat)
      case atStart => exact ⟨0, Nat.zero_le _, Nat.zero_le _, rfl, HRow.out, HB.out⟩
      case round =>
        obtain ⟨p, hp, hpk, rfl, hf, hb⟩ := hrel
        by_cases hlp : p < i ∧ p < k
        · obtain ⟨h1, h2⟩ := hlp
          have hd : 0 ≤ dr l p := by
            unfold dr
            cases hx : l[p % l.length]? with
            | none => exact Int.le_refl _
            | some x => exact (HW.out x (List.mem_of_getElem? hx)).1
          obtain ⟨r, hr⟩ : ∃ r, r = (dr l p).toNat % (i - p) := ⟨_, rfl⟩
          have hrn : r < i - p := by rw [hr]; exact Nat.mod_lt _ (by omega)
          have hr1 : (dr l p).tmod ((i : Int) - (p : Int)) = (r : Int) := by
            have e1 : (i : Int) - (p : Int) = ((i - p : Nat) : Int) := by omega
            have e2 : dr l p = ((dr l p).toNat : Int) := by omega
            rw [e1, e2, hr, ← Int.ofNat_tmod]
          have hst : Hid (p + r = stepTo l i p) := hid (by rw [hr]; rfl)
          clear hr hd
          obtain ⟨a, ha⟩ : ∃ a, a = p + r := ⟨_, rfl⟩
          have hai : a < i := by omega
          have hsum : (p : Int) + (r : Int) = (a : Int) := by omega
          have HA := hid ha
          clear ha
          have cd := rdraw_at A len cap lo up l p wr (HH.out.below hb hup) hln (by omega)
          have l1 := hf.cell h1
          have l2 := hf.cell hai
          have f1 := hf.frozen p
          have f2 := hf.frozen a
          obtain ⟨y3, l3⟩ : ∃ y3, (wr.setCell ⟨w.heap.size, p, none⟩ (.int .i64 ((turn l i p a : Nat) : Int))).cell? ⟨w.heap.size, a, none⟩ = some (.int .i64 y3) := ⟨_, (hf.set p _).cell hai⟩
          have HS := hid (((hf.set p ((turn l i p a : Nat) : Int)).set a ((turn l i p p : Nat) : Int)).congr (f' := fun x => ((turn l i (p + 1) x : Nat) : Int)) (fun x hx => by
            have ht1 : turn l i (p + 1) = swp (turn l i p) p a := by show swp _ _ _ = _; rw [← hst.out, HA.out]
            rw [ht1]
            unfold swp
            by_cases e1 : x = a
            · rw [if_pos e1, if_pos e1]
            · rw [if_neg e1, if_neg e1]
              by_cases e2 : x = p
              · rw [if_pos e2, if_pos e2]
              · rw [if_neg e2, if_neg e2]))
          have HBS : Hid (Below w.heap.size w ((wr.setCell ⟨w.heap.size, p, none⟩ (.int .i64 ((turn l i p a : Nat) : Int))).setCell ⟨w.heap.size, a, none⟩ (.int .i64 ((turn l i p p : Nat) : Int)))) := (hb.setCell (Nat.le_refl _) _).setCell (Nat.le_refl _) _
          generalize turn l i p a = ta at *
          generalize turn l i p p = tp at *
          clear hf hb
          go_wp2_with fail
          refine cd.mono ?_
          rintro e w2 ⟨rfl, rfl⟩
          go_wp2
          go_region
          go_wp2
          exact ⟨⟨p + 1, by omega, by omega, by go_num, HS.out, HBS.out.drew⟩, by simp [intOf]; omega⟩
        · have hpm : p = min i k := by omega
          have hrow := hf
          have HRow2 := hid hrow
          have HB2 := hid hb
          have HP := hid hpm
          clear hf hrow hb
          generalize wr = w2 at *
          have HV : Hid (∀ j, j < k → turn l i p (j % i) = pk l i (j % i)) := fun j hj => turn_done (by
            rw [HP.out]
            have h9 := Nat.mod_lt j (show 0 < i by omega)
            have h8 := Nat.mod_le j i
            omega)
          obtain ⟨i0, hi0, hz0, hz1, hz9⟩ := info_parts infoI
          clear hpm
          by_cases hpi : p < i
          · have hpk2 : ¬ p < k := fun h9 => hlp ⟨hpi, h9⟩
            clear hlp
            go_wp2
            go_loopw [12, 13] (fun v u wr => ∃ j : Nat, j ≤ k ∧ u = .int .i64 j ∧ wr.ownsRow (w.heap.size + 1) 3 1 v j (IK .i64 (pks l i j)) ∧ Below (w.heap.size + 1) w2 wr) (fun _ u _ => k - (intOf u).toNat)
            case atStart => exact ⟨0, Nat.zero_le _, rfl, World.ownsRow_nil _ _ _ _, Below.refl _ _⟩
            case round =>
              obtain ⟨j, hj, rfl, hown, hb⟩ := hrel
              have hr3 := HRow2.out.below hb (Nat.lt_succ_self _)
              by_cases hlj : j < k
              · have hq : j % i < i := Nat.mod_lt _ (by omega)
                have hm : (j : Int).tmod (i : Int) = ((j % i : Nat) : Int) := by rw [← Int.ofNat_tmod]
                have hc := hr3.cell hq
                rw [HV.out j hlj] at hc
                have hg3 := hr3.lt
                have HE : Hid (pks l i (j + 1) = pks l i j ++ [((pk l i (j % i) : Nat) : Int)]) := by
                  refine hid ?_
                  unfold pks
                  rw [List.range_succ, List.map_append]
                  rfl
                generalize pk l i (j % i) = v at hc HE
                generalize j % i = q at hm hc hq
                have one1 : ∀ u ∈ [Value.int .i64 (v : Int)], u.oneCell' = true := by intro u hu; simp at hu; subst hu; rfl
                clear hr3
                go_wp2_with (at_builtin; go_loud (refine wpList_append_row _ rfl _ _ 22 rfl (w.heap.size + 1) 3 i0 (.int .i64 0) 8 Try.underlying22 hi0 hz0 hz1 hz9 rfl u12 j _ rfl (hown.alloc _) wr.heap.size (wr.heap.size + 1) (some ⟨wr.heap.size, 0, none⟩) 1 1 rfl (fun e => by cases e) [.int .i64 (v : Int)] (row_one wr _ _) one1 (by unfold maxLen; omega) (by omega) (by simp; omega) ?_); intro v4 w4 own4 grow4 at4)
                have hb4 : Below (w.heap.size + 1) w2 w4 := (hb.alloc (by omega) _).grown grow4 (by simp; omega) (fun g hg => (hown.lt g hg).1)
                have own4 : w4.ownsRow (w.heap.size + 1) 3 1 v4 (j + 1) (IK .i64 (pks l i (j + 1))) := by rw [HE.out, IK_append]; exact own4
                clear grow4 at4 hown hb
                go_wp2
                exact ⟨⟨j + 1, by omega, by go_num, own4, hb4⟩, by simp [intOf]; omega⟩
              · obtain rfl : j = k := by omega
                obtain ⟨A9, c9, rfl, hA9, hc9⟩ := own_shape hown
                have HA9 := hid hA9
                have R9 := hid ((Row.of_own hown).wide (Nat.le_succ _) (Nat.le_refl _))
                have HB9 := hid (HB2.out.trans (hb.mono (Nat.le_succ _)))
                clear hown hb hr3 hA9
                go_wp2
                go_ret2
                exact ⟨A9, j, c9, 0, rfl, pks_len j, rfl, HA9.out, hc9, R9.out, HB9.out⟩
          · clear hlp
            go_wp2
            go_loopw [12, 13] (fun v u wr => ∃ j : Nat, j ≤ k ∧ u = .int .i64 j ∧ wr.ownsRow (w.heap.size + 1) 3 1 v j (IK .i64 (pks l i j)) ∧ Below (w.heap.size + 1) w2 wr) (fun _ u _ => k - (intOf u).toNat)
            case atStart => exact ⟨0, Nat.zero_le _, rfl, World.ownsRow_nil _ _ _ _, Below.refl _ _⟩
            case round =>
              obtain ⟨j, hj, rfl, hown, hb⟩ := hrel
              have hr3 := HRow2.out.below hb (Nat.lt_succ_self _)
              by_cases hlj : j < k
              · have hq : j % i < i := Nat.mod_lt _ (by omega)
                have hm : (j : Int).tmod (i : Int) = ((j % i : Nat) : Int) := by rw [← Int.ofNat_tmod]
                have hc := hr3.cell hq
                rw [HV.out j hlj] at hc
                have hg3 := hr3.lt
                have HE : Hid (pks l i (j + 1) = pks l i j ++ [((pk l i (j % i) : Nat) : Int)]) := by
                  refine hid ?_
                  unfold pks
                  rw [List.range_succ, List.map_append]
                  rfl
                generalize pk l i (j % i) = v at hc HE
                generalize j % i = q at hm hc hq
                have one1 : ∀ u ∈ [Value.int .i64 (v : Int)], u.oneCell' = true := by intro u hu; simp at hu; subst hu; rfl
                clear hr3
                go_wp2_with (at_builtin; go_loud (refine wpList_append_row _ rfl _ _ 22 rfl (w.heap.size + 1) 3 i0 (.int .i64 0) 8 Try.underlying22 hi0 hz0 hz1 hz9 rfl u12 j _ rfl (hown.alloc _) wr.heap.size (wr.heap.size + 1) (some ⟨wr.heap.size, 0, none⟩) 1 1 rfl (fun e => by cases e) [.int .i64 (v : Int)] (row_one wr _ _) one1 (by unfold maxLen; omega) (by omega) (by simp; omega) ?_); intro v4 w4 own4 grow4 at4)
                have hb4 : Below (w.heap.size + 1) w2 w4 := (hb.alloc (by omega) _).grown grow4 (by simp; omega) (fun g hg => (hown.lt g hg).1)
                have own4 : w4.ownsRow (w.heap.size + 1) 3 1 v4 (j + 1) (IK .i64 (pks l i (j + 1))) := by rw [HE.out, IK_append]; exact own4
                clear grow4 at4 hown hb
                go_wp2
                exact ⟨⟨j + 1, by omega, by go_num, own4, hb4⟩, by simp [intOf]; omega⟩
              · obtain rfl : j = k := by omega
                obtain ⟨A9, c9, rfl, hA9, hc9⟩ := own_shape hown
                have HA9 := hid hA9
                have R9 := hid ((Row.of_own hown).wide (Nat.le_succ _) (Nat.le_refl _))
                have HB9 := hid (HB2.out.trans (hb.mono (Nat.le_succ _)))
                clear hown hb hr3 hA9
                go_wp2
                go_ret2
                exact ⟨A9, j, c9, 0, rfl, pks_len j, rfl, HA9.out, hc9, R9.out, HB9.out⟩
theorem rpicks_any (A : Option Addr) (len cap lo up : Nat) (l : List Int) (n k : Int) (w : World) (h : Row w lo up A len (IK .u64 l)) (hup : up ≤ w.heap.size) (hln : len ≤ 1000000) (hwf : ∀ x ∈ l, 0 ≤ x ∧ x ≤ 18446744073709551615) (hn : n ≤ 5000 ∨ 16777216 < n) :
    Calls Try.prog 14 #[.slice A len cap, .int .i64 n, .int .i64 k] w (Picked w (pkI l n k)) := by
  by_cases hb : n < 1 ∨ 16777216 < n ∨ k < 0 ∨ 4096 < k
  · have e0 : pkI l n k = ([], 2) := if_pos hb
    rw [e0]
    have HP := hid (picked_nil w 2)
    clear e0 h hwf hn
    by_cases h1 : n < 1
    · go_enter Try.func14, Try.ntmps14
      go_wp2
      go_ret2
      exact HP.out
    · by_cases h2 : 16777216 < n
      · go_enter Try.func14, Try.ntmps14
        go_wp2
        go_ret2
        exact HP.out
      · by_cases h3 : k < 0
        · go_enter Try.func14, Try.ntmps14
          go_wp2
          go_ret2
          exact HP.out
        · have h4 : 4096 < k := by omega
          go_enter Try.func14, Try.ntmps14
          go_wp2
          go_ret2
          exact HP.out
  · have e0 : pkI l n k = (pks l n.toNat k.toNat, 0) := if_neg hb
    rw [e0]
    obtain ⟨N, rfl⟩ := Int.eq_ofNat_of_zero_le (show 0 ≤ n by omega)
    obtain ⟨K, rfl⟩ := Int.eq_ofNat_of_zero_le (show 0 ≤ k by omega)
    rw [Int.toNat_natCast, Int.toNat_natCast]
    exact rpicks_at A len cap lo up l N K w h hup hln hwf (by omega) (by omega) (by omega)
theorem rorder_any (A : Option Addr) (len cap lo up : Nat) (l : List Int) (n : Int) (w : World) (h : Row w lo up A len (IK .u64 l)) (hup : up ≤ w.heap.size) (hln : len ≤ 1000000) (hwf : ∀ x ∈ l, 0 ≤ x ∧ x ≤ 18446744073709551615) :
    Calls Try.prog 15 #[.slice A len cap, .int .i64 n] w (Picked w (pkI l n n)) := by
  by_cases hb : n < 1 ∨ 4096 < n
  · have e0 : pkI l n n = ([], 2) := if_pos (by omega)
    rw [e0]
    have HP := hid (picked_nil w 2)
    clear e0 h hwf
    by_cases h1 : n < 1
    · go_enter Try.func15, Try.ntmps15
      go_wp2
      go_ret2
      exact HP.out
    · have h2 : 4096 < n := by omega
      go_enter Try.func15, Try.ntmps15
      go_wp2
      go_ret2
      exact HP.out
  · have c := rpicks_any A len cap lo up l n n w h hup hln hwf (by omega)
    have b1 : 1 ≤ n := by omega
    have b2 : n ≤ 4096 := by omega
    clear h hwf hb
    go_enter Try.func15, Try.ntmps15
    go_wp2_with fail
    refine c.mono ?_
    rintro e w1 ⟨A1, n1, c1, er, rfl, r1, r2, r3, r4, r5, r6⟩
    go_wp2
    go_ret2
    exact ⟨A1, n1, c1, er, rfl, r1, r2, r3, r4, r5, r6⟩
/-- Block M is a set of numbers: it tells of each number what f tells. -/
def MB (w : World) (M k : Nat) (f : Int → Bool) : Prop :=
  ∃ D : DataW Unit, w.ownsMap Try.prog 3 (plainElem Try.prog 4) M k D ∧ ∀ x, (Lit.int .i64 x).wf = true → D.atKey (keyI x) (.lit (.bool false)) = .lit (.bool (f x))
theorem zeroB (w : World) : (zeroValue 4).run Try.prog w = .ok (.bool false) w := by kernel_rfl
theorem mb_new (w : World) : MB (w.alloc (.map #[] 0)) w.heap.size 0 (fun _ => false) := ⟨.map [], World.ownsMap_made _ _ _ _, fun _ _ => rfl⟩
theorem bool_elem (b : Bool) : plainElem (H := Unit) Try.prog 4 (.bool b) = some (.lit (.bool b), []) := plainElem_bool Try.underlying4 b
theorem bool_is {v : Value} {b : Bool} {ps : List MemPlace} (h : plainElem (H := Unit) Try.prog 4 v = some (.lit (.bool b), ps)) : v = .bool b := by
  unfold plainElem at h
  simp only [Try.underlying4] at h
  cases v <;> simp at h
  rw [h.1]
theorem MB.look {w : World} {M k : Nat} {f : Int → Bool} (h : MB w M k f) {x : Int} (hx : (Lit.int .i64 x).wf = true) : (Instr.lookup 43 (.map (some M)) (.int .i64 x) false).run Try.prog w = .ok (.bool (f x)) w := by
  obtain ⟨D, hD, hf⟩ := h
  obtain ⟨v, ps, hrun, hv⟩ := hD.lookup keyedI Try.underlying43 (zeroB _) (bool_elem false) (keyI_at hx)
  rw [hf x hx] at hv
  rw [hrun, bool_is hv]
theorem MB.put {w : World} {M k : Nat} {f : Int → Bool} (h : MB w M k f) (hk : k < 1000000) {x : Int} (hx : (Lit.int .i64 x).wf = true) :
    ∃ w', (Instr.mapUpdate 43 (.map (some M)) (.int .i64 x) (.bool true)).run Try.prog w = .ok () w' ∧ MB w' M (k + 1) (fun z => if z = x then true else f z) ∧ w.grownBy w' (some M) := by
  obtain ⟨D, hD, hf⟩ := h
  obtain ⟨w', hrun, hD', hg'⟩ := hD.update (d := .lit (.bool true)) (ps := []) keyedI Try.underlying43 (by unfold maxLen; omega) (keyI_at hx) (bool_elem true)
  have hm := hD.isMap
  have hkl := keyedI.key (keyI_at hx)
  refine ⟨w', hrun, ⟨_, hD', fun y hy => ?_⟩, hg'⟩
  by_cases e : y = x
  · subst e
    rw [atKey_put_same hm hkl]
    simp
  · rw [atKey_put_other (keyI_ne e)]
    simp only [if_neg e]
    exact hf y hy
theorem MB.drewN {w : World} {M k : Nat} {f : Int → Bool} (h : MB w M k f) (q : Nat) : MB (w.drewN q) M k f := h
set_option maxHeartbeats 800000 in
theorem rdistinct_any (A : Option Addr) (n c : Nat) (l : List Int) (w : World) (h : Row w 0 w.heap.size A n (IK .i64 l)) (hn : n ≤ 1000) (hwf : ∀ x ∈ l, (Lit.int .i64 x).wf = true) :
    Calls Try.prog 17 #[.slice A n c] w fun e w' => e = .returned (.bool (decide l.Nodup)) ∧ Below w.heap.size w w' := by
  have hl : l.length = n := by have := h.len; rwa [IK_len] at this
  have HL := hid hl
  have HH := hid h
  have HW := hid hwf
  have hmm := @run_makeMap Try.prog
  clear hl h hwf
  go_enter Try.func17, Try.ntmps17
  go_wp2
  go_loopw [4] (fun v wr => ∃ i : Nat, i ≤ n ∧ v = .int .i64 i ∧ (l.take i).Nodup ∧ MB wr w.heap.size i (fun x => decide (x ∈ l.take i)) ∧ Below w.heap.size w wr) (fun v _ => n - (intOf v).toNat)
  case atStart => exact ⟨0, Nat.zero_le _, rfl, by simp, by simpa using mb_new w, (Below.refl _ _).alloc (Nat.le_refl _) _⟩
  case round =>
    obtain ⟨i, hi, rfl, hnd, hm, hb⟩ := hrel
    have HN := hid hnd
    clear hnd
    by_cases hlt : i < n
    · have hil : i < l.length := by rw [HL.out]; exact hlt
      obtain ⟨b, off, rfl, _, hbs, hc⟩ := cells_at (HH.out.below hb (Nat.le_refl _)) hil
      have hwx := HW.out l[i] (List.getElem_mem _)
      have hlook := hm.look hwx
      have htk : l.take (i + 1) = l.take i ++ [l[i]] := List.take_succ_eq_append_getElem hil
      by_cases hin : l[i] ∈ l.take i
      · have HF : Hid (decide l.Nodup = false) := by
          refine hid (decide_eq_false fun h9 => ?_)
          have h8 : (l.take (i + 1)).Nodup := (List.take_sublist _ _).nodup h9
          rw [htk, List.nodup_append] at h8
          exact h8.2.2 _ hin _ (List.mem_singleton.2 rfl) rfl
        rw [decide_eq_true hin] at hlook
        have HB := hid hb
        generalize l[i] = x at *
        clear hm hb htk hin
        go_wp2
        go_ret
        exact ⟨by rw [HF.out]; rfl, HB.out⟩
      · rw [decide_eq_false hin] at hlook
        obtain ⟨w2, hput, hm2, hg2⟩ := hm.put (by omega) hwx
        have HN2 : Hid ((l.take (i + 1)).Nodup) := by
          refine hid ?_
          rw [htk, List.nodup_append]
          exact ⟨HN.out, by simp, fun a ha b hb9 e => by rw [List.mem_singleton] at hb9; rw [e, hb9] at ha; exact hin ha⟩
        have HM2 : Hid (MB w2 w.heap.size (i + 1) (fun x => decide (x ∈ l.take (i + 1)))) := by
          refine hid ?_
          have e9 : (fun x => decide (x ∈ l.take (i + 1))) = (fun z => if z = l[i] then true else decide (z ∈ l.take i)) := by
            funext z
            have h9 : z ∈ l.take (i + 1) ↔ (z ∈ l.take i ∨ z = l[i]) := by rw [htk, List.mem_append, List.mem_singleton]
            rw [decide_eq_decide.2 h9]
            by_cases e : z = l[i]
            · rw [if_pos e]; exact decide_eq_true (.inr e)
            · rw [if_neg e]; exact decide_eq_decide.2 ⟨fun h => h.resolve_right e, .inl⟩
          rw [e9]
          exact hm2
        have HB2 : Hid (Below w.heap.size w w2) := hid (hb.grown hg2 hb.size (fun g hg => by injection hg with hg; omega))
        generalize l[i] = x at *
        clear hm hb htk hin hm2 hg2
        go_wp2
        exact ⟨⟨i + 1, by omega, by go_num, HN2.out, HM2.out, HB2.out⟩, by simp [intOf]; omega⟩
    · obtain rfl : i = n := by omega
      have HF : Hid (decide l.Nodup = true) := by
        refine hid (decide_eq_true ?_)
        have := HN.out
        rwa [List.take_of_length_le (by rw [HL.out]; exact Nat.le_refl _)] at this
      have HB := hid hb
      clear hm hb
      go_wp2
      go_ret
      exact ⟨by rw [HF.out]; rfl, HB.out⟩
end Go.Proofs.Ytjnbdlbgfgdopaa
