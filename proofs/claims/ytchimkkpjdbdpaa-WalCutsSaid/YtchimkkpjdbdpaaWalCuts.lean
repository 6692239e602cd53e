/-
  The walk of WalCuts.
-/
import Derived.Test.YtchimkkpjdbdpaaWalNames
import Derived.Test.YtchimkkpjdbdpaaRecsEq
import Derived.Test.YtchimkkpjdbdpaaCutsMath
import Derived.Test.YtchimkkpjdbdpaaListsOf
namespace Go.Proofs.Ytchimkkpjdbdpaa
set_option maxRecDepth 40000
open Go.RowKit Go.Joins Go.Maps Dsk Regs

theorem info_i64 : (Try.prog.info? 2).map (fun i => (i.zero, i.size, i.bytes)) = some (some (.int .i64 0), 1, 8) := by kernel_rfl
/-- A disk whose log has k records. -/
def CD (size : Int) (c : List UInt8) (k : Nat) : Dk := if k = 0 then ND size else LD size c
theorem wSize_CD {size : Int} {ls : List (List UInt8)} {k : Nat} : wSize (CD size (logB (nr 1 (ls.take k))) k) = upTo ls k := by
  unfold CD
  split
  · rename_i h; subst h; rw [wSize_ND, upTo_zero]
  · rw [wSize_LD]; rfl
theorem app_CD {size : Int} {ls : List (List UInt8)} {k : Nat} {l : List UInt8} (h : ls[k]? = some l) (hk : k ≤ 1000) (hs : ((upTo ls k : Nat) : Int) + (16 + l.length) ≤ size) :
    wApp ⟨CD size (logB (nr 1 (ls.take k))) k, k + 1, false⟩ l = (0, k + 1, ⟨CD size (logB (nr 1 (ls.take (k + 1)))) (k + 1), k + 2, false⟩) := by
  have e : logB (nr 1 (ls.take (k + 1))) = logB (nr 1 (ls.take k)) ++ frm (pay (k + 1, l)) := by rw [nr_next h, logB_append, logB_one]
  have e1 : CD size (logB (nr 1 (ls.take (k + 1)))) (k + 1) = LD size (logB (nr 1 (ls.take (k + 1)))) := by unfold CD; rw [if_neg (by omega)]
  rw [e1, e]
  unfold CD
  split
  · rename_i h0
    subst h0
    rw [upTo_zero] at hs
    have := app_ND (size := size) 1 l (by omega) (by omega)
    rw [this]
    simp [nr, logB, flat]
  · exact app_LD (k + 1) l (by omega) (by unfold upTo at hs; omega)
theorem own_touched {w w' : World} {base : Nat} {e : TypeId} {size n : Nat} {v : Value} {xs : List Value} {F : List Nat} (h : w.ownsRow base e size v n xs) (ht : Touch w w' F) (hv : ∀ g, v.ownBlock = some g → g ∉ F) : w'.ownsRow base e size v n xs := by
  obtain ⟨h1, h2⟩ := h
  refine ⟨h1, ?_⟩
  rcases h2 with h2 | ⟨g, cap, cur, rfl, hb, hg, r⟩
  · exact .inl h2
  · exact .inr ⟨g, cap, cur, rfl, hb, (ht.block g (Array.getElem?_eq_some_iff.1 hg).1 (hv g (by simp [Value.ownBlock]))).trans hg, r⟩
theorem nextOf_nr (ls : List (List UInt8)) : nextOf (nr 1 ls) = ls.length + 1 := by
  unfold nextOf
  rw [nr_nextOf]
  split
  · rename_i h; subst h; rfl
  · rfl
theorem RCs_take (xs : List RP) (k : Nat) : RCs (xs.take k) = (RCs xs).take (k * 2) := by
  induction xs generalizing k with
  | nil => simp [RCs]
  | cons x l ih =>
    cases k with
    | zero => simp [RCs]
    | succ k =>
      have e1 : RCs (x :: l) = .int .u64 (x.s : Int) :: x.v :: RCs l := rfl
      have e2 : RCs (x :: l.take k) = .int .u64 (x.s : Int) :: x.v :: RCs (l.take k) := rfl
      rw [List.take_succ_cons, e1, e2, ih, show (k + 1) * 2 = k * 2 + 1 + 1 by omega, List.take_succ_cons, List.take_succ_cons]
theorem RL.take {w : World} {lo hi n c k : Nat} {A : Option Addr} {xs : List RP} (h : RL w lo hi (.slice A n c) xs) (hk : k ≤ xs.length) : RL w lo hi (.slice A k c) (xs.take k) := by
  obtain ⟨A2, c2, e, hr, h1, h2, h3, h4⟩ := h
  injection e with e1 e2 e3
  subst e1 e3
  have hl : (xs.take k).length = k := by rw [List.length_take]; omega
  exact ⟨A, c, by rw [hl], by rw [hl, RCs_take]; exact hr.take (by omega), h1, by omega, h3, fun x hx => h4 x (List.mem_of_mem_take hx)⟩
theorem LLog.apart {w W W' : World} {g d : Nat} {F E : List Nat} {s : WS} {k : Nat} (L : LLog w W g d F s k) (ht : Touch W W' E) (hE : ∀ e ∈ E, e ∉ g :: F ∧ w.heap.size ≤ e) : LLog w W' g d F s k :=
  ⟨⟨Blk.touch L.log.blk ht (fun h => (hE g h).1 List.mem_cons_self), L.log.at_.touch ht (fun b hb hm => (hE b hm).1 (List.mem_cons_of_mem _ hb)), L.log.off⟩, L.fit, L.new, L.newg, L.below.trans (ht.below L.below.size (fun e he => (hE e he).2))⟩
def endsOf (ls : List (List UInt8)) (k : Nat) : List Value := (List.range k).map fun j => .int .i64 (upTo ls (j + 1) : Int)
theorem endsOf_next (ls : List (List UInt8)) (k : Nat) : endsOf ls (k + 1) = endsOf ls k ++ [.int .i64 (upTo ls (k + 1) : Int)] := by simp [endsOf, List.range_succ]
theorem endsOf_get (ls : List (List UInt8)) {k j : Nat} (h : j < k) : (endsOf ls k)[j]? = some (.int .i64 (upTo ls (j + 1) : Int)) := by simp [endsOf, h]
set_option maxHeartbeats 8000000 in
theorem walCuts_walk (A : Option Addr) (n c : Nat) (ls : List (List UInt8)) (vs : List Value) (q : Int) (A' : Option Addr) (n' c' : Nat) (more : List UInt8) (w : World) (hB : BL w 0 w.heap.size A n ls vs) (hc : n ≤ c ∧ c ≤ maxLen)
    (hR : Row w 0 w.heap.size A' n' (U more)) (hA' : A' = none → c' = 0) (hc' : n' ≤ c' ∧ c' ≤ maxLen) : Calls Try.prog 6 #[.slice A n c, .int .i64 q, .slice A' n' c'] w fun e w' => e = .returned (.bool true) ∧ Below w.heap.size w w' := by
  obtain ⟨i2, hi2, hz20, hz21, hz22⟩ := info_parts info_i64
  have LV := hid (lives_any w)
  have hml : more.length = n' := by have := hR.len; rwa [U_len] at this
  have HML := hid hml
  have HLL := hid hB.len
  have HR : Hid (∀ W, Below w.heap.size w W → Row W 0 w.heap.size A' n' (U more)) := hid fun W h => hR.below h (Nat.le_refl _)
  have HBL : Hid (∀ W, Below w.heap.size w W → BL W 0 w.heap.size A n ls vs) := hid fun W h => hB.below h (Nat.le_refl _)
  have HA' := hid hA'
  have hn9 : n ≤ 9223372036854775807 := by have := hc.2; unfold maxLen at this; omega
  clear hR hA' hB hml
  go_enter Try.func6, Try.ntmps6
  go_wp2_with fail
  refine LV.out.mono ?_
  rintro e w1 ⟨rfl, hb1⟩
  have HB1 := hid hb1
  have LB := hid (lightb_any A n c 0 w.heap.size ls vs 60 100 w1 (HBL.out w1 hb1) hn9)
  clear hb1 LV
  go_wp2_with fail
  refine LB.out.mono ?_
  rintro e w' ⟨b, rfl, hb, rfl⟩
  have HBB := hid hb
  clear hb LB
  cases b
  case false =>
    go_wp2
    go_ret
    exact ⟨rfl, HB1.out⟩
  by_cases hm : 100 < n'
  · go_wp2
    go_ret
    exact ⟨rfl, HB1.out⟩
  have hnn : n ≤ 60 := by have := (HBB.out rfl).1; rw [HLL.out] at this; exact this
  have HSH : Hid (∀ l ∈ ls, l.length ≤ 100) := hid (HBB.out rfl).2
  have NW := hid (new_log w' 1048576 (by omega) (by omega))
  go_wp2_with fail
  refine NW.out.mono ?_
  rintro e w2 ⟨d, F2, rfl, L2⟩
  have ON := hid (open_new L2)
  clear NW L2
  go_wp2_with fail
  refine ON.out.mono ?_
  rintro e w3 ⟨g, F3, A3, c3, rfl, L3, _⟩
  have HL3 := hid L3
  have Z1 : w.heap.size ≤ w'.heap.size := HB1.out.size
  clear ON L3
  go_wp2
  go_loopw [12, 13] (fun v i wr => ∃ (k : Nat) (F : List Nat), k ≤ n ∧ i = .int .i64 (k : Int) ∧ Hid (LLog w' wr g d F ⟨CD 1048576 (logB (nr 1 (ls.take k))) k, k + 1, false⟩ (1 + 2 * k)) ∧ Hid (wr.ownsRow w'.heap.size 2 1 v k (endsOf ls k)) ∧ Hid (∀ e, v.ownBlock = some e → e ∉ g :: F)) (fun _ i _ => n - (intOf i).toNat)
  case atStart => exact ⟨0, F3, Nat.zero_le _, rfl, HL3, hid (World.ownsRow_nil _ _ _ _), hid (fun e he => by cases he)⟩
  case round =>
    obtain ⟨k, F, hk, rfl, HL, HO, HAP⟩ := hrel
    obtain ⟨Ae, ce, rfl, hAe, _⟩ := own_shape HO.out
    by_cases hlt : k < n
    · have HBR := hid (HB1.out.trans (HL.out.below.mono Z1))
      obtain ⟨bb, off, l, B, m, cc, rfl, hl, hcl, hr, hnc, hmc, hcm⟩ := (HBL.out wr HBR.out).get hlt
      have hlm : l.length = m := by have := hr.len; rwa [U_len] at this
      have hl100 := HSH.out l (List.mem_of_getElem? hl)
      have hup := upTo_le HSH.out k (by rw [HLL.out]; omega)
      have AP := HL.out.append (by omega) (by show k + 1 ≤ _; omega) B m cc w.heap.size l ⟨0, hr, HBR.out.size, fun b hb => .inr (Nat.le_trans Z1 (HL.out.new b hb)), hnc, hmc, hcm⟩ (by omega)
      rw [app_CD hl (by omega) (by omega)] at AP
      have HAPP := hid AP
      have HLQ := hid hl
      have HLM := hid hlm
      clear AP hr hl hlm hl100 hup
      go_wp2_with fail
      refine HAPP.out.mono ?_
      rintro e w4 ⟨rfl, F4, L4, hT4, hF4⟩
      have SZ := L4.size
      rw [show wSize (CD 1048576 (logB (nr 1 (ls.take (k + 1)))) (k + 1)) = upTo ls (k + 1) from wSize_CD] at SZ
      have HSZ := hid SZ
      have HO4 := hid (own_touched HO.out hT4 HAP.out)
      have HAP4 : Hid (∀ e, (Value.slice Ae k ce).ownBlock = some e → e ∉ g :: F4) := hid fun e he hm => by
        rcases List.mem_cons.1 hm with h | h
        · exact HAP.out e he (h ▸ List.mem_cons_self)
        · rcases hF4 e h with h | h
          · exact HAP.out e he (List.mem_cons_of_mem _ h)
          · have := (HO.out.lt e he).2; omega
      have HL4 := hid L4
      obtain ⟨z, hz⟩ : ∃ z, z = upTo ls (k + 1) := ⟨_, rfl⟩
      rw [← hz] at HSZ
      have HZ := hid hz
      clear SZ L4 hT4 hF4 HAPP hz
      go_wp2_with fail
      refine HSZ.out.mono ?_
      rintro e w5 ⟨rfl, hb5⟩
      have HL5 := hid (HL4.out.then hb5)
      have HO5 := hid (own_on HO4.out hb5)
      have HZ5 : w'.heap.size ≤ w5.heap.size := HL5.out.below.size
      clear hb5 HSZ HL4 HO4 HO HL
      go_wp2_with (at_builtin; go_loud (refine wpList_append_row _ rfl _ _ 53 rfl w'.heap.size 2 i2 (.int .i64 0) 8 Try.underlying53 hi2 hz20 hz21 hz22 rfl (.slice Ae k ce) k (endsOf ls k) rfl (HO5.out.alloc _) w5.heap.size (w5.heap.size + 1) (some ⟨w5.heap.size, 0, none⟩) 1 1 rfl (fun e => by cases e) [.int .i64 (z : Int)] (row_one w5 _ _) (by intro u hu; simp at hu; subst hu; rfl) (by unfold maxLen; omega) (by omega) (by simp; omega) ?_); intro v6 w6 own6 grow6 at6)
      have hlt5 : ∀ e ∈ g :: F4, e < w5.heap.size := fun e he => by
        rcases List.mem_cons.1 he with h | h
        · rw [h]; exact Blk.lt HL5.out.log.blk
        · exact HL5.out.log.at_.lt e h
      refine ⟨⟨k + 1, F4, by omega, by go_num, hid ?_, hid ?_, hid ?_⟩, by simp [intOf]; omega⟩
      · have L6 := (HL5.out.then ((Below.refl _ w5).alloc (Nat.le_refl _) (.cells #[.int .i64 (z : Int)] 2))).apart (touch_grown (F := (Value.slice Ae k ce).ownBlock.toList) grow6 (fun g hg => by have hg' : (Value.slice Ae k ce).ownBlock = some g := hg; rw [hg']; simp)) (fun e he => by
          have he' : (Value.slice Ae k ce).ownBlock = some e := by simpa using he
          exact ⟨HAP4.out e he', (HO5.out.lt e he').1⟩)
        exact ⟨L6.log, L6.fit.mono (by omega), L6.new, L6.newg, L6.below⟩
      · rw [endsOf_next, ← HZ.out]
        exact own6
      · intro e he hm
        rcases at6 with h | h
        · rw [h] at he; exact HAP4.out e he hm
        · rw [h] at he
          have := hlt5 e hm
          simp at he
          omega
    · obtain rfl : k = n := by omega
      have HBR := hid (HB1.out.trans (HL.out.below.mono Z1))
      have SZ := HL.out.size
      rw [show wSize (CD 1048576 (logB (nr 1 (ls.take k))) k) = upTo ls k from wSize_CD] at SZ
      have HUP : Hid (upTo ls k ≤ 116 * k) := hid (upTo_le HSH.out k (by rw [HLL.out]; omega))
      obtain ⟨z, hz⟩ : ∃ z, z = upTo ls k := ⟨_, rfl⟩
      rw [← hz] at SZ HUP
      have HZ := hid hz
      have HSZ := hid SZ
      have hz6 : z ≤ 6960 := by have := HUP.out; omega
      clear SZ hz
      by_cases hk0 : k = 0
      · have hb0 : ((k : Int) == 0) = true := by simp [hk0]
        have hz0 : ((z : Int) == 0) = true := by rw [HZ.out, hk0, upTo_zero]; rfl
        clear hk0
        go_wp2_with fail
        refine HSZ.out.mono ?_
        rintro e w5 ⟨rfl, hb5⟩
        have HB5 := hid (HBR.out.trans (hb5.mono HBR.out.size))
        clear hb5
        go_wp2
        go_ret
        exact ⟨rfl, HB5.out⟩
      have hb0 : ((k : Int) == 0) = false := by simp [hk0]
      have HCD : Hid (CD 1048576 (logB (nr 1 (ls.take k))) k = LD 1048576 (logB (nr 1 ls))) := hid (by unfold CD; rw [if_neg hk0, List.take_of_length_le (by rw [HLL.out]; exact Nat.le_refl _)])
      have HK0 := hid hk0
      clear hk0
      go_wp2_with fail
      refine HSZ.out.mono ?_
      rintro e w5 ⟨rfl, hb5⟩
      have HL5 := hid (HL.out.then hb5)
      have HO5 := hid (own_on HO.out hb5)
      obtain ⟨x, hx⟩ : ∃ x : Nat, q % ((z : Int) + 1) = (x : Int) := ⟨(q % ((z : Int) + 1)).toNat, by rw [Int.toNat_of_nonneg (Int.emod_nonneg _ (by omega))]⟩
      have hxz : x ≤ z := by have := Int.emod_lt_of_pos q (show (0 : Int) < (z : Int) + 1 by omega); omega
      have PK := hid (fun W : World => pick_at q ((z : Int) + 1) (x : Int) W (by omega) (by omega) hx)
      clear hb5 HSZ HL HO hx
      go_wp2_with fail
      refine (PK.out _).mono ?_
      rintro e wp ⟨rfl, rfl⟩
      have HL6 := HL5.out
      rw [HCD.out] at HL6
      have hlg : (logB (nr 1 ls)).length = z := by rw [HZ.out]; unfold upTo; rw [List.take_of_length_le (by rw [HLL.out]; exact Nat.le_refl _)]
      have CU := at_cut HL6.log.at_ HL6.fit logN (x : Int) log_len
      rw [cut_LD x (by rw [hlg]; exact hxz)] at CU
      have HCU := hid CU
      have HNEW := hid HL6.new
      have HFIT := hid HL6.fit
      have HB6 := hid HL6.below
      have HLG := hid hlg
      clear CU HL6 PK hlg HL5
      go_wp2_with fail
      rw [S_log]
      refine HCU.out.mono ?_
      rintro e w7 ⟨rfl, F7, hD7, hT7, hF7⟩
      have HD7 : Hid (DAt w7 d F7 (LD 1048576 ((logB (nr 1 ls)).take x))) := hid hD7
      have HFIT7 : Hid (Fit (LD 1048576 ((logB (nr 1 ls)).take x)) 200) := hid (by
        have h1 := act_fit HFIT.out (.cut logN (x : Int)) trivial
        have h2 : (act (LD 1048576 (logB (nr 1 ls))) (.cut logN (x : Int))).2 = LD 1048576 ((logB (nr 1 ls)).take x) := congrArg Prod.snd (cut_LD x (by rw [HLG.out]; exact hxz))
        rw [h2] at h1
        exact h1.mono (by omega))
      have HN7 : Hid (∀ b ∈ F7, w'.heap.size ≤ b) := hid fun b hb => by
        rcases hF7 b hb with h | h
        · exact HNEW.out b h
        · exact Nat.le_trans HB6.out.size h
      have HB7 := hid (HB6.out.trans (hT7.below HB6.out.size HNEW.out))
      have HR7 := hid (Row.of_own (own_touched HO5.out hT7 (fun e he hm => HAP.out e he (List.mem_cons_of_mem _ hm))))
      clear hD7 hT7 hF7 HCU HNEW HFIT HB6 HO5 HAP HCD
      go_wp2
      go_loopw [17] (fun i wr => ∃ j : Nat, j ≤ k ∧ i = .int .i64 (j : Int) ∧ Hid (upTo ls j ≤ x) ∧ w7 = wr) (fun i _ => k - (intOf i).toNat)
      case atStart => exact ⟨0, Nat.zero_le _, rfl, hid (by rw [upTo_zero]; exact Nat.zero_le _), rfl⟩
      case round =>
        obtain ⟨j, hj, rfl, HJ, rfl⟩ := hrel
        rcases Nat.lt_or_ge j k with hjk | hjk
        case' inl =>
          obtain ⟨b9, o9, u9, rfl, _, _, hu9, hc9⟩ := HR7.out.at_ hjk
          rw [endsOf_get ls hjk] at hu9
          injection hu9 with hu9
          subst hu9
          obtain ⟨y, hy⟩ : ∃ y, y = upTo ls (j + 1) := ⟨_, rfl⟩
          rw [← hy] at hc9
          have HY := hid hy
          clear hy
          by_cases hyx : y ≤ x
          · go_wp2
            go_roundw
            case rel => exact ⟨j + 1, by omega, by go_num, hid (by rw [← HY.out]; exact hyx), by trivial⟩
            case measure => simp [intOf]; omega
          have HC : Hid (WScans ((logB (nr 1 ls)).take x) (nr 1 (ls.take j))) := hid (cut_scans HSH.out (by rw [HLL.out]; omega) (by rw [HLL.out]; omega) HJ.out (fun _ => by rw [← HY.out]; omega))
        case' inr =>
          have HC : Hid (WScans ((logB (nr 1 ls)).take x) (nr 1 (ls.take j))) := hid (cut_scans HSH.out (by rw [HLL.out]; omega) (by rw [HLL.out]; omega) HJ.out (fun h => by rw [HLL.out] at h; omega))
        all_goals
          have OP := hid (open_log (w := w') (W := w7) HB7.out.size HB7.out HD7.out HFIT7.out HN7.out (by rw [List.length_take, HLG.out]; omega))
          go_wp2_with fail
          refine OP.out.mono ?_
          rintro e w8 ⟨rs, g2, F8, v8, us, m8, hs8, rfl, hx8, hl8, hm8, hm8', L8, hT8, hF8, hg8⟩
          obtain rfl : rs = nr 1 (ls.take j) := wscans_unique hs8 HC.out
          have htl : (ls.take j).length = j := by rw [List.length_take, HLL.out]; omega
          have husl : us.length = j := by have := congrArg List.length hx8.out; rw [List.length_map, nr_len, htl] at this; exact this
          rw [nextOf_nr, htl] at L8
          have HL8 := hid L8
          have HU8 := hid hl8.out
          have HX8 := hid hx8.out
          have HF8 := hid hF8
          have HG8 := hid hg8
          have HM8 := hid hm8'
          have HUL := hid husl
          have HTL := hid htl
          have NX := hid (next_w L8.blk)
          have e8 := eql_ptr w8 g2
          have HLT7 := hid HD7.out.lt
          obtain ⟨A8, c8, rfl, _⟩ := hl8.out.shape
          rw [husl]
          rw [husl] at HU8
          clear OP hs8 L8 hx8 hl8 hT8 hF8 hg8 hm8' htl husl hm8
          go_wp2_with fail
          refine NX.out.mono ?_
          rintro e wn ⟨rfl, rfl⟩
          clear NX e8
          go_wp2
          go_loopw [20] (fun i wr => ∃ t : Nat, t ≤ j ∧ i = .int .i64 (t : Int) ∧ Hid (Below wn.heap.size wn wr)) (fun i _ => j - (intOf i).toNat)
          case atStart => exact ⟨0, Nat.zero_le _, rfl, hid (Below.refl _ _)⟩
          case round =>
            obtain ⟨t, ht, rfl, HBT⟩ := hrel
            rcases Nat.lt_or_ge t j with htj | htj
            · obtain ⟨y3, hy3⟩ : ∃ y3, us[t]? = some y3 := ⟨us[t]'(by rw [HUL.out]; exact htj), List.getElem?_eq_getElem _⟩
              have hyr := congrArg (fun l => l[t]?) HX8.out
              simp only [List.getElem?_map, hy3, nr_get, List.getElem?_take, if_pos htj] at hyr
              obtain ⟨b3, o3, c3', hv3, hlo3, hhi3, hs3, hb3, _, _, hbd3⟩ := HU8.out.at_ hy3
              injection hv3 with hv31 hv32 hv33
              subst hv31 hv33
              clear hv32
              have HBW := hid (HB1.out.trans (HL8.out.below.mono Z1))
              obtain ⟨bb, off, l, B, m, cc, rfl, hl, hcl, hr, hnc, hmc, hcm⟩ := (HBL.out wn HBW.out).get (k := t) (by omega)
              rw [hl] at hyr
              simp only [Option.map_some, Option.some.injEq] at hyr
              obtain ⟨ys, yp, yA, yn, yc⟩ := y3
              have hys : ys = 1 + t := congrArg Prod.fst hyr
              have hyp : yp = l := congrArg Prod.snd hyr
              have hqb : ((ys : Int) != (t : Int) + 1) = false := by rw [hys]; simp; omega
              subst hyp
              unfold RP.v at hb3
              rw [← Nat.add_assoc] at hb3
              simp only at hs3 hb3
              have hyn : yn ≤ 9223372036854775807 := by have := hbd3.2.2; simp only at this; unfold maxLen at this; omega
              have hbbw : bb < wn.heap.size := World.block_lt_of_cell? wn _ hcl
              have SM : Hid (∀ W, Below wn.heap.size wn W → Calls Try.prog 30 #[.slice yA yn yc, .slice B m cc] W fun e w' => e = .returned (.bool true) ∧ Below wn.heap.size wn w') := hid fun W hW => by
                have := (same_any yA B yn m yc cc w7.heap.size m8 0 w.heap.size yp yp W (hbd3.1.below hW HM8.out) (hr.below hW HBW.out.size) hyn)
                rw [decide_eq_true rfl] at this
                exact this.mono fun e w' ⟨h1, j, h2⟩ => ⟨h1, by rw [h2]; exact below_drewN hW j⟩
              have hm8w := HM8.out
              have K1 : Hid (∀ W, Below wn.heap.size wn W → (W.cell? ⟨b3, o3 + t * 2, none⟩ = some (.int .u64 (ys : Int)) ∧ W.cell? ⟨b3, o3 + t * 2 + 1, none⟩ = some (.slice yA yn yc)) ∧ W.cell? ⟨bb, off + t, none⟩ = some (.slice B m cc)) := hid fun W hW =>
                ⟨⟨(hW.cell (p := ⟨b3, o3 + t * 2, none⟩) (by show b3 < _; omega)).trans hs3, (hW.cell (p := ⟨b3, o3 + t * 2 + 1, none⟩) (by show b3 < _; omega)).trans hb3⟩, (hW.cell (p := ⟨bb, off + t, none⟩) hbbw).trans hcl⟩
              have d12 := K1.out wr HBT.out
              have g1 : (t : Int) < (j : Int) := by omega
              have g3 : (t : Int) < (k : Int) := by omega
              have o1 : IntKind.i64.wrap ((t : Int) + 1) = (t : Int) + 1 := by simp [IntKind.wrap, IntKind.bits, IntKind.signed]; omega
              have o2 : IntKind.u64.wrap ((t : Int) + 1) = (t : Int) + 1 := by rw [IntKind.wrap_u64]; omega
              clear hs3 hb3 hbd3 hr hcl hl hyr hy3 hnc hmc hcm hyn hys
              go_wp2_with fail
              go_region_held3 (fun W => (W.cell? ⟨b3, o3 + t * 2, none⟩ = some (.int .u64 (ys : Int)) ∧ W.cell? ⟨b3, o3 + t * 2 + 1, none⟩ = some (.slice yA yn yc)) ∧ W.cell? ⟨bb, off + t, none⟩ = some (.slice B m cc))
                (first | exact d12 | exact K1.out _ hb9)
                (first | (go_at_call 30; refine (SM.out _ (by exact (HBT.out).drew)).mono ?_; rintro e w9 ⟨rfl, hb9⟩))
              have HB9 := hid hb9
              clear hb9 d12
              go_wp2
              go_roundw
              case rel => exact ⟨t + 1, by omega, by go_num, HB9⟩
              case measure => simp [intOf]; omega
            · obtain rfl : t = j := by omega
              have HL9 := HL8.out.then HBT.out
              have HBW := hid (HB1.out.trans (HL9.below.mono Z1))
              have hut := upTo_le HSH.out t (by rw [HLL.out]; omega)
              have AP := HL9.append (by omega) (by show t + 1 ≤ _; omega) A' n' c' w.heap.size more ⟨0, HR.out wr HBW.out, HBW.out.size, fun b hb => .inr (Nat.le_trans Z1 (HL9.new b hb)), HA'.out, hc'⟩ (by omega)
              rw [app_LD (t + 1) more (by omega) (by rw [show (logB (nr 1 (ls.take t))).length = upTo ls t from rfl, HML.out]; omega)] at AP
              obtain ⟨M, hM⟩ : ∃ M, M = ls.take t ++ [more] := ⟨_, rfl⟩
              have hrM : nr 1 M = nr 1 (ls.take t) ++ [(t + 1, more)] := by rw [hM, nr_append, HTL.out, Nat.add_comm 1 t]; rfl
              have hcM : logB (nr 1 (ls.take t)) ++ frm (pay (t + 1, more)) = logB (nr 1 M) := by rw [hrM, logB_append, logB_one]
              have hlM : M.length = t + 1 := by rw [hM, List.length_append, HTL.out]; rfl
              have hsM : ∀ l ∈ M, l.length ≤ 100 := fun l hl => by
                rw [hM] at hl
                rcases List.mem_append.1 hl with h | h
                · exact HSH.out l (List.mem_of_mem_take h)
                · rw [List.mem_singleton] at h; rw [h, HML.out]; omega
              have hWM : WScans (logB (nr 1 M)) (nr 1 M) := wscans_log (nr_chain M (Nat.le_refl _) (by omega) (.inl rfl)) (nr_short fun l hl => by have := hsM l hl; omega)
              have hzM : (logB (nr 1 M)).length ≤ 116 * (t + 1) := by
                have h1 := upTo_le hsM M.length (Nat.le_refl _)
                unfold upTo at h1
                rw [List.take_of_length_le (Nat.le_refl _)] at h1
                omega
              rw [hcM] at AP
              have HAPP := hid AP
              have HRM := hid hrM
              have HWM := hid hWM
              have HZM := hid hzM
              have HUR := hid (HU8.out.below HBT.out HM8.out)
              have Z8r : m8 ≤ wr.heap.size := Nat.le_trans HM8.out HBT.out.size
              clear AP HL9 hut hM hrM hcM hlM hsM hWM hzM
              go_wp2_with fail
              refine HAPP.out.mono ?_
              rintro e w10 ⟨rfl, F10, L10, hT10, hF10⟩
              have OP2 := hid (open_log (w := w') (W := w10) L10.below.size L10.below L10.log.at_ L10.fit L10.new (by have := HZM.out; omega))
              have HU10 := hid (HUR.out.touch hT10 Z8r (fun i hi => by
                rcases List.mem_cons.1 hi with h | h
                · rw [h]; exact .inr HG8.out
                · rcases HF8.out i h with h | h
                  · exact .inl (HLT7.out i h)
                  · exact .inr h))
              have HF10 : Hid (∀ i ∈ F10, i < w7.heap.size ∨ m8 ≤ i) := hid fun i hi => by
                rcases hF10 i hi with h | h
                · rcases HF8.out i h with h | h
                  · exact .inl (HLT7.out i h)
                  · exact .inr h
                · exact .inr (Nat.le_trans Z8r h)
              have HL10 := hid L10
              have Z810 : m8 ≤ w10.heap.size := Nat.le_trans Z8r hT10.size
              clear HAPP L10 hT10 hF10 HUR
              go_wp2_with fail
              refine OP2.out.mono ?_
              rintro e w11 ⟨rs2, g3, F11, v11, us2, m11, hs11, rfl, hx11, hl11, hm11, hm11', L11, hT11, hF11, hg11⟩
              obtain rfl : rs2 = nr 1 M := wscans_unique hs11 HWM.out
              have hu2 : us2.length = t + 1 := by have := congrArg List.length hx11.out; rw [List.length_map, HRM.out, List.length_append, nr_len, HTL.out] at this; exact this
              have HU11 := hid (HU10.out.touch hT11 Z810 HF10.out)
              have hrl2 := hl11.out
              obtain ⟨A11, c11, rfl, _⟩ := hl11.out.shape
              rw [hu2] at hrl2 ⊢
              have REQ := recs_any _ _ _ _ _ _ (us2.take t) us w11 (hrl2.take (by omega)) HU11.out hm11' (Nat.le_trans Z810 hT11.size)
              unfold RecsPost at REQ
              rw [decide_eq_true (by rw [List.map_take, hx11.out, HX8.out, HRM.out, List.take_append_of_le_length (by rw [nr_len, HTL.out]; exact Nat.le_refl _), List.take_of_length_le (by rw [nr_len, HTL.out]; exact Nat.le_refl _)])] at REQ
              have HREQ := hid REQ
              obtain ⟨y2, hy2⟩ : ∃ y2, us2[t]? = some y2 := ⟨us2[t]'(by omega), List.getElem?_eq_getElem _⟩
              have hyr2 : y2.p = more := by
                have h1 := congrArg (fun l => l[t]?) hx11.out
                simp only [List.getElem?_map, hy2, HRM.out] at h1
                rw [List.getElem?_append_right (by rw [nr_len, HTL.out]; exact Nat.le_refl _), nr_len, HTL.out, Nat.sub_self] at h1
                simp only [Option.map_some, List.getElem?_cons_zero, Option.some.injEq] at h1
                exact congrArg Prod.snd h1
              obtain ⟨b2, o2', c2', hv2, hlo2, hhi2, _, hb2, _, _, hbd2⟩ := hrl2.at_ hy2
              injection hv2 with hv21 hv22 hv23
              subst hv21 hv23
              clear hv22
              obtain ⟨ys2, yp2, yA2, yn2, yc2⟩ := y2
              simp only at hyr2
              subst hyr2
              unfold RP.v at hb2
              rw [← Nat.add_assoc] at hb2
              simp only at hb2
              have hyn2 : yn2 ≤ 9223372036854775807 := by have := hbd2.2.2; simp only at this; unfold maxLen at this; omega
              have HBD2 := hid hbd2
              have HBW11 := hid (HB1.out.trans (L11.below.mono Z1))
              have K2 : Hid (∀ W, Below w11.heap.size w11 W → W.cell? ⟨b2, o2' + t * 2 + 1, none⟩ = some (.slice yA2 yn2 yc2)) := hid fun W hW => (hW.cell (p := ⟨b2, o2' + t * 2 + 1, none⟩) (by show b2 < _; omega)).trans hb2
              have SM2 : Hid (∀ W, Below w11.heap.size w11 W → Calls Try.prog 30 #[.slice yA2 yn2 yc2, .slice A' n' c'] W fun e w' => e = .returned (.bool true) ∧ Below w11.heap.size w11 w') := hid fun W hW => by
                have := (same_any yA2 A' yn2 n' yc2 c' _ _ 0 w.heap.size yp2 yp2 W (HBD2.out.1.below hW hm11') (HR.out W (HBW11.out.trans (hW.mono HBW11.out.size))) hyn2)
                rw [decide_eq_true rfl] at this
                exact this.mono fun e w' ⟨h1, j, h2⟩ => ⟨h1, by rw [h2]; exact below_drewN hW j⟩
              have hoff : g2 ∉ F11 := fun hm => by
                rcases hF11 g2 hm with h | h
                · exact HL10.out.log.off h
                · have := Blk.lt HL10.out.log.blk; omega
              have HL1 : Hid (LLog w' w11 g2 d F11 ⟨LD 1048576 (logB (nr 1 M)), t + 2, false⟩ 500) := hid ⟨⟨Blk.touch HL10.out.log.blk hT11 HL10.out.log.off, L11.log.at_, hoff⟩, L11.fit.mono (by omega), L11.new, HL10.out.newg, L11.below⟩
              have o3 : IntKind.i64.wrap ((t : Int) + 1) = (t : Int) + 1 := by simp [IntKind.wrap, IntKind.bits, IntKind.signed]; omega
              have o4 : IntKind.u64.wrap ((t : Int) + 1) = (t : Int) + 1 := by rw [IntKind.wrap_u64]; omega
              clear OP2 hs11 hx11 hl11 hm11 L11 hT11 hF11 hg11 HU10 HU11 REQ hoff HL10 hrl2 hbd2 hb2 hy2 hlo2
              go_wp2_with fail
              refine HREQ.out.mono ?_
              rintro e w12 ⟨rfl, hb12⟩
              have d12 := K2.out w12 hb12
              have SM3 := hid (SM2.out w12 hb12)
              clear hb12 HREQ
              go_wp2_with fail
              refine SM3.out.mono ?_
              rintro e w13 ⟨rfl, hb13⟩
              have HL13 := hid (HL1.out.then hb13)
              have SZ1 := at_size HL13.out.log.at_ logN log_len
              rw [dsize_log, if_neg (by rw [get_LD]; simp)] at SZ1
              obtain ⟨z2, hz2⟩ : ∃ z2, z2 = wSize (LD 1048576 (logB (nr 1 M))) := ⟨_, rfl⟩
              rw [← hz2] at SZ1
              have HZ2 := hid hz2
              have HSZ1 := hid SZ1
              clear hb13 SM3 SM2 SZ1 hz2 HL1 d12
              go_wp2_with fail
              rw [S_log]
              refine HSZ1.out.mono ?_
              rintro e w14 ⟨rfl, hb14⟩
              have HL14 := hid (HL13.out.then hb14)
              have SZ2 := HL14.out.size
              rw [show wSize (⟨LD 1048576 (logB (nr 1 M)), t + 2, false⟩ : WS).D = z2 from HZ2.out.symm] at SZ2
              have HSZ2 := hid SZ2
              clear hb14 HSZ1 SZ2 HL13
              go_wp2_with fail
              refine HSZ2.out.mono ?_
              rintro e w15 ⟨rfl, hb15⟩
              have HL15 := hid (HL14.out.then hb15)
              clear hb15 HSZ2 HL14
              go_wp2
              go_ret
              exact ⟨rfl, HB1.out.trans (HL15.out.below.mono Z1)⟩
end Go.Proofs.Ytchimkkpjdbdpaa
