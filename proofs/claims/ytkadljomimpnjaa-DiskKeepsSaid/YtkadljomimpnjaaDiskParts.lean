/-
  The walk of DiskParts.
-/
import Derived.Test.YtkadljomimpnjaaLives6
import Derived.Test.YtkadljomimpnjaaPartsMath
namespace Go.Proofs.Ytkadljomimpnjaa
open Go.RowKit Go.Maps Dsk
def Clear (G : List Nat) (lo hi : Nat) : Prop := ∀ b ∈ G, b < lo ∨ hi ≤ b
theorem Beside.clear {W W' : World} {G G' : List Nat} {lo hi : Nat} (B : Beside W W' G G') (h : Clear G lo hi) (hh : hi ≤ W.heap.size) : Clear G' lo hi := fun b hb => by
  rcases B.blocks b hb with h1 | h1
  · exact h b h1
  · exact .inr (Nat.le_trans hh h1)
theorem Row.aside {W W' : World} {G G' : List Nat} {lo hi n : Nat} {A : Option Addr} {xs : List Value} (h : Row W lo hi A n xs) (B : Beside W W' G G') (hc : Clear G lo hi) (hh : hi ≤ W.heap.size) : Row W' lo hi A n xs := h.touch B.touch hh hc
theorem live_clone {w W W' : World} {d c : Nat} {F G : List Nat} {D : Dk} {k : Nat} (L : Live w W d F D k) (hd : DAt W' c G D) (hG : ∀ b ∈ G, W.heap.size ≤ b) (hb : Below W.heap.size W W') : Live w W' c G D k ∧ ∀ b ∈ F, b ∉ G :=
  ⟨⟨hd, L.fit, fun b h => Nat.le_trans L.below.size (hG b h), (L.then hb).below⟩, fun b h1 h2 => by have := L.lt b h1; have := hG b h2; omega⟩
set_option maxHeartbeats 4000000 in
set_option maxRecDepth 20000 in
theorem parts_walk (size : Int) (A : Option Addr) (n c : Nat) (l : List Ar) (at_ : Int) (B : Option Addr) (m mc : Nat) (b : List UInt8) (w : World) (hl : Acts w w.heap.size A n l) (hn : n ≤ 9223372036854775807) (hR : Row w 0 w.heap.size B m (U b)) (hB : B = none → mc = 0) (hmc : m ≤ mc ∧ mc ≤ maxLen) :
    Calls Try.prog 7 #[.int .i64 size, .slice A n c, .int .i64 at_, .slice B m mc] w fun e w' => e = .returned (.bool true) ∧ Below w.heap.size w w' := by
  have LV := hid (lives_any w)
  have HL := hid hl
  have HRR := hid hR
  have HBB := hid hB
  have HMC := hid hmc
  have hbm : b.length = m := by have := hR.len; rwa [U_len] at this
  have HBM := hid hbm
  clear hl hR hB hmc hbm
  go_enter Try.func7, Try.ntmps7
  go_wp2_with fail
  refine LV.out.mono ?_
  rintro e w1 ⟨rfl, hb1⟩
  have HB1 := hid hb1
  clear LV hb1
  go_wp2_with fail
  refine (light_any A n c _ l w1 (HL.out.below HB1.out) hn).mono ?_
  rintro e w2 ⟨lb, rfl, hlight, rfl⟩
  cases lb
  case false =>
    go_wp2
    go_ret
    exact ⟨rfl, HB1.out⟩
  have HLT := hid (hlight rfl)
  clear hlight
  by_cases hm : m ≤ 120
  case neg =>
    go_wp2
    go_ret
    exact ⟨rfl, HB1.out⟩
  go_wp2_with fail
  refine (new_m w2 size).mono ?_
  rintro e w3 ⟨hb3, ⟨_, rfl⟩ | ⟨hs1, hs2, d, F, rfl, hd, hF⟩⟩
  · go_wp2
    go_ret
    exact ⟨rfl, HB1.out.trans (hb3.mono HB1.out.size)⟩
  have L0 := hid (live_new hb3 hs1 hs2 hd hF)
  have HS := hid (And.intro hs1 hs2)
  clear hb3 hd hF hs1 hs2
  have hlen : n ≤ 120 := by have := HLT.out.1; rw [HL.out.len] at this; exact this
  go_wp2
  go_loopw [11] (fun i wr => ∃ (k : Nat) (F : List Nat) (D : Dk), k ≤ n ∧ i = .int .i64 k ∧ Live w2 wr d F D k ∧ D.size = size) (fun i _ => n - (intOf i).toNat)
  case atStart => exact ⟨0, F, _, Nat.zero_le _, rfl, L0.out, rfl⟩
  case round =>
    obtain ⟨k, F1, D, hk, rfl, hL, hsz⟩ := hrel
    have L1 := hid hL
    have HSZ := hid hsz
    clear hL hsz
    by_cases hlt : k < n
    · obtain ⟨a, ha⟩ : ∃ a, l[k]? = some a := ⟨l[k]'(by rw [HL.out.len]; exact hlt), List.getElem?_eq_getElem _⟩
      obtain ⟨g, off, rfl, hgl, hcell⟩ := HL.out.at_ (by omega)
      have hbW : Below w.heap.size w wr := HB1.out.trans (L1.out.below.mono HB1.out.size)
      have CC : ∀ i v, a.cells[i]? = some v → wr.cell? ⟨g, off + k * 6 + i, none⟩ = some v := fun i v hv => (hbW.cell hgl).trans (hcell k a ha i v hv)
      have x0 : wr.cell? ⟨g, off + k * 6, none⟩ = some (.int .i64 a.kind) := CC 0 _ rfl
      have x1 := CC 1 _ rfl
      have x2 := CC 2 _ rfl
      have x3 := CC 3 _ rfl
      have x4 := CC 4 _ rfl
      have x5 := CC 5 _ rfl
      have HFA := hid ((HL.out.fine a (List.mem_of_getElem? ha)).below hbW)
      have HLA := hid (HLT.out.2 a (List.mem_of_getElem? ha))
      have HWB := hid hbW
      clear hcell ha hbW CC
      go_wp2_with fail
      refine (L1.out.act (by omega) a _ (Nat.le_trans (HB1.out).size L1.out.below.size) HFA.out HLA.out).mono ?_
      rintro e w4 ⟨rfl, F2, L2, _⟩
      clear x0 x1 x2 x3 x4 x5
      go_wp2
      go_roundw
      case rel => exact ⟨k + 1, F2, _, by omega, by go_num, L2, by rw [act_size]; exact HSZ.out⟩
      case measure => simp [intOf]; omega
    · obtain rfl : k = n := by omega
      go_wp2_with fail
      refine (L1.out.crash (by omega) 0 none 0 0 [] (arg_nil rfl) (by simp)).mono ?_
      rintro e w4 ⟨rfl, F2, L2, _⟩
      obtain ⟨E, hE⟩ : ∃ E, E = (dCrash D []).2 := ⟨_, rfl⟩
      have HON : Hid (On E) := hid (by rw [hE]; exact (on_crash D).2)
      have HES : Hid (E.size = size) := hid (by rw [hE]; exact HSZ.out)
      rw [← hE] at L2
      clear hE L1
      go_wp2_with fail
      refine (at_clone L2.at_ L2.fit (by omega)).mono ?_
      rintro e w5 ⟨x, GX, rfl, hdx, hGX, hb5⟩
      obtain ⟨LX, apX⟩ := live_clone L2 hdx hGX hb5
      have L3 := L2.then hb5
      clear L2 hdx hb5
      go_wp2_with fail
      refine (at_clone L3.at_ L3.fit (by omega)).mono ?_
      rintro e w6 ⟨y, GY, rfl, hdy, hGY, hb6⟩
      obtain ⟨LY, apY⟩ := live_clone L3 hdy hGY hb6
      have apXY : ∀ b ∈ GX, b ∉ GY := fun b h1 h2 => by have := LX.lt b h1; have := hGY b h2; omega
      have LX1 := LX.then hb6
      have L4 := L3.then hb6
      clear L3 LX hdy hb6 hGX hGY
      go_wp2_with fail
      obtain ⟨q, hq, hqe⟩ : ∃ q : Nat, q ≤ m ∧ at_ % ((m : Int) + 1) = (q : Int) := by
        have h1 := Int.emod_nonneg at_ (b := (m : Int) + 1) (by omega)
        have h2 := Int.emod_lt_of_pos at_ (b := (m : Int) + 1) (by omega)
        exact ⟨(at_ % ((m : Int) + 1)).toNat, by omega, by omega⟩
      refine (pick_at at_ ((m : Int) + 1) q w6 (by omega) (by omega) hqe).mono ?_
      rintro e w7 ⟨rfl, rfl⟩
      clear hqe
      go_wp2_with fail
      rw [S_one]
      refine (at_read L4.at_ L4.fit [98] (by decide)).mono ?_
      rintro e w8 ⟨v, rfl, OA, ol, oc, rfl, hOR, _, _, hoc, hb8⟩
      have LX2 := LX1.then hb8
      have LY2 := LY.then hb8
      have L5 := L4.then hb8
      have clX : Clear GX w6.heap.size w8.heap.size := fun g hg => .inl (LX1.lt g hg)
      have clY : Clear GY w6.heap.size w8.heap.size := fun g hg => .inl (LY.lt g hg)
      clear LX1 LY L4 hb8
      have HBW : Hid (w.heap.size ≤ w2.heap.size) := hid HB1.out.size
      have ARG : Hid (∀ (W : World) (G : List Nat), Below w2.heap.size w2 W → (∀ g ∈ G, w2.heap.size ≤ g) → ∀ (j : Nat), j ≤ m → Arg W G w.heap.size B j mc (U (b.take j))) := hid fun W G hW hG j hj => by
        have hbw := HB1.out.trans (hW.mono HB1.out.size)
        refine ⟨0, ?_, hbw.size, fun g hg => .inr (Nat.le_trans HBW.out (hG g hg)), HBB.out, by have := HMC.out; omega, HMC.out.2⟩
        have := (HRR.out.below hbw (Nat.le_refl _)).take hj
        rwa [U_take] at this
      have ARG2 : Hid (∀ (W : World) (G : List Nat), Below w2.heap.size w2 W → (∀ g ∈ G, w2.heap.size ≤ g) → ∀ (j : Nat), j ≤ m → Arg W G w.heap.size (if mc = j then B else B.map (·.add j)) (m - j) (mc - j) (U (b.drop j))) := hid fun W G hW hG j hj => by
        have hbw := HB1.out.trans (hW.mono HB1.out.size)
        refine ⟨0, ?_, hbw.size, fun g hg => .inr (Nat.le_trans HBW.out (hG g hg)), ?_, by have := HMC.out; omega, by have := HMC.out; omega⟩
        · have := (HRR.out.below hbw (Nat.le_refl _)).drop hj HMC.out.1
          rwa [U_drop] at this
        · intro e
          split at e
          · omega
          · cases B with
            | none => rw [HBB.out rfl]; omega
            | some a => cases e
      have bt : b.take m = b := List.take_of_length_le (by rw [HBM.out]; exact Nat.le_refl _)
      have ARG0 := ARG.out w8 GX LX2.below LX2.new m (Nat.le_refl _)
      rw [bt] at ARG0
      have AR0 := hid ARG0
      clear ARG0 bt
      go_wp2_with fail
      rw [S_one]
      refine (LX2.append (by omega) [97] (by decide) _ _ m mc b AR0.out).mono ?_
      by_cases hfull : E.size < used E.fs + (b.length : Int)
      · have e1 : dAppend E [97] b = (7, E) := by rw [append_on HON.out (by decide), if_pos hfull]
        rw [e1]
        rintro e w9 ⟨rfl, G2, LX3, BX⟩
        obtain ⟨L6, apX2⟩ := L5.beside BX LX3.below (fun g h1 h2 => apX g h2 h1)
        have HF : Hid (size < (used E.fs : Int) + (m : Int)) := hid (by have h1 := HES.out; have h2 := HBM.out; omega)
        have HU : Hid ((used E.fs : Int) ≤ 1099511627776) := hid (by have h1 := L6.fit.whole.room; have h2 := L6.fit.whole.top; omega)
        clear hfull e1 LX2 LY2 L5 BX
        go_wp2_with fail
        refine (at_same LX3.at_ L6.at_ LX3.fit L6.fit).mono ?_
        rw [decide_eq_true (rfl : E = E)]
        rintro e w10 ⟨rfl, hb10⟩
        have L7 := L6.then hb10
        clear L6 hb10 LX3
        go_wp2_with fail
        refine (at_used L7.at_ L7.fit).mono ?_
        rintro e w11 ⟨rfl, hb11⟩
        have L8 := L7.then hb11
        clear L7 hb11
        have hf := HF.out
        have hu := HU.out
        generalize (used E.fs) = ue at *
        go_wp2
        go_ret
        exact ⟨rfl, HB1.out.trans (L8.below.mono HB1.out.size)⟩
      · obtain ⟨t1, t2, t3, t4, t5⟩ := parts_tail HON.out L5.fit.whole b hfull
        obtain ⟨p1, p2⟩ := append_parts HON.out L5.fit.whole (n := [97]) (by decide) b q hfull
        rintro e w9 ⟨he, G2, LX3, BX⟩
        rw [t1] at he
        subst he
        obtain ⟨L6, apX2⟩ := L5.beside BX LX3.below (fun g h1 h2 => apX g h2 h1)
        obtain ⟨LY3, apXY2⟩ := LY2.beside BX LX3.below apXY
        have clX2 := BX.clear clX (Nat.le_refl _)
        have hOR2 := hOR.aside BX clX (Nat.le_refl _)
        have hsz9 : w8.heap.size ≤ w9.heap.size := BX.touch.size
        clear LX2 LY2 L5 BX clX hOR apX apXY
        have T2 := hid t2
        have T3 := hid t3
        have T4 := hid t4
        have T5 := hid t5
        have P1 := hid p1
        have P2 := hid p2
        have T1 := hid t1
        clear t1 t2 t3 t4 t5 p1 p2 hfull
        have hqc : q ≤ mc := by have := HMC.out; omega
        have hmc1 : m ≤ mc := HMC.out.1
        have A1 := hid (ARG.out w9 GY LY3.below LY3.new q hq)
        go_wp2_with fail
        rw [S_one]
        refine (LY3.append (by omega) [97] (by decide) _ _ q mc (b.take q) A1.out).mono ?_
        rintro e w10 ⟨he, GY2, LY4, BY⟩
        rw [P1.out] at he
        subst he
        obtain ⟨LX4, apYX⟩ := LX3.beside BY LY4.below (fun g h1 h2 => apXY2 g h2 h1)
        obtain ⟨L7, apY2⟩ := L6.beside BY LY4.below (fun g h1 h2 => apY g h2 h1)
        have clY2 := BY.clear clY hsz9
        have hOR3 := hOR2.aside BY clY hsz9
        have hsz10 : w8.heap.size ≤ w10.heap.size := Nat.le_trans hsz9 BY.touch.size
        have A2 := ARG2.out w10 GY2 LY4.below LY4.new q hq
        clear LY3 LX3 L6 BY clY hOR2 apY apXY2 hsz9 A1
        have hcase : mc = q ∨ mc ≠ q := by omega
        have HMQ := hid hq
        rcases hcase with hc | hc
        case' inl =>
          rw [if_pos hc] at A2
          have hz : mc - q = 0 := by omega
          rw [hz] at A2
          have A3 := hid A2
          clear A2 hz
          go_wp2_with fail
          rw [S_one]
          refine (LY4.append (by omega) [97] (by decide) _ _ (m - q) 0 (b.drop q) A3.out).mono ?_
        case' inr =>
          rw [if_neg hc] at A2
          have A3 := hid A2
          clear A2
          go_wp2_with fail
          rw [S_one]
          refine (LY4.append (by omega) [97] (by decide) _ _ (m - q) (mc - q) (b.drop q) A3.out).mono ?_
        all_goals
          rw [P2.out]
          rintro e w11 ⟨he, GY3, LY5, BY⟩
          rw [T1.out] at he
          subst he
          obtain ⟨LX5, _⟩ := LX4.beside BY LY5.below apYX
          obtain ⟨L8, _⟩ := L7.beside BY LY5.below apY2
          have hOR4 := hOR3.aside BY clY2 hsz10
          have hsz11 : w8.heap.size ≤ w11.heap.size := Nat.le_trans hsz10 BY.touch.size
          clear LY4 LX4 L7 BY clY2 hOR3 apY2 apYX hsz10 A3
          have HQ1 := hid hqc
          have HQ2 := hid hmc1
          have HQ3 := hid hc
          have HQ4 := hid hq
          clear hqc hmc1 hc hq
          go_wp2_with fail
          refine (at_same LX5.at_ LY5.at_ LX5.fit LY5.fit).mono ?_
          rw [decide_eq_true (rfl : (dAppend E [97] b).2 = (dAppend E [97] b).2)]
          rintro e w12 ⟨rfl, hb12⟩
          have LX6 := LX5.then hb12
          have L9 := L8.then hb12
          have hOR5 := hOR4.below hb12 hsz11
          have hsz12 := Nat.le_trans hsz11 hb12.size
          clear LX5 L8 hOR4 LY5 hb12 hsz11
          go_wp2_with fail
          refine (at_used LX6.at_ LX6.fit).mono ?_
          rw [T2.out]
          rintro e w13 ⟨rfl, hb13⟩
          have LX7 := LX6.then hb13
          have L10 := L9.then hb13
          have hOR6 := hOR5.below hb13 hsz12
          have hsz13 := Nat.le_trans hsz12 hb13.size
          clear LX6 L9 hOR5 hb13 hsz12
          go_wp2_with fail
          refine (at_used L10.at_ L10.fit).mono ?_
          rintro e w14 ⟨rfl, hb14⟩
          have LX8 := LX7.then hb14
          have L11 := L10.then hb14
          have hOR7 := hOR6.below hb14 hsz13
          have hsz14 := Nat.le_trans hsz13 hb14.size
          have hu : (used E.fs : Int) ≤ 1099511627776 := by have h1 := L11.fit.whole.room; have h2 := L11.fit.whole.top; omega
          clear LX7 L10 hOR6 hb14 hsz13
          rw [HBM.out]
          generalize (used E.fs) = ue at *
          go_wp2_with fail
          rw [S_one]
          refine (LX8.sync [97] (by decide)).mono ?_
          rintro e w15 ⟨rfl, GX3, LX9, BX⟩
          have clX3 := BX.clear clX2 hsz14
          have hOR8 := hOR7.aside BX clX2 hsz14
          have hsz15 := Nat.le_trans hsz14 BX.touch.size
          clear LX8 L11 hOR7 BX clX2 hsz14
          go_wp2_with fail
          rw [S_one]
          refine (LX9.cut [97] 0 (by decide)).mono ?_
          rintro e w16 ⟨rfl, GX4, LX10, BX⟩
          have clX4 := BX.clear clX3 hsz15
          have hOR9 := hOR8.aside BX clX3 hsz15
          have hsz16 := Nat.le_trans hsz15 BX.touch.size
          clear LX9 hOR8 BX clX3 hsz15
          go_wp2_with fail
          rw [S_one]
          refine (LX10.delete [97] (by decide)).mono ?_
          rintro e w17 ⟨rfl, GX5, LX11, BX⟩
          have hOR10 := hOR9.aside BX clX4 hsz16
          have hsz17 := Nat.le_trans hsz16 BX.touch.size
          clear LX10 hOR9 BX clX4 hsz16
          go_wp2_with fail
          rw [S_one]
          refine (at_read LX11.at_ LX11.fit [98] (by decide)).mono ?_
          rw [T3.out, T4.out]
          rintro e w18 ⟨v, rfl, NA, nl, nc, rfl, hNR, _, _, hnc, hb18⟩
          have LX12 := LX11.then hb18
          have hOR11 := hOR10.below hb18 hsz17
          clear LX11 hOR10 hsz17 hb18
          have hnl : nl ≤ 9223372036854775807 := by unfold maxLen at hnc; omega
          have HNL := hid hnl
          clear hnc hoc hnl
          go_wp2_with fail
          refine (same_yes NA OA nl ol nc oc _ _ _ _ _ _ w18 hNR hOR11 HNL.out rfl).mono ?_
          rintro e w19 ⟨rfl, kk, rfl⟩
          have LX13 := LX12.draws kk
          clear LX12 hNR hOR11
          go_wp2_with fail
          rw [S_one]
          refine (at_size LX13.at_ [97] (by decide)).mono ?_
          rw [T5.out]
          rintro e w20 ⟨rfl, hb20⟩
          have LX14 := LX13.then hb20
          go_wp2
          go_ret
          exact ⟨rfl, HB1.out.trans (LX14.below.mono HB1.out.size)⟩
end Go.Proofs.Ytkadljomimpnjaa
