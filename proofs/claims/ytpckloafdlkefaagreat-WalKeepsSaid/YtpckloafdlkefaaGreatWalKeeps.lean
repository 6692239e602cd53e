/-
  The walk of WalKeeps.
-/
import Derived.Test.YtpckloafdlkefaaGreatWalB
import Derived.Test.YtpckloafdlkefaaGreatLight8
import Derived.Test.YtpckloafdlkefaaGreatKept
import Derived.Test.YtpckloafdlkefaaGreatRecsEq
import Derived.Test.YtpckloafdlkefaaGreatOwnInts
namespace Go.Proofs.YtpckloafdlkefaaGreat
set_option maxRecDepth 40000
open Go.RowKit Go.Joins Go.Maps Dsk Regs

set_option maxHeartbeats 8000000 in
theorem keeps_walk (size : Int) (A : Option Addr) (n c : Nat) (l : List Ar) (w : World) (hl : Acts w w.heap.size A n l) (hn : n ≤ 9223372036854775807) :
    Calls Tryz.prog 3 #[.int .i64 size, .slice A n c] w fun e w' => e = .returned (.bool true) ∧ Below w.heap.size w w' := by
  have LV := hid (lives_any w)
  have HL := hid hl
  clear hl
  go_enter Tryz.func3, Tryz.ntmps3
  go_wp2_with fail
  refine LV.out.mono ?_
  rintro e w1 ⟨rfl, hb1⟩
  have HB1 := hid hb1
  have LI := hid (light8_any A n c _ l w1 (HL.out.below hb1) hn)
  clear LV hb1
  go_wp2_with fail
  refine LI.out.mono ?_
  rintro e w2 ⟨lb, rfl, hlight, rfl⟩
  cases lb
  case false =>
    go_wp2
    go_ret
    exact ⟨rfl, HB1.out⟩
  have HLT := hid (hlight rfl)
  have NW := hid (new_m w2 size)
  clear hlight LI
  go_wp2_with fail
  refine NW.out.mono ?_
  rintro e w3 ⟨hb3, ⟨_, rfl⟩ | ⟨hs1, hs2, d, F, rfl, hd, hF⟩⟩
  · go_wp2
    go_ret
    exact ⟨rfl, HB1.out.trans (hb3.mono HB1.out.size)⟩
  have ON := hid (open_new (live_new hb3 hs1 hs2 hd hF))
  clear hb3 hd hF hs1 hs2 NW
  have hlen : n ≤ 100 := by have := HLT.out.1; rw [HL.out.len] at this; exact this
  go_wp2_with fail
  refine ON.out.mono ?_
  rintro e w4 ⟨g0, F0, A4, c4, rfl, L4, _⟩
  have e4 := eql_ptr w4 g0
  have KS0 : Hid (KS w2 w4 g0 d F0 ⟨ND size, 1, false⟩ 0 [] none (.slice none 0 0) [] (.slice none 0 0)) := hid
    ⟨L4, ⟨trivial, (fun r hr => by cases hr), .inl rfl, Nat.le_refl _, .inl ⟨rfl, rfl⟩, fun _ => ⟨rfl, rfl⟩⟩, Kept.nil _ _ _, rfl, .inl ⟨rfl, rfl⟩, Nat.le_refl _, (fun r hr => by cases hr), (fun b hb => by cases hb), Nat.le_refl _⟩
  clear L4 ON
  go_wp2
  go_loopw [7, 9, 10, 11, 12] (fun wv v u cv i wr => ∃ (k g : Nat) (F : List Nat) (s : WS) (hv : List Rec) (un : Option (List UInt8)) (xs : List RP) (cut : Bool), k ≤ n ∧ i = .int .i64 (k : Int) ∧ wv = ptr g ∧ cv = .bool cut ∧ Hid (KS w2 wr g d F s k hv un v xs u)) (fun _ _ _ _ i _ => n - (intOf i).toNat)
  case atStart => exact ⟨0, g0, F0, _, [], none, [], false, Nat.zero_le _, rfl, rfl, rfl, KS0⟩
  case round =>
    clear KS0 e4
    obtain ⟨k, g, F, s, hv, un, xs, cut, hk, rfl, rfl, rfl, HK⟩ := hrel
    by_cases hlt : k < n
    · obtain ⟨a, ha⟩ : ∃ a, l[k]? = some a := ⟨l[k]'(by rw [HL.out.len]; exact hlt), List.getElem?_eq_getElem _⟩
      obtain ⟨b, off, rfl, hbl, hcell⟩ := HL.out.at_ (by omega)
      have hbW : Below w.heap.size w wr := HB1.out.trans (HK.out.log.below.mono HB1.out.size)
      have CC : ∀ i v, a.cells[i]? = some v → wr.cell? ⟨b, off + k * 4 + i, none⟩ = some v := fun i v hv => (hbW.cell hbl).trans (hcell k a ha i v hv)
      have x0 : wr.cell? ⟨b, off + k * 4, none⟩ = some (.int .i64 a.kind) := CC 0 _ rfl
      have x1 := CC 1 _ rfl
      have x2 := CC 2 _ rfl
      have x3 := CC 3 _ rfl
      have HFA := hid ((HL.out.fine a (List.mem_of_getElem? ha)).below hbW)
      have HLA := hid (HLT.out.2 a (List.mem_of_getElem? ha))
      have HBW := hid hbW
      have HF0 := hid (HL.out.fine a (List.mem_of_getElem? ha))
      obtain ⟨x, hx⟩ : ∃ x, a.kind % 8 = x := ⟨_, rfl⟩
      have hx8 : 0 ≤ x ∧ x < 8 := by omega
      have PK := hid (fun W : World => pick_at a.kind 8 x W (by omega) (by omega) hx)
      obtain ⟨w5, hw5⟩ : ∃ w5, w5 = wr.alloc (.cells #[.int .i64 a.kind, .int .i64 a.n, .slice a.ba a.bl a.bc, .slice a.ka a.kl a.kc] 36) := ⟨_, rfl⟩
      have hb5 : Below wr.heap.size wr w5 := by rw [hw5]; exact (Below.refl _ _).alloc (Nat.le_refl _) _
      have HK5 := hid (HK.out.then hb5)
      have HBK : Hid (Blk w5 wr.heap.size 36 #[.int .i64 a.kind, .int .i64 a.n, .slice a.ba a.bl a.bc, .slice a.ka a.kl a.kc]) := hid (by rw [hw5]; exact Blk.new wr _ _)
      have HFR := hid HK.out.lt
      have HBW5 : Hid (Below w.heap.size w w5) := hid (HBW.out.trans (hb5.mono HBW.out.size))
      have HW5 := hid hw5
      have hbl1 : a.bl ≤ 100 := HLA.out.1
      have hkl1 : a.kl ≤ 9 := HLA.out.2.1
      have HBLL : Hid (a.b.length = a.bl) := hid (by have := HF0.out.rb.len; rwa [U_len] at this)
      clear hcell ha hbW CC hx hw5 hb5 HK HFA
      go_wp2_with fail
      rw [← HW5.out]
      refine (PK.out _).mono ?_
      rintro e w' ⟨rfl, rfl⟩
      clear x0 x1 x2 x3 PK
      rcases (show x < 4 ∨ x = 4 ∨ x = 5 ∨ x = 6 ∨ x = 7 by omega) with h4 | rfl | rfl | rfl | rfl
      · as_aux_lemma =>
          have q4 : (x == (4 : Int)) = false := by simp; omega
          have q6 : (x == (6 : Int)) = false := by simp; omega
          have q7 : (x == (7 : Int)) = false := by simp; omega
          obtain ⟨br, hbr⟩ : ∃ br, br = s.br := ⟨_, rfl⟩
          have BR : Hid (Calls Tryz.prog 10 #[ptr g] w5 fun e w' => e = .returned (.bool br) ∧ w' = w5) := hid (by rw [hbr]; exact broken_w HK5.out.log.log.blk)
          have HBR := hid hbr
          clear hbr
          cases br
          case true =>
            go_wp2_with fail
            refine BR.out.mono ?_
            rintro e w6 ⟨rfl, rfl⟩
            clear BR
            go_wp2
            go_roundw
            case rel => exact ⟨k + 1, g, F, s, hv, un, xs, cut, by omega, by go_num, rfl, rfl, hid HK5.out.pass⟩
            case measure => simp [intOf]; omega
          case false =>
            have NX := hid (next_w HK5.out.log.log.blk)
            have OW := hid (own_any a.ba a.bl a.bc 0 w.heap.size a.b w5 (HF0.out.below HBW5.out).rb HF0.out.nb HBW5.out.size (by omega))
            have y2 : w5.cell? ⟨wr.heap.size, 2, none⟩ = some (.slice a.ba a.bl a.bc) := HBK.out.cell 2
            have hs62 : s.nx ≤ 4611686018427387904 := by have := HK5.out.next; omega
            go_wp2_with fail
            refine BR.out.mono ?_
            rintro e w6 ⟨rfl, rfl⟩
            clear BR
            go_wp2_with fail
            refine NX.out.mono ?_
            rintro e w7 ⟨rfl, rfl⟩
            clear NX
            go_wp2_with fail
            refine OW.out.mono ?_
            rintro e w8 ⟨A8, n8, c8, rfl, hl8, hA8, hown8, hb8⟩
            have HK8 := hid (HK5.out.then hb8)
            have AP := HK8.out.log.append (by omega) (by omega) A8 n8 c8 _ a.b (own_arg hown8 (fun b hb => HK5.out.lt b (List.mem_cons_of_mem _ hb))) (by have := hl8.out; have := HBLL.out; omega)
            have HBK8 := hid (Blk.below HBK.out hb8 (Blk.lt HBK.out))
            obtain ⟨r, hr⟩ : ∃ r, r = wApp s a.b := ⟨_, rfl⟩
            rw [← hr] at AP
            have HAP := hid AP
            have HR := hid hr
            clear AP hr OW y2 hown8 hb8 hl8 hA8
            go_wp2_with fail
            refine HAP.out.mono ?_
            rintro e w9 ⟨rfl, hN⟩
            have hT9 : Touch w8 w9 (g :: F) := by obtain ⟨_, _, h, _⟩ := hN; exact h
            have HBK9 := hid (Blk.touch HBK8.out hT9 (fun h => by have := HFR.out _ h; omega))
            have hN' := hN
            rw [HR.out] at hN'
            have HN := hid hN'
            have hbl2 : a.b.length ≤ 100 := by have := HBLL.out; omega
            clear HAP hN hN' hT9
            by_cases h0 : r.1 = 0
            · have e0 : (r.1 == 0) = true := by simp [h0]
              obtain ⟨hs, F9, L9, K9, lt9, FIN⟩ := HK8.out.app0 HBR.out.symm hbl2 HN.out (by rw [← HR.out]; exact h0) (by omega)
              rw [← HR.out] at hs L9 FIN
              have e1 : ((r.2.1 : Int) != (s.nx : Int)) = false := by rw [hs]; simp
              have HS := hid hs
              have HL9 := hid L9
              have HK9 := hid K9
              have HLT9 := hid lt9
              have HFIN := hid FIN
              have HBW9 := hid (HB1.out.trans (L9.below.mono HB1.out.size))
              have OW := hid (own_any a.ba a.bl a.bc 0 w.heap.size a.b w9 (HF0.out.below HBW9.out).rb HF0.out.nb HBW9.out.size (by omega))
              have y2 : w9.cell? ⟨wr.heap.size, 2, none⟩ = some (.slice a.ba a.bl a.bc) := HBK9.out.cell 2
              clear hs L9 K9 lt9 FIN h0
              go_wp2_with fail
              refine OW.out.mono ?_
              rintro e w10 ⟨A10, n10, c10, rfl, hl10, hA10, hown10, hb10⟩
              obtain ⟨hc10, hc10'⟩ := own_caps hown10
              have hK10 := HK9.out.then hb10
              have hL10 := HL9.out.then hb10
              have HLT10 : Hid (∀ e ∈ g :: F9, e < w10.heap.size) := hid fun e he => Nat.lt_of_lt_of_le (HLT9.out e he) hb10.size
              obtain ⟨w11, hw11⟩ : ∃ w11, w11 = w10.alloc (.cells #[.int .u64 (r.2.1 : Int), .slice A10 n10 c10] 44) := ⟨_, rfl⟩
              have hb11 : Below w10.heap.size w10 w11 := by rw [hw11]; exact (Below.refl _ _).alloc (Nat.le_refl _) _
              have HY := hid (show Saf w11 (u9.ownBlock.toList ++ g :: F9) ⟨r.2.1, a.b, A10, n10, c10⟩ from ⟨w9.heap.size, w10.heap.size, ⟨(Row.of_own hown10).below hb11 (Nat.le_refl _), hA10.out, hc10, hc10'⟩, hb11.size, fun e he => by
                rcases List.mem_append.1 he with he | he
                · exact .inl (HK9.out.own.lt e (by simpa using he)).2
                · exact .inl (HLT9.out e he)⟩)
              have HK11 := hid (hK10.then hb11)
              have HL11 := hid (hL10.then hb11)
              have HZ11 : Hid (w2.heap.size ≤ w11.heap.size) := hid HL11.out.below.size
              have HW11 := hid hw11
              have HRN : Hid (∀ j u, (RCs [(⟨r.2.1, a.b, A10, n10, c10⟩ : RP)])[j]? = some u → w11.cell? ⟨w10.heap.size, j, none⟩ = some u) := hid (by rw [hw11]; exact rcs_new w10 _ _ _ _ _ rfl)
              have HLT11 : Hid (∀ e ∈ g :: F9, e < w11.heap.size) := hid fun e he => Nat.lt_of_lt_of_le (HLT10.out e he) hb11.size
              have hxl : xs.length ≤ 1000 := by have h1 := congrArg List.length HK5.out.recs; have h2 := HK5.out.few; rw [List.length_map] at h1; omega
              clear hown10 hb10 hb11 hw11 hK10 hL10 OW y2 hl10 hA10 hc10 hc10' e0 e1
              go_wp2_with (at_builtin; go_loud (rw [← HW11.out]; refine wpList_append_rec _ rfl _ _ 30 rfl w2.heap.size Tryz.underlying30 _ xs.length xs rfl HK11.out.own w10.heap.size 1 rfl ⟨r.2.1, a.b, A10, n10, c10⟩ HRN.out (by omega) HZ11.out ?_); intro v12 w12 own12 grow12 at12)
              have K12 := HK11.out.add HY.out HLT11.out own12 grow12 at12
              have L12 := HL11.out.aside (touch_grown (F := u9.ownBlock.toList) grow12 (fun e he => by have he' : u9.ownBlock = some e := he; rw [he']; simp)) (fun e he => by
                have he' : u9.ownBlock = some e := by simpa using he
                exact ⟨HK11.out.off e he', (HK11.out.own.lt e he').1⟩)
              exact ⟨⟨k + 1, g, F9, r.2.2, _, none, _, cut, by omega, by go_num, rfl, rfl, hid (HFIN.out w12 v12 _ L12 K12 (by show (r.2.1, a.b) = _; rw [HS.out]))⟩, by simp [intOf]; omega⟩
            · have e0 : (r.1 == 0) = false := by simpa using h0
              obtain ⟨F9, FIN⟩ := HK8.out.app1 HBR.out.symm hbl2 HN.out (by rw [← HR.out]; exact h0) (by omega)
              rw [← HR.out] at FIN
              rcases FIN with ⟨hb9, K9⟩ | ⟨hb9, L9, lt9, FIN⟩
              · have BR := broken_w K9.log.log.blk
                rw [hb9] at BR
                have HBR9 := hid BR
                have HK9 := hid K9
                clear BR K9 h0
                go_wp2_with fail
                refine HBR9.out.mono ?_
                rintro e w10 ⟨rfl, rfl⟩
                go_wp2
                go_roundw
                case rel => exact ⟨k + 1, g, F9, r.2.2, hv, none, xs, cut, by omega, by go_num, rfl, rfl, HK9⟩
                case measure => simp [intOf]; omega
              · have BR := broken_w L9.log.blk
                rw [hb9] at BR
                have HBR9 := hid BR
                have HL9 := hid L9
                have HLT9 := hid lt9
                have HFIN := hid FIN
                have HBW9 := hid (HB1.out.trans (L9.below.mono HB1.out.size))
                have y2 : w9.cell? ⟨wr.heap.size, 2, none⟩ = some (.slice a.ba a.bl a.bc) := HBK9.out.cell 2
                have hlt9 : wr.heap.size < w9.heap.size := Blk.lt HBK9.out
                obtain ⟨i0, hi, hz0, hz1, hz2⟩ := info_parts info5
                obtain ⟨w10, hw10⟩ : ∃ w10, w10 = w9.alloc (.cells #[.int .u8 1] 5) := ⟨_, rfl⟩
                have hb10 : Below w9.heap.size w9 w10 := by rw [hw10]; exact (Below.refl _ _).alloc (Nat.le_refl _) _
                have HO10 : Hid (w10.ownsRow w9.heap.size 5 1 (.slice (some ⟨w9.heap.size, 0, none⟩) 1 1) 1 (U [1])) := hid (by rw [hw10]; exact own_lit w9 _ (U [1]) (by unfold maxLen; simp [U]))
                have HR10 := hid ((HF0.out.below (HBW9.out.trans (hb10.mono HBW9.out.size))).rb)
                have HB10 := hid hb10
                have HW10 := hid hw10
                clear BR L9 lt9 FIN h0 hb10 hw10
                go_wp2_with fail
                refine HBR9.out.mono ?_
                rintro e w9 ⟨rfl, rfl⟩
                clear HBR9
                go_wp2_with (at_builtin; go_loud (rw [← HW10.out]; refine wpList_append_row _ rfl _ _ 33 rfl w9.heap.size 5 i0 (.int .u8 0) 1 Tryz.underlying33 hi hz0 hz1 hz2 rfl (.slice (some ⟨w9.heap.size, 0, none⟩) 1 1) 1 (U [1]) rfl HO10.out 0 w.heap.size a.ba a.bl a.bc rfl HF0.out.nb (U a.b) HR10.out (U_one _) (by unfold maxLen; omega) (by omega) HB10.out.size ?_); intro v12 w12 own12 grow12 at12)
                have hb12 : Below w9.heap.size w9 w12 := HB10.out.grown grow12 HB10.out.size (fun e he => (HO10.out.lt e he).1)
                obtain ⟨A12, c12, rfl, _, _⟩ := own_shape own12
                obtain ⟨hc12, hc12'⟩ := own_caps own12
                exact ⟨⟨k + 1, g, F9, r.2.2, hv, some a.b, xs, cut, by omega, by go_num, rfl, rfl, hid (HFIN.out w12 _ hb12 (.inr ⟨a.b, A12, 1 + a.bl, c12, w9.heap.size, w12.heap.size, rfl, rfl, Row.of_own own12, hc12, hc12', Nat.le_refl _, fun e he => .inl (HLT9.out e he)⟩))⟩, by simp [intOf]; omega⟩
      · as_aux_lemma =>
          obtain ⟨br, hbr⟩ : ∃ br, br = s.br := ⟨_, rfl⟩
          have BR : Hid (Calls Tryz.prog 10 #[ptr g] w5 fun e w' => e = .returned (.bool br) ∧ w' = w5) := hid (by rw [hbr]; exact broken_w HK5.out.log.log.blk)
          have HBR := hid hbr
          clear hbr
          cases br
          case true =>
            go_wp2_with fail
            refine BR.out.mono ?_
            rintro e w6 ⟨rfl, rfl⟩
            clear BR
            go_wp2
            go_roundw
            case rel => exact ⟨k + 1, g, F, s, hv, un, xs, cut, by omega, by go_num, rfl, rfl, hid HK5.out.pass⟩
            case measure => simp [intOf]; omega
          case false =>
            have RS := HK5.out.log.reset
            obtain ⟨r, hr⟩ : ∃ r, r = wReset s := ⟨_, rfl⟩
            rw [← hr] at RS
            have HRS := hid RS
            have HR := hid hr
            clear RS hr
            go_wp2_with fail
            refine BR.out.mono ?_
            rintro e w6 ⟨rfl, rfl⟩
            clear BR
            go_wp2_with fail
            refine HRS.out.mono ?_
            rintro e w7 ⟨rfl, hN⟩
            rw [HR.out] at hN
            have HN := hid hN
            clear HRS hN
            by_cases h0 : r.1 = 0
            · have e0 : (r.1 == 0) = true := by simp [h0]
              obtain ⟨F9, K9⟩ := HK5.out.reset0 HBR.out.symm HN.out (by rw [← HR.out]; exact h0)
              have HK9 := hid K9
              clear K9 h0
              go_wp2
              go_roundw
              case rel => exact ⟨k + 1, g, F9, _, [], none, [], cut, by omega, by go_num, rfl, rfl, HK9⟩
              case measure => simp [intOf]; omega
            · have e0 : (r.1 == 0) = false := by simpa using h0
              obtain ⟨F9, K9⟩ := HK5.out.reset1 HBR.out.symm HN.out (by rw [← HR.out]; exact h0)
              have HK9 := hid K9
              clear K9 h0
              go_wp2
              go_roundw
              case rel => exact ⟨k + 1, g, F9, _, hv, none, xs, true, by omega, by go_num, rfl, rfl, HK9⟩
              case measure => simp [intOf]; omega
      · as_aux_lemma =>
          go_wp2
          go_roundw
          case rel => exact ⟨k + 1, g, F, s, hv, un, xs, cut, by omega, by go_num, rfl, rfl, hid HK5.out.pass⟩
          case measure => simp [intOf]; omega
      · as_aux_lemma =>
          obtain ⟨y, hy⟩ : ∃ y, a.n % 7 = y := ⟨_, rfl⟩
          have hy7 : 0 ≤ y ∧ y < 7 := by omega
          have PK := hid (fun W : World => pick_at a.n 7 y W (by omega) (by omega) hy)
          have FU := hid (HK5.out.log.fuse y (by omega))
          have y1 : w5.cell? ⟨wr.heap.size, 1, none⟩ = some (.int .i64 a.n) := HBK.out.cell 1
          clear hy
          go_wp2_with fail
          refine (PK.out _).mono ?_
          rintro e w' ⟨rfl, rfl⟩
          clear PK
          go_wp2_with fail
          refine FU.out.mono ?_
          rintro e w7 ⟨rfl, hN⟩
          obtain ⟨F9, K9⟩ := HK5.out.fused hN
          have HK9 := hid K9
          clear K9 hN FU
          go_wp2
          go_roundw
          case rel => exact ⟨k + 1, g, F9, _, hv, un, xs, cut, by omega, by go_num, rfl, rfl, HK9⟩
          case measure => simp [intOf]; omega
      · as_aux_lemma =>
          have hnx : s.nx ≤ 4611686018427387904 := by have := HK5.out.next; omega
          have hneg : a.ks.any (fun x => decide (x < 0)) = false := by
            rw [List.any_eq_false]
            intro y hy
            have := HLA.out.2.2 y hy
            simp; omega
          obtain ⟨m, hw, hm, h0, hr9, hop, hH, hlen7⟩ := holds_crash HK5.out.holds hnx a.ks hneg
          have hfl := holds_len HK5.out.holds HK5.out.low HK5.out.und_low
          have hfew := HK5.out.few
          have OI := hid (own_ints a.ka a.kl a.kc 0 w.heap.size a.ks w5 (HF0.out.below HBW5.out).rk HF0.out.nk HBW5.out.size (by omega))
          have y3 : w5.cell? ⟨wr.heap.size, 3, none⟩ = some (.slice a.ka a.kl a.kc) := HBK.out.cell 3
          obtain ⟨D1, hD1⟩ : ∃ D1, D1 = (dCrash s.D a.ks).2 := ⟨_, rfl⟩
          rw [← hD1] at hw hr9 hop hH hlen7
          have HW := hid hw
          have HM := hid hm
          have HR9 := hid hr9
          have HOP := hid hop
          have HHO := hid hH
          have HL7 : Hid ((Dsk.file D1 logN).b.length ≤ 300000) := hid (by omega)
          have HAF := hid (ks_after HK5.out hm)
          have H0 := hid h0
          have HD1 := hid hD1
          clear hw hm h0 hr9 hop hH hlen7 hfl hfew hneg hD1
          go_wp2_with fail
          refine OI.out.mono ?_
          rintro e w6 ⟨A6, n6, c6, rfl, hl6, hA6, hown6, hb6⟩
          have HK6 := hid (HK5.out.then hb6)
          have CR := HK6.out.log.crash (by omega) _ A6 n6 c6 a.ks (own_arg hown6 (fun b hb => HK5.out.lt b (List.mem_cons_of_mem _ hb))) HF0.out.wk
          rw [H0.out, ← HD1.out] at CR
          have HCR := hid CR
          clear CR OI y3 hown6 hb6 hl6 hA6
          go_wp2_with fail
          refine HCR.out.mono ?_
          rintro e w7 ⟨rfl, hN⟩
          obtain ⟨F7, L7, K7, U7⟩ := LNext.kept HK6.out.kept hN
          have hU7 := U7 _ _ HK6.out.und
          have OP := hid (open_w L7.log.at_ L7.fit HL7.out)
          have HL := hid L7
          have HK7 := hid K7
          have HU7 := hid hU7
          clear HCR hN L7 K7 U7 hU7 HL7
          go_wp2_with fail
          refine OP.out.mono ?_
          rintro e w8 (⟨h, _⟩ | ⟨_, rs, hs, ho⟩)
          · exact absurd h HR9.out
          obtain rfl : rs = m := wscans_unique hs HW.out
          rcases ho with ⟨h, _⟩ | ⟨_, g2, F8, v2, us, m8, rfl, hx8, hrl8, hm8, hg8, hL8, hT8, hF8, how8⟩
          · exact absurd HOP.out h
          have e8 := eql_ptr w8 g2
          have hlt7 := HL.out.log.at_.lt
          have hb8 : Below w2.heap.size w7 w8 := hT8.below HL.out.below.size HL.out.new
          have L8 : LLog w2 w8 g2 d F8 ⟨(opn D1 rs).2, nextOf rs, false⟩ (4 * (k + 1) + 1) := ⟨hL8, (opn_fit HL.out.fit rs).mono (by omega), fun b hb => by
            rcases hF8 b hb with h | h
            · exact HL.out.new b h
            · have := HL.out.below.size; omega, by have := HL.out.below.size; omega, HL.out.below.trans hb8⟩
          have hG8 : ∀ e ∈ g2 :: F8, e ∈ g :: F7 ∨ w7.heap.size ≤ e := fun e he => by
            rcases List.mem_cons.1 he with h | h
            · right; omega
            · rcases hF8 e h with h | h
              · exact .inl (List.mem_cons_of_mem _ h)
              · right; omega
          have K8 := HK7.out.step hT8 (fun i hi => List.mem_cons_of_mem _ hi) hG8
          have U8 : Und w8 (u9.ownBlock.toList ++ g2 :: F8) un u10 := HU7.out.step hT8 (fun i hi => List.mem_append_right _ (List.mem_cons_of_mem _ hi)) (fun e he => by
            rcases List.mem_append.1 he with he | he
            · exact .inl (List.mem_append_left _ he)
            · exact (hG8 e he).imp (fun h => List.mem_append_right _ h) id)
          have three := ks_three U8 HM.out
          have BORN : Hid (∀ W E, Touch w8 W E → (∀ e ∈ E, e < w7.heap.size ∧ w2.heap.size ≤ e ∧ e ∉ g2 :: F8) → KS w2 W g2 d F8 ⟨(opn D1 rs).2, nextOf rs, false⟩ (k + 1) rs none v2 us (.slice none 0 0)) := hid fun W E ht hE =>
            ks_born L8 how8.out hg8 HL.out.below.size hlt7 hF8 HHO.out hx8.out HAF.out.1 HAF.out.2.1 HAF.out.2.2 ht hE
          have HRL8 := hid hrl8.out
          have HX8 := hid hx8.out
          have HK8 := hid K8
          have HM8 : Hid (m8 ≤ w8.heap.size) := hid (by have := Blk.lt hL8.blk; omega)
          have HGW : Hid (m8 ≤ g2 ∧ w7.heap.size ≤ m8) := hid ⟨hg8, hm8⟩
          have HOWN : Hid (∀ e, u9.ownBlock = some e → e < w7.heap.size ∧ w2.heap.size ≤ e ∧ e ∉ g2 :: F8) := hid fun e he => ⟨(HK7.out.own.lt e he).2, (HK7.out.own.lt e he).1, K8.off e he⟩
          have HB8 : Hid (Below w.heap.size w w8) := hid (HB1.out.trans (L8.below.mono HB1.out.size))
          have HOW8 := hid how8.out
          have HF8 := hid hF8
          have HLT7 := hid hlt7
          have HXL : Hid (xs.map RP.r = hv) := hid HK5.out.recs
          obtain ⟨A8, c8, rfl, hA8, hc8, hc8'⟩ := hrl8.out.shape
          obtain ⟨A9, c9, hu9, hA9, hc9, hc9', _⟩ := own_shape_two K8.own
          clear OP hs hx8 hrl8 hm8 hg8 hL8 hT8 hF8 how8 hlt7 hb8 L8 hG8 K8 U8 HL HK7 HU7 HK6 HHO HOP HR9 HW HM
          have hun : us.length = rs.length := by have := congrArg List.length HX8.out; rwa [List.length_map] at this
          have hxn : xs.length = hv.length := by have := congrArg List.length HXL.out; rwa [List.length_map] at this
          have hrn : us.length ≤ 1000 := by have := HAF.out.1; omega
          have HCH : Hid (Chain none rs) := hid (BORN.out w8 [] (Touch.refl _ _) (fun e he => by cases he)).holds.chain
          have HUN := hid hun
          have HXN := hid hxn
          have HR9L : Hid (RL w8 0 w8.heap.size (.slice A9 xs.length c9) xs) := hid (by rw [← hu9]; exact HK8.out.rl)
          clear hun hxn
          refine Or.elim three (fun hway => ?wayA) (fun hway => Or.elim hway (fun hway => ?wayB) (fun hway => ?wayC))
          case' wayA =>
            obtain ⟨hu, hmv⟩ := hway
            have hlen2 : us.length = xs.length := by rw [HUN.out, HXN.out, hmv]
            have REQ : Hid (∀ W, Below w8.heap.size w8 W → Calls Tryz.prog 19 #[.slice A8 us.length c8, .slice A9 xs.length c9] W fun e w' => e = .returned (.bool true) ∧ Below w8.heap.size w8 w') := hid fun W hW => by
              have R := recs_any _ _ _ _ _ _ us xs W (HRL8.out.below hW HM8.out) (HR9L.out.below hW (Nat.le_refl _)) (Nat.le_trans HM8.out hW.size) hW.size
              unfold RecsPost at R
              rw [decide_eq_true (by rw [HX8.out, HXL.out, hmv])] at R
              exact R.mono fun e w' h => ⟨h.1, hW.trans (h.2.mono hW.size)⟩
            have HMV := hid hmv
            subst hu hu9
            clear hmv hlen2 three
            obtain ⟨wB, hwB⟩ : ∃ wB, wB = w8 := ⟨_, rfl⟩
            have KB : Hid (∀ W, Below wB.heap.size wB W → KS w2 W g2 d F8 ⟨(opn D1 rs).2, nextOf rs, false⟩ (k + 1) rs none (.slice A8 us.length c8) us (.slice none 0 0)) := hid (by rw [hwB]; exact fun W hW => BORN.out W [] (touch_below hW []) (fun e he => by cases he))
            have RB : Hid (∀ W, Below wB.heap.size wB W → RL W w7.heap.size m8 (.slice A8 us.length c8) us) := hid (by rw [hwB]; exact fun W hW => HRL8.out.below hW HM8.out)
            have ZB : Hid (m8 ≤ wB.heap.size) := hid (by rw [hwB]; exact HM8.out)
            rw [← hwB] at REQ
            have HWB := hid hwB
            clear hwB
            go_wp2
            go_quiet (fail)
            rw [← HWB.out]
          case' wayB =>
            obtain ⟨bb, uo, un', uc, hu, hmv⟩ := hway
            have hlen2 : us.length = xs.length := by rw [HUN.out, HXN.out, hmv]
            have REQ : Hid (∀ W, Below w8.heap.size w8 W → Calls Tryz.prog 19 #[.slice A8 us.length c8, .slice A9 xs.length c9] W fun e w' => e = .returned (.bool true) ∧ Below w8.heap.size w8 w') := hid fun W hW => by
              have R := recs_any _ _ _ _ _ _ us xs W (HRL8.out.below hW HM8.out) (HR9L.out.below hW (Nat.le_refl _)) (Nat.le_trans HM8.out hW.size) hW.size
              unfold RecsPost at R
              rw [decide_eq_true (by rw [HX8.out, HXL.out, hmv])] at R
              exact R.mono fun e w' h => ⟨h.1, hW.trans (h.2.mono hW.size)⟩
            have z9 : IntKind.i64.wrap ((xs.length : Int) + 1) = (xs.length : Int) + 1 := by simp [IntKind.wrap, IntKind.bits, IntKind.signed]; omega
            have q9 : ((us.length : Int) == (xs.length : Int) + 1) = false := by rw [hlen2]; simp; omega
            subst hu hu9
            clear hmv hlen2 three hway
            obtain ⟨wB, hwB⟩ : ∃ wB, wB = w8 := ⟨_, rfl⟩
            have KB : Hid (∀ W, Below wB.heap.size wB W → KS w2 W g2 d F8 ⟨(opn D1 rs).2, nextOf rs, false⟩ (k + 1) rs none (.slice A8 us.length c8) us (.slice none 0 0)) := hid (by rw [hwB]; exact fun W hW => BORN.out W [] (touch_below hW []) (fun e he => by cases he))
            have RB : Hid (∀ W, Below wB.heap.size wB W → RL W w7.heap.size m8 (.slice A8 us.length c8) us) := hid (by rw [hwB]; exact fun W hW => HRL8.out.below hW HM8.out)
            rw [← hwB] at REQ
            have HWB := hid hwB
            clear hwB
            go_wp2
            go_quiet (fail)
            rw [← HWB.out]
          case' wayC =>
            obtain ⟨ub, bb, uo, un', uc, hu, hmv, hu1, hu2, hu3, hur⟩ := hway
            have hlen2 : us.length = xs.length + 1 := by rw [HUN.out, HXN.out, hmv, List.length_append]; rfl
            obtain ⟨y, hy⟩ : ∃ y, us[xs.length]? = some y := ⟨us[xs.length]'(by omega), List.getElem?_eq_getElem _⟩
            obtain ⟨b3, o3, c3', hv3, hlo3, hhi3, hs3, hb3, _, _, hbd3⟩ := HRL8.out.at_ hy
            have hyr : y.r = (s.nx, ub) := by
              have h1 := congrArg (fun l => l[xs.length]?) HX8.out
              simp only [List.getElem?_map, hy, hmv] at h1
              rw [List.getElem?_append_right (by rw [HXN.out]; exact Nat.le_refl _), HXN.out, Nat.sub_self] at h1
              simpa using h1
            have hyp : y.p = ub := congrArg Prod.snd hyr
            have hm8w := HM8.out
            obtain ⟨hown1, bm, hbm1, hbm2, hbm3⟩ := HOW8.out
            have HSAF : Hid (Saf w8 (u9.ownBlock.toList ++ g2 :: F8) y) := hid ⟨w7.heap.size, bm, hbm2 y (List.mem_of_getElem? hy), by omega, fun e he => by
              rcases List.mem_append.1 he with he | he
              · exact .inl (HOWN.out e (by simpa using he)).1
              · rcases List.mem_cons.1 he with h | h
                · right; have := HGW.out; omega
                · rcases HF8.out e h with h | h
                  · exact .inl (HLT7.out e h)
                  · right; omega⟩
            have SM : Hid (∀ W, Below w8.heap.size w8 W → ∀ A3 : Option Addr, A3 = (if uc = 1 then some ⟨bb, uo, none⟩ else some ⟨bb, uo + 1, none⟩) → Calls Tryz.prog 18 #[.slice y.A y.n y.c, .slice A3 (un' - 1) (uc - 1)] W fun e w' => e = .returned (.bool true) ∧ Below w8.heap.size w8 w') := hid fun W hW A3 hA3 => by
              subst hA3
              have R := same_any y.A _ y.n (un' - 1) y.c (uc - 1) w7.heap.size m8 0 w8.heap.size y.p ub W (hbd3.1.below hW HM8.out) (hur.below hW (Nat.le_refl _)) (by have := hbd3.2.2; unfold maxLen at this; omega)
              rw [decide_eq_true hyp] at R
              exact R.mono fun e w' ⟨h1, j, h2⟩ => ⟨h1, by rw [h2]; exact below_drewN hW j⟩
            have HXY : Hid (rs = (xs ++ [y]).map RP.r) := hid (by rw [List.map_append, HXL.out, hmv]; simp [hyr])
            injection hv3 with hv31 hvn3 hvc3
            subst hv31 hvc3
            unfold RP.v at hb3
            rw [← Nat.add_assoc] at hb3
            have K1 : Hid (∀ W, Below w8.heap.size w8 W → W.cell? ⟨b3, o3 + xs.length * 2, none⟩ = some (.int .u64 (y.s : Int)) ∧ W.cell? ⟨b3, o3 + xs.length * 2 + 1, none⟩ = some (.slice y.A y.n y.c)) := hid fun W hW =>
              ⟨(hW.cell (p := ⟨b3, o3 + xs.length * 2, none⟩) (by show b3 < _; omega)).trans hs3, (hW.cell (p := ⟨b3, o3 + xs.length * 2 + 1, none⟩) (by show b3 < _; omega)).trans hb3⟩
            have z9 : IntKind.i64.wrap ((xs.length : Int) + 1) = (xs.length : Int) + 1 := by simp [IntKind.wrap, IntKind.bits, IntKind.signed]; omega
            have q9 : ((us.length : Int) == (xs.length : Int) + 1) = true := by rw [hlen2]; simp
            have g9 : (xs.length : Int) < (us.length : Int) := by omega
            have HLT8 : Hid (∀ e ∈ g2 :: F8, e < w8.heap.size) := hid (BORN.out w8 [] (Touch.refl _ _) (fun e he => by cases he)).lt
            subst hu
            have HK2 : Hid (∀ W W', Below w8.heap.size w8 W → W.grownBy W' u9.ownBlock → W'.cell? ⟨b3, o3 + xs.length * 2, none⟩ = some (.int .u64 (y.s : Int)) ∧ W'.cell? ⟨b3, o3 + xs.length * 2 + 1, none⟩ = some (.slice y.A y.n y.c)) := hid fun W W' hW hg => by
              have h1 := K1.out W hW
              have h2 := hW.size
              have h3 : W'.heap[b3]? = W.heap[b3]? := hg.block b3 (by omega) (fun h => by have := (HOWN.out b3 h.symm).1; omega)
              exact ⟨(World.cell?_of_block (w := W) h3).trans h1.1, (World.cell?_of_block (w := W) h3).trans h1.2⟩
            subst hu9
            have d12 := K1.out w8 (Below.refl _ _)
            obtain ⟨ys, yp, yA, yn, yc⟩ := y
            simp only at SM K1 HK2 hyp d12 hs3 hb3
            have HLEN2 := hid hlen2
            clear hlen2 hmv three hvn3 hs3 hb3 hbd3 hbm1 hbm2 hbm3 hown1 hyr hyp hur hy
            have gu1 : (1 : Int) ≤ (un' : Int) := by omega
            have gu2 : (un' : Int) ≤ (uc : Int) := by omega
            have gu3 : (uc : Int) ≤ 9223372036854775807 := by unfold maxLen at hu3; omega
            by_cases huc : uc = 1
            case' pos =>
              have SM2 : Hid (∀ W, Below w8.heap.size w8 W → Calls Tryz.prog 18 #[.slice yA yn yc, .slice (some ⟨bb, uo, none⟩) 0 0] W fun e w' => e = .returned (.bool true) ∧ Below w8.heap.size w8 w') := hid fun W hW => by have := SM.out W hW _ rfl; rw [if_pos huc, huc, show un' = 1 by omega] at this; exact this
              obtain rfl : uc = 1 := huc
              obtain rfl : un' = 1 := by omega
            case' neg =>
              have SM2 : Hid (∀ W, Below w8.heap.size w8 W → Calls Tryz.prog 18 #[.slice yA yn yc, .slice (some ⟨bb, uo + 1, none⟩) (un' - 1) (uc - 1)] W fun e w' => e = .returned (.bool true) ∧ Below w8.heap.size w8 w') := hid fun W hW => SM.out W hW _ (by simp [huc])
            all_goals
              clear SM
              go_wp2
              go_region_held3 (fun W => W.cell? ⟨b3, o3 + xs.length * 2 + 1, none⟩ = some (.slice yA yn yc)) (first | exact d12.2 | exact (K1.out _ hb9).2)
                (first | (go_at_call 18; refine (SM2.out _ (by exact (Below.refl _ _).drew)).mono ?_; rintro e w9 ⟨rfl, hb9⟩))
              have d9 := K1.out w9 hb9
              have hxl : xs.length ≤ 1000 := by have := HLEN2.out; omega
              have OWN9 := hid (HK8.out.then hb9).own
              have hz9 : w2.heap.size ≤ w9.heap.size := Nat.le_trans (BORN.out w8 [] (Touch.refl _ _) (fun e he => by cases he)).log.below.size hb9.size
              have HB9 := hid hb9
              clear hb9 d12
              go_wp2
              go_region_held3 (fun W => W.cell? ⟨b3, o3 + xs.length * 2, none⟩ = some (.int .u64 (ys : Int)) ∧ W.cell? ⟨b3, o3 + xs.length * 2 + 1, none⟩ = some (.slice yA yn yc)) (first | exact d9 | exact K1.out _ (((HB9.out).alloc (HB9.out).size _).drew) | exact HK2.out _ _ (((HB9.out).alloc (HB9.out).size _).drew) grow12)
                (first | (refine step_append_rec _ rfl (.tmp 160) (.tmp 172) 30 rfl w2.heap.size Tryz.underlying30 (.slice A9 xs.length c9) xs.length xs rfl (by first | exact own_on OWN9.out (((Below.refl _ _).alloc (Nat.le_refl _) _).drew) | exact own_on OWN9.out ((Below.refl _ _).alloc (Nat.le_refl _) _)) w9.heap.size 1 rfl ⟨ys, yp, yA, yn, yc⟩ (by exact rcs_new _ _ _ _ _ _ rfl) (by omega) (by simp; omega) ?_; intro v12 w12 own12 grow12 at12))
              obtain ⟨w11, hw11⟩ : ∃ w11, w11 = (w9.alloc (.cells #[.int .u64 (ys : Int), .slice yA yn yc] 44)).drew := ⟨_, rfl⟩
              have hb11 : Below w8.heap.size w8 w11 := by rw [hw11]; exact ((HB9.out).alloc (HB9.out).size _).drew
              rw [← hw11] at grow12 at12
              have HT12 : Hid (Touch w8 w12 (Value.slice A9 xs.length c9).ownBlock.toList) := hid ((touch_below hb11 _).then (touch_grown grow12 (fun e he => by have he' : (Value.slice A9 xs.length c9).ownBlock = some e := he; rw [he']; simp)) (fun i _ hi => hi))
              have HK12 := hid ((HK8.out.then hb11).add (HSAF.out.step (touch_below hb11 []) (fun _ h => by cases h) (fun _ h => .inl h)) (fun e he => Nat.lt_of_lt_of_le (HLT8.out e he) hb11.size) own12 grow12 at12)
              obtain ⟨A12, c12, rfl, _⟩ := own_shape_two own12
              have HE : Hid (∀ e ∈ (Value.slice A9 xs.length c9).ownBlock.toList, e < w7.heap.size ∧ w2.heap.size ≤ e ∧ e ∉ g2 :: F8) := hid fun e he => HOWN.out e (by simpa using he)
              obtain ⟨wB, hwB⟩ : ∃ wB, wB = w12 := ⟨_, rfl⟩
              have HTW : Hid (∀ W, Below wB.heap.size wB W → Touch w8 W (Value.slice A9 xs.length c9).ownBlock.toList) := hid (by rw [hwB]; exact fun W hW => HT12.out.then (touch_below hW _) (fun i _ hi => hi))
              have KB : Hid (∀ W, Below wB.heap.size wB W → KS w2 W g2 d F8 ⟨(opn D1 rs).2, nextOf rs, false⟩ (k + 1) rs none (.slice (some ⟨b3, o3, none⟩) us.length c8) us (.slice none 0 0)) := hid (fun W hW => BORN.out W _ (HTW.out W hW) HE.out)
              have RB : Hid (∀ W, Below wB.heap.size wB W → RL W w7.heap.size m8 (.slice (some ⟨b3, o3, none⟩) us.length c8) us) := hid (fun W hW => HRL8.out.touch (HTW.out W hW) HM8.out (fun i hi => .inl (HE.out i hi).1))
              have REQ : Hid (∀ W, Below wB.heap.size wB W → Calls Tryz.prog 19 #[.slice (some ⟨b3, o3, none⟩) us.length c8, .slice A12 (xs.length + 1) c12] W fun e w' => e = .returned (.bool true) ∧ Below wB.heap.size wB w') := hid fun W hW => by
                have h9 := HK12.out.rl
                rw [← hwB] at h9
                have R := recs_any _ _ _ _ _ _ us _ W (RB.out W hW) (h9.below hW (Nat.le_refl _)) (Nat.le_trans HM8.out (HTW.out W hW).size) hW.size
                unfold RecsPost at R
                rw [decide_eq_true (by rw [HX8.out, ← HXY.out])] at R
                exact R.mono fun e w' h => ⟨h.1, hW.trans (h.2.mono hW.size)⟩
              have HWB := hid hwB
              clear hwB own12 grow12 at12 hb11 hw11 d9
              rw [← HWB.out]
          all_goals
            go_wp2_with fail
            refine (REQ.out _ (by first | exact below_drewN (Below.refl _ _) _ | exact Below.refl _ _)).mono ?_
            rintro e w13 ⟨rfl, hb13⟩
            have HB13 := hid hb13
            clear hb13 REQ e8
            go_wp2
            go_loopw [23] (fun i wq => ∃ j : Nat, j ≤ us.length ∧ i = .int .i64 ((j : Int) + 1) ∧ Hid (Below wB.heap.size wB wq)) (fun i _ => us.length + 1 - (intOf i).toNat)
            case atStart => exact ⟨0, Nat.zero_le _, rfl, HB13⟩
            case round =>
              obtain ⟨j, hj, rfl, HBJ⟩ := hrel
              by_cases hju : j + 1 < us.length
              · obtain ⟨p, hp⟩ : ∃ p, us[j]? = some p := ⟨us[j]'(by omega), List.getElem?_eq_getElem _⟩
                obtain ⟨q, hq⟩ : ∃ q, us[j + 1]? = some q := ⟨us[j + 1]'hju, List.getElem?_eq_getElem _⟩
                have hrl := RB.out _ HBJ.out
                obtain ⟨b3, o3, c3', hv3, _, hhi3, hs3, _⟩ := hrl.at_ hp
                obtain ⟨b4, o4, c4', hv4, _, hhi4, hs4, _⟩ := hrl.at_ hq
                rw [hv3] at hv4
                injection hv4 with hv41 hvn4 hvc4
                injection hv41 with hv41
                injection hv41 with hv41 hv42
                subst hv41 hv42
                injection hv3 with hv31 hvn3 hvc3
                subst hvc3
                first | subst hv31 | (injection hv31 with hv31; injection hv31 with hv31 hv32; subst hv31 hv32)
                have hqp : q.s = p.s + 1 := chain_by HCH.out (k := j) (p := p.r) (q := q.r) (by rw [← HX8.out, List.getElem?_map, hp]; rfl) (by rw [← HX8.out, List.getElem?_map, hq]; rfl)
                have hps : p.s ≤ 4611686018427387904 := chain_top HCH.out p.r (by rw [← HX8.out]; exact List.mem_map_of_mem (List.mem_of_getElem? hp))
                obtain ⟨ps, hpse⟩ : ∃ ps, ps = p.s := ⟨_, rfl⟩
                rw [hqp] at hs4
                rw [← hpse] at hs3 hs4 hps
                have g1 : (j : Int) + 1 < (us.length : Int) := by omega
                have z1 : IntKind.i64.wrap ((j : Int) + 1 - 1) = (j : Int) := by rw [show (j : Int) + 1 - 1 = (j : Int) by omega]; simp [IntKind.wrap, IntKind.bits, IntKind.signed]; omega
                have z2 : IntKind.u64.wrap ((ps : Int) + 1) = (ps : Int) + 1 := by rw [IntKind.wrap_u64]; omega
                have hs4' : wr.cell? ⟨b3, o3 + (j + 1) * 2, none⟩ = some (.int .u64 ((ps : Int) + 1)) := by rw [hs4]; simp
                clear hvn4 hvc4 hvn3 hhi3 hhi4 hrl hqp hp hq hpse hs4 hps
                go_wp2
                go_quiet (fail)
                go_wp2
                go_roundw
                case rel => exact ⟨j + 1, by omega, by go_num, hid (below_drewN HBJ.out _)⟩
                case measure => simp [intOf]; omega
              · have g1 : ¬ ((j : Int) + 1 < (us.length : Int)) := by omega
                go_wp2
                go_roundw
                case rel => exact ⟨k + 1, g2, F8, _, rs, none, us, false, by omega, by go_num, rfl, rfl, hid (KB.out _ HBJ.out)⟩
                case measure => simp [intOf]; omega
    · obtain rfl : k = n := by omega
      go_wp2
      go_ret
      exact ⟨rfl, HB1.out.trans (HK.out.log.below.mono HB1.out.size)⟩
end Go.Proofs.YtpckloafdlkefaaGreat
