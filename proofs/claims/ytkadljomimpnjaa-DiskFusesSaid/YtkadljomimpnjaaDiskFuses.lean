/-
  The walk of DiskFuses.
-/
import Derived.Test.YtkadljomimpnjaaLives6
import Derived.Test.YtkadljomimpnjaaFusesMath
import Derived.Test.YtkadljomimpnjaaDiskParts
namespace Go.Proofs.Ytkadljomimpnjaa
open Go.RowKit Go.Maps Dsk
set_option maxHeartbeats 4000000 in
set_option maxRecDepth 20000 in
theorem fuses_walk (size : Int) (A : Option Addr) (n c : Nat) (l : List Ar) (nf : Int) (w : World) (hl : Acts w w.heap.size A n l) (hn : n ≤ 9223372036854775807) :
    Calls Try.prog 6 #[.int .i64 size, .slice A n c, .int .i64 nf] w fun e w' => e = .returned (.bool true) ∧ Below w.heap.size w w' := by
  have LV := hid (lives_any w)
  have HL := hid hl
  clear hl
  go_enter Try.func6, Try.ntmps6
  go_wp2_with fail
  refine LV.out.mono ?_
  rintro e w1 ⟨rfl, hb1⟩
  have HB1 := hid hb1
  clear LV hb1
  go_wp2_with fail
  refine (light_any A n c _ l w1 (HL.out.below HB1.out) hn).mono ?_
  rintro e w2 ⟨lb, rfl, hlight, rfl⟩
  cases lb
  case false =>
    go_wp2
    go_ret
    exact ⟨rfl, HB1.out⟩
  have HLT := hid (hlight rfl)
  clear hlight
  go_wp2_with fail
  refine (new_m w2 size).mono ?_
  rintro e w3 ⟨hb3, ⟨_, rfl⟩ | ⟨hs1, hs2, d, F, rfl, hd, hF⟩⟩
  · have HB3 := hid (HB1.out.trans (hb3.mono HB1.out.size))
    clear hb3
    go_wp2_with fail
    refine (new_m w3 size).mono ?_
    rintro e w4 ⟨hb4, ⟨_, rfl⟩ | ⟨_, _, d, F, rfl, _, _⟩⟩
    · have HB4 := hid (HB3.out.trans (hb4.mono HB3.out.size))
      clear hb4
      go_wp2
      go_ret
      exact ⟨rfl, HB4.out⟩
    · have HB4 := hid (HB3.out.trans (hb4.mono HB3.out.size))
      clear hb4
      go_wp2
      go_ret
      exact ⟨rfl, HB4.out⟩
  have L0 := live_new hb3 hs1 hs2 hd hF
  clear hb3 hd hF
  go_wp2_with fail
  refine (new_m w3 size).mono ?_
  rintro e w4 ⟨hb4, ⟨hbad, rfl⟩ | ⟨_, _, cc, G, rfl, hd, hF⟩⟩
  · exfalso
    omega
  have L1 := L0.then hb4
  have LC : Live w2 w4 cc G ⟨size, [], -1, false⟩ 0 := ⟨hd, L0.fit, fun b hb => Nat.le_trans L0.below.size (hF b hb), L1.below⟩
  have hap : ∀ b ∈ F, b ∉ G := fun b h1 h2 => by have := L0.lt b h1; have := hF b h2; omega
  clear L0 hd hF hb4
  obtain ⟨q, hq, hqe⟩ : ∃ q : Nat, q < 20 ∧ nf % 20 = (q : Int) := ⟨(nf % 20).toNat, by omega, by omega⟩
  go_wp2_with fail
  refine (pick_at nf 20 q w4 (by omega) (by omega) hqe).mono ?_
  rintro e w5 ⟨rfl, rfl⟩
  clear hqe
  go_wp2_with fail
  refine (L1.fuse (q : Int) (by omega)).mono ?_
  have e1 : dFuse ⟨size, [], -1, false⟩ (q : Int) = (0, ⟨size, [], (q : Int), false⟩) := by unfold dFuse; rw [if_neg (by omega)]
  rw [e1]
  rintro e w6 ⟨rfl, F2, L2, B2⟩
  obtain ⟨LC2, hap2⟩ := LC.beside B2 L2.below hap
  have LD := hid L2
  have LE := hid (LC2.mono (Nat.zero_le 1))
  have HAP := hid hap2
  clear L1 LC hap L2 LC2 hap2 B2 e1
  have hlen : n ≤ 120 := by have := HLT.out.1; rw [HL.out.len] at this; exact this
  go_wp2
  go_loopw [2, 9, 11, 12, 13, 14, 15] (fun nv cv i _ _ _ _ wr => ∃ (k q : Nat) (fs : Fs) (o : Bool) (cc : Nat) (F G : List Nat), k ≤ n ∧ q < 20 ∧ nv = .int .i64 (q : Int) ∧ cv = ptr cc ∧ i = .int .i64 (k : Int) ∧ Live w2 wr d F ⟨size, fs, (q : Int), o⟩ (k + 1) ∧ Live w2 wr cc G ⟨size, fs, -1, false⟩ (k + 1) ∧ Hid (∀ b ∈ F, b ∉ G)) (fun _ _ i _ _ _ _ _ => n - (intOf i).toNat)
  case atStart => exact ⟨0, q, [], false, cc, F2, G, Nat.zero_le _, hq, rfl, rfl, rfl, LD.out, LE.out, HAP⟩
  case round =>
    clear LD LE HAP
    obtain ⟨k, q, fs, o, cc, F, G, hk, hq, rfl, rfl, rfl, hD, hC, hap⟩ := hrel
    have LD := hid hD
    have LE := hid hC
    clear hD hC
    by_cases hlt : k < n
    · obtain ⟨a, ha⟩ : ∃ a, l[k]? = some a := ⟨l[k]'(by rw [HL.out.len]; exact hlt), List.getElem?_eq_getElem _⟩
      obtain ⟨g, off, rfl, hgl, hcell⟩ := HL.out.at_ (by omega)
      have HUP : Hid (∀ W, Below w2.heap.size w2 W → Below w.heap.size w W) := hid fun W hW => HB1.out.trans (hW.mono HB1.out.size)
      have CC : Hid (∀ W, Below w2.heap.size w2 W → ∀ i v, a.cells[i]? = some v → W.cell? ⟨g, off + k * 6 + i, none⟩ = some v) := hid fun W hW i v hv => ((HUP.out W hW).cell hgl).trans (hcell k a ha i v hv)
      have HFA : Hid (∀ W, Below w2.heap.size w2 W → Fine W w.heap.size a) := hid fun W hW => (HL.out.fine a (List.mem_of_getElem? ha)).below (HUP.out W hW)
      have HLA := hid (HLT.out.2 a (List.mem_of_getElem? ha))
      clear hcell ha
      have x0 : wr.cell? ⟨g, off + k * 6, none⟩ = some (.int .i64 a.kind) := CC.out wr LD.out.below 0 _ rfl
      obtain ⟨z, hz, hze⟩ : ∃ z : Nat, z < 8 ∧ a.kind % 8 = (z : Int) := ⟨(a.kind % 8).toNat, by omega, by omega⟩
      go_wp2_with fail
      refine (pick_at a.kind 8 z wr (by omega) (by omega) hze).mono ?_
      rintro e w7 ⟨rfl, rfl⟩
      have HZE := hid hze
      clear hze x0
      by_cases hz6 : 6 ≤ z
      · go_wp2
        go_roundw
        case rel => exact ⟨k + 1, q, fs, o, cc, F, G, by omega, hq, rfl, rfl, by go_num, LD.out.mono (by omega), LE.out.mono (by omega), hap⟩
        case measure => simp [intOf]; omega
      · have HOP := hid (ac_op HZE.out (by omega))
        go_wp2_with fail
        refine (at_off LD.out.at_).mono ?_
        rintro e w8 ⟨rfl, hb8⟩
        have LD1 := LD.out.then hb8
        have LE1 := LE.out.then hb8
        clear LD LE hb8
        cases o
        case true =>
          have CW := CC.out w8 LD1.below
          have x0 : w8.cell? ⟨g, off + k * 6, none⟩ = some (.int .i64 a.kind) := CW 0 _ rfl
          have x1 := CW 1 _ rfl
          have x2 := CW 2 _ rfl
          have x3 := CW 3 _ rfl
          have x4 := CW 4 _ rfl
          have x5 := CW 5 _ rfl
          clear CW
          go_wp2_with fail
          refine (LD1.act (by omega) a w.heap.size (HUP.out _ LD1.below).size (HFA.out _ LD1.below) HLA.out).mono ?_
          rw [act_gone HOP.out]
          rintro e w9 ⟨rfl, F2, LD2, B2⟩
          obtain ⟨LE2, hap2⟩ := LE1.beside B2 LD2.below hap.out
          clear x0 x1 x2 x3 x4 x5 LD1 LE1 B2
          go_wp2
          go_roundw
          case rel => exact ⟨k + 1, q, fs, true, cc, F2, G, by omega, hq, rfl, rfl, by go_num, LD2, LE2.mono (by omega), hid hap2⟩
          case measure => simp [intOf]; omega
        case false =>
          go_wp2_with fail
          refine (at_clone LE1.at_ LE1.fit (by omega)).mono ?_
          rintro e w9 ⟨v, GW, rfl, hdv, hGW, hb9⟩
          obtain ⟨LW, apW⟩ := live_clone LE1 hdv hGW hb9
          have apDW : ∀ b ∈ F, b ∉ GW := fun b h1 h2 => by have := LD1.lt b h1; have := hGW b h2; omega
          have LD2 := LD1.then hb9
          have LE2 := LE1.then hb9
          clear LD1 LE1 hdv hGW hb9
          have CW := CC.out w9 LD2.below
          have x0 : w9.cell? ⟨g, off + k * 6, none⟩ = some (.int .i64 a.kind) := CW 0 _ rfl
          have x1 := CW 1 _ rfl
          have x2 := CW 2 _ rfl
          have x3 := CW 3 _ rfl
          have x4 := CW 4 _ rfl
          have x5 := CW 5 _ rfl
          clear CW
          go_wp2_with fail
          refine (LE2.act (by omega) a w.heap.size (HUP.out _ LE2.below).size (HFA.out _ LE2.below) HLA.out).mono ?_
          rintro e w10 ⟨he, G2, LE3, B3⟩
          obtain ⟨LD3, hap3⟩ := LD2.beside B3 LE3.below (fun b h1 h2 => hap.out b h2 h1)
          obtain ⟨LW3, apW3⟩ := LW.beside B3 LE3.below apW
          clear x0 x1 x2 x3 x4 x5 LD2 LE2 LW B3 apW
          have CW := CC.out w10 LD3.below
          have x0 : w10.cell? ⟨g, off + k * 6, none⟩ = some (.int .i64 a.kind) := CW 0 _ rfl
          have x1 := CW 1 _ rfl
          have x2 := CW 2 _ rfl
          have x3 := CW 3 _ rfl
          have x4 := CW 4 _ rfl
          have x5 := CW 5 _ rfl
          clear CW
          rcases act_way size fs HOP.out with ⟨ee, hee, hf⟩ | ⟨fs', hf⟩
          · rw [hf (-1)] at he LE3
            subst he
            have h0 := hf (q : Int)
            have H0 := hid h0
            have hee' : ¬ ee = 0 := hee
            clear h0 hf hee
            go_wp2_with fail
            refine (LD3.act (by omega) a w.heap.size (HUP.out _ LD3.below).size (HFA.out _ LD3.below) HLA.out).mono ?_
            rw [H0.out]
            rintro e w11 ⟨rfl, F4, LD4, B4⟩
            obtain ⟨LE4, hap4⟩ := LE3.beside B4 LD4.below (fun b h1 h2 => hap3 b h2 h1)
            clear x0 x1 x2 x3 x4 x5 LD3 LE3 LW3 B4
            go_wp2_with fail
            refine (at_off LD4.at_).mono ?_
            rintro e w12 ⟨rfl, hb12⟩
            have LD5 := LD4.then hb12
            have LE5 := LE4.then hb12
            clear LD4 LE4 hb12
            go_wp2
            go_roundw
            case rel => exact ⟨k + 1, q, fs, false, cc, F4, G2, by omega, hq, rfl, rfl, by go_num, LD5, LE5, hid hap4⟩
            case measure => simp [intOf]; omega
          · rw [hf (-1), burn_none] at he LE3
            subst he
            have HF := hid hf
            clear hf
            cases q with
            | zero =>
              have H0 : Hid (Dsk.act ⟨size, fs, ((0 : Nat) : Int), false⟩ (acOf a) = (9, ⟨size, fs, ((0 : Nat) : Int), true⟩)) := hid (by rw [HF.out, burn_last])
              go_wp2_with fail
              refine (LD3.act (by omega) a w.heap.size (HUP.out _ LD3.below).size (HFA.out _ LD3.below) HLA.out).mono ?_
              rw [H0.out]
              rintro e w11 ⟨rfl, F4, LD4, B4⟩
              obtain ⟨LW4, hap4⟩ := LW3.beside B4 LD4.below apDW
              clear x0 x1 x2 x3 x4 x5 LD3 LE3 LW3 B4
              go_wp2_with fail
              refine (at_off LD4.at_).mono ?_
              rintro e w12 ⟨rfl, hb12⟩
              have LD5 := LD4.then hb12
              have LW5 := LW4.then hb12
              clear LD4 LW4 hb12
              go_wp2
              go_roundw
              case rel => exact ⟨k + 1, 0, fs, true, v, F4, GW, by omega, by omega, rfl, rfl, by go_num, LD5, LW5.mono (by omega), hid hap4⟩
              case measure => simp [intOf]; omega
            | succ q' =>
              have H0 : Hid (Dsk.act ⟨size, fs, ((q' + 1 : Nat) : Int), false⟩ (acOf a) = (0, ⟨size, fs', (q' : Int), false⟩)) := hid (by rw [HF.out, burn_more])
              go_wp2_with fail
              refine (LD3.act (by omega) a w.heap.size (HUP.out _ LD3.below).size (HFA.out _ LD3.below) HLA.out).mono ?_
              rw [H0.out]
              rintro e w11 ⟨rfl, F4, LD4, B4⟩
              obtain ⟨LE4, hap4⟩ := LE3.beside B4 LD4.below (fun b h1 h2 => hap3 b h2 h1)
              clear x0 x1 x2 x3 x4 x5 LD3 LE3 LW3 B4
              go_wp2_with fail
              refine (at_off LD4.at_).mono ?_
              rintro e w12 ⟨rfl, hb12⟩
              have LD5 := LD4.then hb12
              have LE5 := LE4.then hb12
              clear LD4 LE4 hb12
              go_wp2
              go_roundw
              case rel => exact ⟨k + 1, q', fs', false, cc, F4, G2, by omega, by omega, by go_num, rfl, by go_num, LD5, LE5, hid hap4⟩
              case measure => simp [intOf]; omega
    · obtain rfl : k = n := by omega
      go_wp2
      clear hlt
      go_loopw [16] (fun i wq => ∃ j : Nat, j ≤ 9 ∧ i = .int .i64 (j : Int) ∧ Live w2 wq d F ⟨size, fs, (q : Int), o⟩ (k + 1) ∧ Live w2 wq cc G ⟨size, fs, -1, false⟩ (k + 1)) (fun i _ => 9 - (intOf i).toNat)
      case atStart => exact ⟨0, by omega, rfl, LD.out, LE.out⟩
      case round =>
        clear LD LE
        obtain ⟨j, hj, rfl, hD, hC⟩ := hrel
        by_cases hj9 : j < 9
        · obtain ⟨sz, hsz⟩ : ∃ sz, dSize ⟨size, fs, -1, false⟩ (nm (j : Int)) = sz := ⟨_, rfl⟩
          obtain ⟨sy, hsy⟩ : ∃ sy, dSynced ⟨size, fs, -1, false⟩ (nm (j : Int)) = sy := ⟨_, rfl⟩
          have HZ1 := hid hsz
          have HZ2 : Hid (dSize ⟨size, fs, (q : Int), o⟩ (nm (j : Int)) = sz) := hid hsz
          have HY1 := hid hsy
          have HY2 : Hid (dSynced ⟨size, fs, (q : Int), o⟩ (nm (j : Int)) = sy) := hid hsy
          clear hsz hsy
          go_wp2_with fail
          refine (name_any (j : Int) _).mono ?_
          rintro e w8 ⟨rfl, hb8⟩
          have LD := hD.then hb8
          have LE := hC.then hb8
          clear hD hC hb8
          go_wp2_with fail
          refine (at_size LD.at_ _ (nm_len _)).mono ?_
          rw [HZ2.out]
          rintro e w9 ⟨rfl, hb9⟩
          have LD2 := LD.then hb9
          have LE2 := LE.then hb9
          clear LD LE hb9
          go_wp2_with fail
          refine (name_any (j : Int) _).mono ?_
          rintro e w10 ⟨rfl, hb10⟩
          have LD := LD2.then hb10
          have LE := LE2.then hb10
          clear LD2 LE2 hb10
          go_wp2_with fail
          refine (at_size LE.at_ _ (nm_len _)).mono ?_
          rw [HZ1.out]
          rintro e w11 ⟨rfl, hb11⟩
          have LD2 := LD.then hb11
          have LE2 := LE.then hb11
          clear LD LE hb11
          go_wp2_with fail
          refine (name_any (j : Int) _).mono ?_
          rintro e w12 ⟨rfl, hb12⟩
          have LD := LD2.then hb12
          have LE := LE2.then hb12
          clear LD2 LE2 hb12
          go_wp2_with fail
          refine (at_synced LD.at_ _ (nm_len _)).mono ?_
          rw [HY2.out]
          rintro e w13 ⟨rfl, hb13⟩
          have LD2 := LD.then hb13
          have LE2 := LE.then hb13
          clear LD LE hb13
          go_wp2_with fail
          refine (name_any (j : Int) _).mono ?_
          rintro e w14 ⟨rfl, hb14⟩
          have LD := LD2.then hb14
          have LE := LE2.then hb14
          clear LD2 LE2 hb14
          go_wp2_with fail
          refine (at_synced LE.at_ _ (nm_len _)).mono ?_
          rw [HY1.out]
          rintro e w15 ⟨rfl, hb15⟩
          have LD2 := LD.then hb15
          have LE2 := LE.then hb15
          clear LD LE hb15
          go_wp2
          go_roundw
          case rel => exact ⟨j + 1, by omega, by go_num, LD2, LE2⟩
          case measure => simp [intOf]; omega
        · obtain rfl : j = 9 := by omega
          go_wp2_with fail
          have MD := hD.then (W' := wr.alloc (.cells #[.int .i64 0, .int .i64 5] 3)) ((Below.refl _ _).alloc (Nat.le_refl _) _)
          have MC := hC.then (W' := wr.alloc (.cells #[.int .i64 0, .int .i64 5] 3)) ((Below.refl _ _).alloc (Nat.le_refl _) _)
          refine (MD.crash (by omega) _ _ 2 2 [0, 5] (arg_lit 3 (I [0, 5]) _ 2 rfl rfl (by omega) hD.lt) (by decide)).mono ?_
          rw [crash_two]
          rintro e w16 ⟨rfl, F9, LD9, B9⟩
          obtain ⟨LE9, hap9⟩ := MC.beside B9 LD9.below hap.out
          clear MD MC hD hC B9
          go_wp2_with fail
          have ND := LD9.then (W' := w16.alloc (.cells #[.int .i64 0, .int .i64 5] 3)) ((Below.refl _ _).alloc (Nat.le_refl _) _)
          have NC := LE9.then (W' := w16.alloc (.cells #[.int .i64 0, .int .i64 5] 3)) ((Below.refl _ _).alloc (Nat.le_refl _) _)
          refine (NC.crash (by omega) _ _ 2 2 [0, 5] (arg_lit 3 (I [0, 5]) _ 2 rfl rfl (by omega) LE9.lt) (by decide)).mono ?_
          rw [crash_two]
          rintro e w17 ⟨rfl, G9, LE10, B10⟩
          obtain ⟨LD10, _⟩ := ND.beside B10 LE10.below (fun b h1 h2 => hap9 b h2 h1)
          clear ND NC LD9 LE9 B10
          go_wp2_with fail
          refine (at_same LD10.at_ LE10.at_ LD10.fit LE10.fit).mono ?_
          rw [decide_eq_true rfl]
          rintro e w18 ⟨rfl, hb18⟩
          have LD11 := LD10.then hb18
          clear LD10 LE10 hb18
          go_wp2
          go_ret
          exact ⟨rfl, HB1.out.trans (LD11.below.mono HB1.out.size)⟩
end Go.Proofs.Ytkadljomimpnjaa
