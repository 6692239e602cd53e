/-
  The walk of DiskKeeps.
-/
import Derived.Test.YtkadljomimpnjaaLives6
import Derived.Test.YtkadljomimpnjaaKeepsMath
import Derived.Test.YtkadljomimpnjaaDiskParts
namespace Go.Proofs.Ytkadljomimpnjaa
open Go.RowKit Go.Maps Dsk
/-- Slices that were read one after another, apart from two blocks that grow. -/
def Off2 (g : Option Nat) (lo hi : Nat) : Prop := ∀ x, g = some x → x < lo ∨ hi ≤ x
structure Was (w : World) (h0 : Nat) (g1 g2 : Option Nat) (fs : Fs) (j : Nat) (vs : List Value) : Prop where
  len : vs.length = j
  at_ : ∀ k, k < j → ∃ A len cap lo hi x, vs[k]? = some (.slice A len cap) ∧ fs[k]? = some x ∧ Row w lo hi A len (U x.2.b) ∧ h0 ≤ lo ∧ hi ≤ w.heap.size ∧ len ≤ cap ∧ cap ≤ maxLen ∧ Off2 g1 lo hi ∧ Off2 g2 lo hi
theorem Was.nil {w : World} {h0 : Nat} {g1 g2 : Option Nat} {fs : Fs} : Was w h0 g1 g2 fs 0 [] := ⟨rfl, fun k hk => by omega⟩
theorem Was.below {w w' : World} {h0 : Nat} {g1 g2 : Option Nat} {fs : Fs} {j : Nat} {vs : List Value} (h : Was w h0 g1 g2 fs j vs) (hb : Below w.heap.size w w') : Was w' h0 g1 g2 fs j vs :=
  ⟨h.len, fun k hk => by
    obtain ⟨A, len, cap, lo, hi, x, h1, h2, h3, h4, h5, h6, h7, h8, h9⟩ := h.at_ k hk
    exact ⟨A, len, cap, lo, hi, x, h1, h2, h3.below hb h5, h4, Nat.le_trans h5 hb.size, h6, h7, h8, h9⟩⟩
/-- One of the two grew; it is where it was, or in a new block. -/
theorem Was.grew {w w' : World} {h0 : Nat} {g1 g2 g1' : Option Nat} {fs : Fs} {j : Nat} {vs : List Value} (h : Was w h0 g1 g2 fs j vs) (hg : w.grownBy w' g1) (h1 : g1' = g1 ∨ g1' = some w.heap.size) : Was w' h0 g1' g2 fs j vs :=
  ⟨h.len, fun k hk => by
    obtain ⟨A, len, cap, lo, hi, x, e1, e2, e3, e4, e5, e6, e7, e8, e9⟩ := h.at_ k hk
    refine ⟨A, len, cap, lo, hi, x, e1, e2, e3.grown hg e5 e8, e4, Nat.le_trans e5 hg.size, e6, e7, ?_, e9⟩
    rcases h1 with rfl | rfl
    · exact e8
    · intro y hy
      injection hy with hy
      omega⟩
theorem Was.turn {w : World} {h0 : Nat} {g1 g2 : Option Nat} {fs : Fs} {j : Nat} {vs : List Value} (h : Was w h0 g1 g2 fs j vs) : Was w h0 g2 g1 fs j vs :=
  ⟨h.len, fun k hk => by
    obtain ⟨A, len, cap, lo, hi, x, e1, e2, e3, e4, e5, e6, e7, e8, e9⟩ := h.at_ k hk
    exact ⟨A, len, cap, lo, hi, x, e1, e2, e3, e4, e5, e6, e7, e9, e8⟩⟩
theorem Was.put {w : World} {h0 : Nat} {g1 g2 : Option Nat} {fs : Fs} {j : Nat} {vs : List Value} (h : Was w h0 g1 g2 fs j vs) {A : Option Addr} {len cap lo hi : Nat} {x : Nm × Fil} (hx : fs[j]? = some x) (hR : Row w lo hi A len (U x.2.b)) (h1 : h0 ≤ lo) (h2 : hi ≤ w.heap.size) (h3 : len ≤ cap ∧ cap ≤ maxLen) (h4 : Off2 g1 lo hi) (h5 : Off2 g2 lo hi) : Was w h0 g1 g2 fs (j + 1) (vs ++ [.slice A len cap]) := by
  refine ⟨by simp [h.len], fun k hk => ?_⟩
  rcases Nat.lt_or_ge k j with hk' | hk'
  · obtain ⟨A, len, cap, lo, hi, x, e1, e⟩ := h.at_ k hk'
    exact ⟨A, len, cap, lo, hi, x, by rw [List.getElem?_append_left (by rw [h.len]; exact hk')]; exact e1, e⟩
  · obtain rfl : k = j := by omega
    exact ⟨A, len, cap, lo, hi, x, by rw [List.getElem?_append_right (by rw [h.len]; exact Nat.le_refl _), h.len]; simp, hx, hR, h1, h2, h3.1, h3.2, h4, h5⟩
/-- A crash touches none of them. -/
theorem Was.touch {w w' : World} {h0 : Nat} {g1 g2 : Option Nat} {fs : Fs} {j : Nat} {vs : List Value} {F : List Nat} (h : Was w h0 g1 g2 fs j vs) (ht : Touch w w' F) (hF : ∀ b ∈ F, b < h0) : Was w' h0 g1 g2 fs j vs :=
  ⟨h.len, fun k hk => by
    obtain ⟨A, len, cap, lo, hi, x, e1, e2, e3, e4, e5, e6, e7, e8, e9⟩ := h.at_ k hk
    exact ⟨A, len, cap, lo, hi, x, e1, e2, e3.touch ht e5 (fun b hb => .inl (Nat.lt_of_lt_of_le (hF b hb) e4)), e4, Nat.le_trans e5 ht.size, e6, e7, e8, e9⟩⟩
def Syn (fs : Fs) (j : Nat) : List Value := (fs.take j).map fun x => .int .i64 (x.2.s : Int)
theorem Syn_next {fs : Fs} {j : Nat} {x : Nm × Fil} (h : fs[j]? = some x) : Syn fs (j + 1) = Syn fs j ++ [.int .i64 (x.2.s : Int)] := by
  unfold Syn
  rw [List.take_add_one, h]
  simp
theorem Syn_at {fs : Fs} {j k : Nat} {x : Nm × Fil} (h : fs[k]? = some x) (hk : k < j) : (Syn fs j)[k]? = some (.int .i64 (x.2.s : Int)) := by
  unfold Syn
  rw [List.getElem?_map, List.getElem?_take_of_lt hk, h]
  rfl
theorem own_then {w w' : World} {base : Nat} {e : TypeId} {size : Nat} {v : Value} {n : Nat} {xs : List Value} (h : w.ownsRow base e size v n xs) (hb : Below w.heap.size w w') : w'.ownsRow base e size v n xs :=
  h.kept (only_of_below hb none) (by cases v.ownBlock <;> simp)
theorem infoB : (Try.prog.info? 29).map (fun i => (i.zero, i.size, i.bytes)) = some (some (.slice none 0 0), 1, 24) := by kernel_rfl
theorem infoJ : (Try.prog.info? 2).map (fun i => (i.zero, i.size, i.bytes)) = some (some (.int .i64 0), 1, 8) := by kernel_rfl
/-- Two blocks that grow, apart. -/
def Two (g1 g2 : Option Nat) : Prop := g1 = none ∨ g1 ≠ g2
theorem Two.flip {g1 g2 : Option Nat} (h : Two g1 g2) : Two g2 g1 := by
  rcases h with rfl | h
  · cases g2
    · exact .inl rfl
    · exact .inr (by simp)
  · exact .inr (Ne.symm h)
theorem keeps_step {w9 w10 w11 W6 : World} {h0 B lo hi : Nat} {e1 e2 : TypeId} {u11 u12 v10 v11 : Value} {fs : Fs} {j : Nat} {vs : List Value} {BA : Option Addr} {bl bc : Nat} {x : Nm × Fil} {o1 o2 : Obj}
    (Q9 : w9.ownsRow B e2 1 u12 j (Syn fs j)) (P9 : w9.ownsRow B e1 1 u11 j vs) (hTwo : Two u11.ownBlock u12.ownBlock)
    (own10 : w10.ownsRow B e1 1 v10 (j + 1) (vs ++ [.slice BA bl bc])) (grow10 : (w9.alloc o1).grownBy w10 u11.ownBlock) (at10 : v10.ownBlock = u11.ownBlock ∨ v10.ownBlock = some (w9.alloc o1).heap.size)
    (own11 : w11.ownsRow B e2 1 v11 (j + 1) (Syn fs j ++ [.int .i64 (x.2.s : Int)])) (grow11 : (w10.alloc o2).grownBy w11 u12.ownBlock) (at11 : v11.ownBlock = u12.ownBlock ∨ v11.ownBlock = some (w10.alloc o2).heap.size)
    (R9 : Was w9 h0 u11.ownBlock u12.ownBlock fs j vs) (hx : fs[j]? = some x) (S9 : Row w9 lo hi BA bl (U x.2.b)) (h1 : h0 ≤ lo) (h2 : hi ≤ w9.heap.size) (h3 : bl ≤ bc ∧ bc ≤ maxLen) (h4 : Off2 u11.ownBlock lo hi) (h5 : Off2 u12.ownBlock lo hi)
    (hb : Below B W6 w9) (hB : B ≤ W6.heap.size) :
    w11.ownsRow B e1 1 v10 (j + 1) (vs ++ [.slice BA bl bc]) ∧ w11.ownsRow B e2 1 v11 (j + 1) (Syn fs (j + 1)) ∧ Was w11 h0 v10.ownBlock v11.ownBlock fs (j + 1) (vs ++ [.slice BA bl bc]) ∧ Hid (Two v10.ownBlock v11.ownBlock) ∧ Below B W6 w11 := by
  have s1 : (w9.alloc o1).heap.size = w9.heap.size + 1 := by simp
  have s2 : (w10.alloc o2).heap.size = w10.heap.size + 1 := by simp
  have t10 : Two v10.ownBlock u12.ownBlock := by
    rcases at10 with e | e
    · rw [e]; exact hTwo
    · right
      rw [e]
      intro e2
      have := (Q9.lt _ e2.symm).2
      omega
  have a1 : Below w9.heap.size w9 (w9.alloc o1) := (Below.refl _ _).alloc (Nat.le_refl _) _
  have a2 : Below w10.heap.size w10 (w10.alloc o2) := (Below.refl _ _).alloc (Nat.le_refl _) _
  have b9 : B ≤ w9.heap.size := Nat.le_trans hB hb.size
  have b10 : Below B W6 w10 := (hb.alloc b9 o1).grown grow10 (by omega) (fun g hg => (P9.lt g hg).1)
  refine ⟨(own10.alloc o2).kept grow11 t10, by rw [Syn_next hx]; exact own11, ?_, hid ?_, (b10.alloc (Nat.le_trans hB b10.size) o2).grown grow11 (Nat.le_trans hB (b10.alloc (Nat.le_trans hB b10.size) o2).size) (fun g hg => (Q9.lt g hg).1)⟩
  · exact (((((R9.put hx S9 h1 h2 h3 h4 h5).below a1).grew grow10 at10).below a2).turn.grew grow11 at11).turn
  · rcases at11 with e | e
    · rw [e]; exact t10
    · right
      rw [e]
      intro e2
      have := (own10.lt _ e2).2
      omega
set_option maxHeartbeats 8000000 in
set_option maxRecDepth 20000 in
theorem keeps_walk (size : Int) (A : Option Addr) (n c : Nat) (l : List Ar) (K : Option Addr) (m mc : Nat) (ks : List Int) (w : World) (hl : Acts w w.heap.size A n l) (hn : n ≤ 9223372036854775807) (hR : Row w 0 w.heap.size K m (I ks)) (hwf : ∀ x ∈ ks, (Lit.int .i64 x).wf = true) (hK : K = none → mc = 0) :
    Calls Try.prog 5 #[.int .i64 size, .slice A n c, .slice K m mc] w fun e w' => e = .returned (.bool true) ∧ Below w.heap.size w w' := by
  have LV := hid (lives_any w)
  have HL := hid hl
  have HRR := hid hR
  have HKK := hid hK
  have HWF := hid hwf
  have hkm : ks.length = m := by have := hR.len; rwa [I_len] at this
  have HKM := hid hkm
  clear hl hR hK hwf hkm
  go_enter Try.func5, Try.ntmps5
  go_wp2_with fail
  refine LV.out.mono ?_
  rintro e w1 ⟨rfl, hb1⟩
  have HB1 := hid hb1
  clear LV hb1
  go_wp2_with fail
  refine (light_any A n c _ l w1 (HL.out.below HB1.out) hn).mono ?_
  rintro e w2 ⟨lb, rfl, hlight, rfl⟩
  cases lb
  case false =>
    go_wp2
    go_ret
    exact ⟨rfl, HB1.out⟩
  have HLT := hid (hlight rfl)
  clear hlight
  by_cases hm : m ≤ 120
  case neg =>
    go_wp2
    go_ret
    exact ⟨rfl, HB1.out⟩
  go_wp2_with fail
  refine (new_m w2 size).mono ?_
  rintro e w3 ⟨hb3, ⟨_, rfl⟩ | ⟨hs1, hs2, d, F, rfl, hd, hF⟩⟩
  · go_wp2
    go_ret
    exact ⟨rfl, HB1.out.trans (hb3.mono HB1.out.size)⟩
  have L0 := hid (live_new hb3 hs1 hs2 hd hF)
  clear hb3 hd hF hs1 hs2
  have hlen : n ≤ 120 := by have := HLT.out.1; rw [HL.out.len] at this; exact this
  go_wp2
  go_loopw [9] (fun i wr => ∃ (k : Nat) (F : List Nat) (D : Dk), k ≤ n ∧ i = .int .i64 k ∧ Live w2 wr d F D k) (fun i _ => n - (intOf i).toNat)
  case atStart => exact ⟨0, F, _, Nat.zero_le _, rfl, L0.out⟩
  case round =>
    obtain ⟨k, F1, D, hk, rfl, hL⟩ := hrel
    have L1 := hid hL
    clear hL
    by_cases hlt : k < n
    · obtain ⟨a, ha⟩ : ∃ a, l[k]? = some a := ⟨l[k]'(by rw [HL.out.len]; exact hlt), List.getElem?_eq_getElem _⟩
      obtain ⟨g, off, rfl, hgl, hcell⟩ := HL.out.at_ (by omega)
      have hbW : Below w.heap.size w wr := HB1.out.trans (L1.out.below.mono HB1.out.size)
      have CC : ∀ i v, a.cells[i]? = some v → wr.cell? ⟨g, off + k * 6 + i, none⟩ = some v := fun i v hv => (hbW.cell hgl).trans (hcell k a ha i v hv)
      have x0 : wr.cell? ⟨g, off + k * 6, none⟩ = some (.int .i64 a.kind) := CC 0 _ rfl
      have x1 := CC 1 _ rfl
      have x2 := CC 2 _ rfl
      have x3 := CC 3 _ rfl
      have x4 := CC 4 _ rfl
      have x5 := CC 5 _ rfl
      have HFA := hid ((HL.out.fine a (List.mem_of_getElem? ha)).below hbW)
      have HLA := hid (HLT.out.2 a (List.mem_of_getElem? ha))
      clear hcell ha hbW CC
      go_wp2_with fail
      refine (L1.out.act (by omega) a _ (Nat.le_trans (HB1.out).size L1.out.below.size) HFA.out HLA.out).mono ?_
      rintro e w4 ⟨rfl, F2, L2, _⟩
      clear x0 x1 x2 x3 x4 x5
      obtain ⟨E, hE⟩ : ∃ E, E = (Dsk.act D (acOf a)).2 := ⟨_, rfl⟩
      rw [← hE] at L2
      clear hE
      have hr1 := L2.fit.whole.room
      have hr2 := L2.fit.whole.top
      obtain ⟨us, hus⟩ : ∃ us, us = used E.fs := ⟨_, rfl⟩
      obtain ⟨es, hes⟩ : ∃ es, es = E.size := ⟨_, rfl⟩
      have HUS := hid hus
      have HES := hid hes
      rw [← hus, ← hes] at hr1
      rw [← hes] at hr2
      clear hus hes
      go_wp2_with fail
      refine (at_used L2.at_ L2.fit).mono ?_
      rw [← HUS.out]
      rintro e w5 ⟨rfl, hb5⟩
      have L3 := L2.then hb5
      clear L2 hb5
      go_wp2_with fail
      refine (at_room L3.at_).mono ?_
      rw [← HES.out]
      rintro e w6 ⟨rfl, hb6⟩
      have L4 := L3.then hb6
      clear L3 hb6
      go_wp2_with fail
      refine (at_used L4.at_ L4.fit).mono ?_
      rw [← HUS.out]
      rintro e w7 ⟨rfl, hb7⟩
      have L5 := L4.then hb7
      clear L4 hb7
      go_wp2
      go_roundw
      case rel => exact ⟨k + 1, F2, E, by omega, by go_num, L5⟩
      case measure => simp [intOf]; omega
    · obtain rfl : k = n := by omega
      clear L0 hlt
      obtain ⟨sz, fs, fu, o⟩ := D
      go_wp2_with fail
      refine (L1.out.fuse (-1) (by omega)).mono ?_
      have e1 : dFuse ⟨sz, fs, fu, o⟩ (-1) = (0, ⟨sz, fs, -1, o⟩) := by unfold dFuse; rw [if_neg (by omega)]
      rw [e1]
      rintro e w4 ⟨rfl, F2, L2, _⟩
      clear L1 e1
      go_wp2_with fail
      refine (at_off L2.at_).mono ?_
      rintro e w5 ⟨rfl, hb5⟩
      have L3 := L2.then hb5
      clear L2 hb5
      cases o
      case true =>
        go_wp2_with fail
        refine (L3.crash (by omega) 0 none 0 0 [] (arg_nil rfl) (by simp)).mono ?_
        rw [crash_good rfl]
        rintro e w6 ⟨rfl, F3, L4, _⟩
        clear L3
        go_wp2_with fail
        refine (at_off L4.at_).mono ?_
        rintro e w7 ⟨rfl, hb7⟩
        have L5 := L4.then hb7
        clear L4 hb7
        go_wp2
        go_ret
        exact ⟨rfl, HB1.out.trans (L5.below.mono HB1.out.size)⟩
      case false =>
        go_wp2_with fail
        refine (at_names L3.at_ L3.fit (by omega)).mono ?_
        rintro e w6 ⟨v, rfl, NA, nl, nc, rfl, hNR, _, _, hnc, hb6⟩
        have hNR0 : Row w6 w5.heap.size w6.heap.size NA nl (Sv (fs.map (·.1))) := by
          have e : (fs.map fun x => S x.1) = Sv (fs.map (·.1)) := by simp [Sv]
          rw [← e]
          exact hNR
        have hnl : fs.length = nl := by have := hNR0.len; rw [Sv_len] at this; simpa using this
        have hfw : ∀ b ∈ F2, b < w5.heap.size := L3.lt
        have L4 := L3.then hb6
        have hnb : nl ≤ k + 1 := by rw [← hnl]; exact L4.fit.len
        have HNR := hid hNR0
        have HNL := hid hnl
        have HFW := hid hfw
        have HH := hid hb6.size
        clear hNR hNR0 hnl hfw L3 hb6 hnc
        have L5 := hid L4
        clear L4
        go_wp2
        go_loopw [11, 12, 13, 14, 15, 16] (fun was syn i _ _ _ wr => ∃ (j : Nat) (vs : List Value), j ≤ nl ∧ i = .int .i64 (j : Int) ∧ wr.ownsRow w6.heap.size 29 1 was j vs ∧ wr.ownsRow w6.heap.size 2 1 syn j (Syn fs j) ∧ Was wr w5.heap.size was.ownBlock syn.ownBlock fs j vs ∧ Hid (Two was.ownBlock syn.ownBlock) ∧ Below w6.heap.size w6 wr) (fun _ _ i _ _ _ _ => nl - (intOf i).toNat)
        case atStart => exact ⟨0, [], Nat.zero_le _, rfl, World.ownsRow_nil _ _ _ _, World.ownsRow_nil _ _ _ _, Was.nil, hid (.inl rfl), Below.refl _ _⟩
        case round =>
          obtain ⟨j, vs, hj, rfl, hown1, hown2, hWas, hTwo, hbr⟩ := hrel
          have O1 := hid hown1
          have O2 := hid hown2
          have HWA := hid hWas
          have HBR := hid hbr
          clear hown1 hown2 hWas hbr
          have LW : Hid (∀ W, Below w6.heap.size w6 W → Live w2 W d F2 ⟨sz, fs, -1, false⟩ (k + 1)) := hid fun W hW => L5.out.then hW
          by_cases hjn : j < nl
          · obtain ⟨x, hx⟩ : ∃ x, fs[j]? = some x := ⟨fs[j]'(by rw [HNL.out]; exact hjn), List.getElem?_eq_getElem _⟩
            obtain ⟨nn, f⟩ := x
            have HT := hid (told_at L5.out.fit.whole rfl hx)
            obtain ⟨nb, noff, u, rfl, hnb1, hnb2, hu, hcl⟩ := HNR.out.at_ hjn
            have hue : u = S nn := by
              unfold Sv at hu
              rw [List.getElem?_map, List.getElem?_map, hx] at hu
              simpa using hu.symm
            subst hue
            have HC : Hid (∀ W, Below w6.heap.size w6 W → W.cell? ⟨nb, noff + j, none⟩ = some (S nn)) := hid fun W hW => (hW.cell hnb2).trans hcl
            have HX := hid hx
            clear hu hcl hnb1 hnb2 hx
            obtain ⟨sb, hsb⟩ : ∃ sb, S nn = .string sb := ⟨_, rfl⟩
            rw [hsb] at HC
            have HSB := hid hsb
            clear hsb
            have c1 := HC.out wr HBR.out
            go_wp2_with fail
            rw [← HSB.out]
            refine (at_read (LW.out wr HBR.out).at_ (LW.out wr HBR.out).fit nn HT.out.name).mono ?_
            rw [HT.out.ready, HT.out.read]
            rintro e w7 ⟨v, rfl, BA, bl, bc, rfl, hBR, _, hbl, hbc, hb7⟩
            have HB7 := hid (HBR.out.trans (hb7.mono HBR.out.size))
            have P7 := hid (own_then O1.out hb7)
            have Q7 := hid (own_then O2.out hb7)
            have R7 := hid (HWA.out.below hb7)
            have hbe : f.b.length = bl := by have := hBR.len; rwa [U_len] at this
            have LT7 : Hid (∀ v e s n xs, wr.ownsRow w6.heap.size e s v n xs → Off2 v.ownBlock wr.heap.size w7.heap.size) := hid fun v e s n xs h x hx => .inl (h.lt x hx).2
            have HBRo := hid hBR
            have HBL := hid (And.intro hbl hbc)
            have c1 := HC.out w7 HB7.out
            have hb7s := hid hb7.size
            clear hb7 hBR hbl hbc
            go_wp2_with fail
            rw [← HSB.out]
            refine (at_synced (LW.out w7 HB7.out).at_ nn HT.out.name).mono ?_
            rw [HT.out.synced]
            rintro e w8 ⟨rfl, hb8⟩
            have HB8 := hid (HB7.out.trans (hb8.mono HB7.out.size))
            have P8 := hid (own_then P7.out hb8)
            have Q8 := hid (own_then Q7.out hb8)
            have R8 := hid (R7.out.below hb8)
            have S8 := hid (HBRo.out.below hb8 (Nat.le_refl _))
            have HZ8 := hid hb8.size
            have c1 := HC.out w8 HB8.out
            clear hb8 P7 Q7 R7
            have hlow := HT.out.low
            rw [hbe] at hlow
            go_wp2_with fail
            rw [← HSB.out]
            refine (at_size (LW.out w8 HB8.out).at_ nn HT.out.name).mono ?_
            rw [HT.out.size, hbe]
            rintro e w9 ⟨rfl, hb9⟩
            have HB9 := hid (HB8.out.trans (hb9.mono HB8.out.size))
            have P9 := hid (own_then P8.out hb9)
            have Q9 := hid (own_then Q8.out hb9)
            have R9 := hid (R8.out.below hb9)
            have S9 := hid (S8.out.below hb9 HZ8.out)
            have HZ9 := hid (Nat.le_trans HZ8.out hb9.size)
            have HBE := hid hbe
            clear hb9 P8 Q8 R8 S8 c1 hbe
            obtain ⟨i1, hi1, hz10, hz11, hz12⟩ := info_parts infoB
            obtain ⟨i2, hi2, hz20, hz21, hz22⟩ := info_parts infoJ
            have hmx : j + 1 ≤ maxLen := by unfold maxLen; omega
            have hmb1 : (j + 1) * 24 ≤ 140737488355328 := by omega
            have hmb2 : (j + 1) * 8 ≤ 140737488355328 := by omega
            have hs69 : w6.heap.size ≤ w9.heap.size := HB9.out.size
            have one1 : ∀ u ∈ [Value.slice BA bl bc], u.oneCell' = true := by intro u hu; simp at hu; subst hu; rfl
            have one2 : ∀ u ∈ [Value.int .i64 (f.s : Int)], u.oneCell' = true := by intro u hu; simp at hu; subst hu; rfl
            go_wp2_with (at_builtin; go_loud (first
              | (refine wpList_append_row _ rfl _ _ 51 rfl w6.heap.size 29 i1 (.slice none 0 0) 24 Try.underlying51 hi1 hz10 hz11 hz12 rfl _ j vs rfl (P9.out.alloc _) w9.heap.size (w9.heap.size + 1) (some ⟨w9.heap.size, 0, none⟩) 1 1 rfl (fun e => by cases e) [.slice BA bl bc] (row_one w9 _ _) one1 hmx hmb1 (by simp; omega) ?_; intro v10 w10 own10 grow10 at10)
              | (refine wpList_append_row _ rfl _ _ 52 rfl w6.heap.size 2 i2 (.int .i64 0) 8 Try.underlying52 hi2 hz20 hz21 hz22 rfl _ j (Syn fs j) rfl (((Q9.out.alloc _).kept grow10 hTwo.out.flip).alloc _) w10.heap.size (w10.heap.size + 1) (some ⟨w10.heap.size, 0, none⟩) 1 1 rfl (fun e => by cases e) [.int .i64 (f.s : Int)] (row_one w10 _ _) one2 hmx hmb2 (by have := grow10.size; simp at this ⊢; omega) ?_; intro v11 w11 own11 grow11 at11)))
            have KK := keeps_step (x := (nn, f)) Q9.out P9.out hTwo.out own10 grow10 at10 own11 grow11 at11 R9.out HX.out S9.out (Nat.le_trans HH.out HBR.out.size) HZ9.out HBL.out (LT7.out _ _ _ _ _ O1.out) (LT7.out _ _ _ _ _ O2.out) HB9.out (Nat.le_refl _)
            exact ⟨⟨j + 1, _, by omega, by go_num, KK⟩, by simp [intOf]; omega⟩
          · obtain rfl : j = nl := by omega
            clear hjn
            have hkm : ks.length = m := HKM.out
            go_wp2
            go_loopw [17, 18] (fun bad i wq => ∃ q : Nat, q ≤ m ∧ i = .int .i64 (q : Int) ∧ bad = .bool ((ks.take q).any (fun x => decide (x < 0))) ∧ wq.ownsRow w6.heap.size 29 1 u11 j vs ∧ wq.ownsRow w6.heap.size 2 1 u12 j (Syn fs j) ∧ Was wq w5.heap.size u11.ownBlock u12.ownBlock fs j vs ∧ Below w6.heap.size w6 wq) (fun _ i _ => m - (intOf i).toNat)
            case atStart => exact ⟨0, Nat.zero_le _, rfl, by simp, O1.out, O2.out, HWA.out, HBR.out⟩
            case round =>
              clear O1 O2 HWA HBR
              obtain ⟨q, hq, rfl, rfl, hown1, hown2, hWas, hbr⟩ := hrel
              have O1 := hid hown1
              have O2 := hid hown2
              have HWA := hid hWas
              have HBR := hid hbr
              clear hown1 hown2 hWas hbr
              obtain ⟨bb, hbb⟩ : ∃ bb, bb = (ks.take q).any (fun x => decide (x < 0)) := ⟨_, rfl⟩
              rw [← hbb]
              by_cases hqm : q < m
              · obtain ⟨kb, koff, u, rfl, _, hkb, hu, hcl⟩ := HRR.out.at_ hqm
                obtain ⟨y, hy⟩ : ∃ y, ks[q]? = some y := ⟨ks[q]'(by omega), List.getElem?_eq_getElem _⟩
                have hue : u = .int .i64 y := by
                  unfold I at hu
                  rw [List.getElem?_map, hy] at hu
                  simpa using hu.symm
                subst hue
                have hnext : (ks.take (q + 1)).any (fun x => decide (x < 0)) = (bb || decide (y < 0)) := by
                  rw [List.take_add_one, hy, hbb]
                  simp
                have HN := hid hnext
                have c1 : wr.cell? ⟨kb, koff + q, none⟩ = some (.int .i64 y) := ((HB1.out.trans (((L5.out.then HBR.out).below).mono HB1.out.size)).cell hkb).trans hcl
                clear hnext hu hcl hkb hbb hy
                cases bb
                case true =>
                  go_wp2
                  go_roundw
                  case rel => exact ⟨q + 1, by omega, by go_num, by rw [HN.out]; rfl, O1.out, O2.out, HWA.out, HBR.out⟩
                  case measure => simp [intOf]; omega
                case false =>
                  go_wp2
                  go_roundw
                  case rel => exact ⟨q + 1, by omega, by go_num, by rw [HN.out]; simp, O1.out, O2.out, HWA.out, HBR.out⟩
                  case measure => simp [intOf]; omega
              · obtain rfl : q = m := by omega
                rw [List.take_of_length_le (by omega)] at hbb
                clear hqm
                have HBB := hid hbb
                clear hbb
                go_wp2_with fail
                refine (own_ints K q mc 0 w.heap.size ks wr (HRR.out.below (HB1.out.trans (((L5.out.then HBR.out).below).mono HB1.out.size)) (Nat.le_refl _)) HKK.out (Nat.le_trans HB1.out.size (L5.out.then HBR.out).below.size) (by omega)).mono ?_
                rintro e w7 ⟨A3, n3, c9, rfl, hn3, hA3, hown3, hb7⟩
                have L6 := (L5.out.then HBR.out).then hb7
                have HARG := hid (own_arg hown3 (L5.out.then HBR.out).lt)
                have P7 := own_then O1.out hb7
                have Q7 := own_then O2.out hb7
                have HWA7 := hid (HWA.out.below hb7)
                obtain ⟨A1, c1, rfl, _, _⟩ := own_shape P7
                obtain ⟨A2, c2, rfl, _, _⟩ := own_shape Q7
                have R1 := hid (Row.of_own P7)
                have R2 := hid (Row.of_own Q7)
                have RN := hid (HNR.out.below (HBR.out.trans (hb7.mono HBR.out.size)) (Nat.le_refl _))
                have HZ7 : Hid (w6.heap.size ≤ w7.heap.size) := hid (Nat.le_trans HBR.out.size hb7.size)
                clear hown3 P7 Q7 O1 O2 HWA HBR hb7 hn3 hA3
                go_wp2_with fail
                refine (L6.crash (by omega) _ A3 n3 c9 ks HARG.out HWF.out).mono ?_
                cases bb
                case true =>
                  rw [crash_bad HBB.out.symm]
                  rintro e w8 ⟨rfl, F3, L8, _⟩
                  clear L6
                  go_wp2
                  go_ret
                  exact ⟨rfl, HB1.out.trans (L8.below.mono HB1.out.size)⟩
                case false =>
                  rw [crash_good HBB.out.symm]
                  rintro e w8 ⟨rfl, F3, L8, B8⟩
                  have R1' := hid (R1.out.touch B8.touch (Nat.le_refl _) (fun b hb => .inl (by have := HFW.out b hb; have := HH.out; omega)))
                  have R2' := hid (R2.out.touch B8.touch (Nat.le_refl _) (fun b hb => .inl (by have := HFW.out b hb; have := HH.out; omega)))
                  have RN' := hid (RN.out.touch B8.touch HZ7.out (fun b hb => .inl (HFW.out b hb)))
                  have WA' := hid (HWA7.out.touch B8.touch HFW.out)
                  have HZ8 := hid B8.touch.size
                  clear L6 R1 R2 RN HWA7 B8 HARG
                  go_wp2_with fail
                  refine (at_names L8.at_ L8.fit (by omega)).mono ?_
                  rintro e w9 ⟨v, rfl, MA, ml, mcc, rfl, hMR, _, hml, hmm, hb9⟩
                  have hMR0 : Row w9 w8.heap.size w9.heap.size MA ml (Sv (fs.map (·.1))) := by
                    have e : ((crashFs fs ks).map fun x => S x.1) = Sv (fs.map (·.1)) := by
                      rw [← crash_names fs ks]
                      simp [Sv]
                    rw [← e]
                    exact hMR
                  have L9 := L8.then hb9
                  have HM0 := hid hMR0
                  have hz78 : w7.heap.size ≤ w8.heap.size := HZ8.out
                  have R1 := hid (R1'.out.below hb9 HZ8.out)
                  have R2 := hid (R2'.out.below hb9 HZ8.out)
                  have RN := hid (RN'.out.below hb9 (Nat.le_trans HZ7.out HZ8.out))
                  have WA := hid (WA'.out.below hb9)
                  have HZ9 := hid hb9.size
                  have hml2 : ml ≤ 9223372036854775807 := by unfold maxLen at hmm; omega
                  have HML := hid hml2
                  clear hMR hMR0 L8 R1' R2' RN' WA' hb9 hml hmm hml2 hz78
                  go_wp2_with fail
                  refine (same_strs MA NA ml j mcc nc _ _ _ _ _ _ w9 HM0.out RN.out HML.out).mono ?_
                  rw [decide_eq_true rfl]
                  rintro e w10 ⟨rfl, kk, rfl⟩
                  have L10 := hid (L9.draws kk)
                  have HZ10 : Hid (w7.heap.size ≤ w9.heap.size) := hid (Nat.le_trans HZ8.out HZ9.out)
                  clear L9 HM0
                  go_wp2
                  go_loopw [19, 20, 21] (fun i _ _ wq => ∃ z : Nat, z ≤ j ∧ i = .int .i64 (z : Int) ∧ Live w2 wq d F3 ⟨sz, crashFs fs ks, -1, false⟩ (k + 1 + 1) ∧ Row wq w5.heap.size w6.heap.size NA j (Sv (fs.map (·.1))) ∧ Row wq w6.heap.size w7.heap.size A1 j vs ∧ Row wq w6.heap.size w7.heap.size A2 j (Syn fs j) ∧ Was wq w5.heap.size (Value.slice A1 j c1).ownBlock (Value.slice A2 j c2).ownBlock fs j vs ∧ w7.heap.size ≤ wq.heap.size) (fun i _ _ _ => j - (intOf i).toNat)
                  case atStart => exact ⟨0, Nat.zero_le _, rfl, L10.out, RN.out.drewN kk, R1.out.drewN kk, R2.out.drewN kk, WA.out.below (below_drewN (Below.refl _ _) kk), HZ10.out⟩
                  case round =>
                    clear L10 RN R1 R2 WA HZ10 HZ9 HZ8
                    obtain ⟨z, hz, rfl, hL, hRN, hR1, hR2, hWA, hzs⟩ := hrel
                    have L9 := hid hL
                    have RN := hid hRN
                    have R1 := hid hR1
                    have R2 := hid hR2
                    have WA := hid hWA
                    have HZS := hid hzs
                    clear hL hRN hR1 hR2 hWA hzs
                    by_cases hzj : z < j
                    · obtain ⟨WAa, wl, wc, lo, hi, x, hv, hx, hWR, hlo, hhi, hwl, hwc, _, _⟩ := WA.out.at_ z hzj
                      obtain ⟨nn, f⟩ := x
                      have hlow : f.s ≤ f.b.length := by
                        have hT := told_at L5.out.fit.whole rfl hx
                        exact hT.low
                      obtain ⟨mm, hcut, hm1, hm2⟩ := cut_low hlow (ks.getD z 0)
                      have hx2 : (crashFs fs ks)[z]? = some (nn, ⟨f.b.take mm, mm⟩) := by
                        rw [crash_at, hx, ← hcut]
                        rfl
                      have HT := hid (told_at L9.out.fit.whole rfl hx2)
                      have hwe : f.b.length = wl := by have := hWR.len; rwa [U_len] at this
                      obtain ⟨nb, noff, u, rfl, _, hnb2, hu, hcl⟩ := RN.out.at_ hzj
                      have hue : u = S nn := by
                        unfold Sv at hu
                        rw [List.getElem?_map, List.getElem?_map, hx] at hu
                        simpa using hu.symm
                      subst hue
                      obtain ⟨b1, f1, u1, rfl, _, hb12, hu1, hcl1⟩ := R1.out.at_ hzj
                      rw [hv] at hu1
                      injection hu1 with hu1
                      subst hu1
                      obtain ⟨b2, f2, u2, rfl, _, hb22, hu2, hcl2⟩ := R2.out.at_ hzj
                      rw [Syn_at hx hzj] at hu2
                      injection hu2 with hu2
                      subst hu2
                      have hz67 := HZ7.out
                      have hz7r := HZS.out
                      have CN : Hid (∀ W, Below wr.heap.size wr W → W.cell? ⟨nb, noff + z, none⟩ = some (S nn) ∧ W.cell? ⟨b1, f1 + z, none⟩ = some (.slice WAa wl wc) ∧ W.cell? ⟨b2, f2 + z, none⟩ = some (.int .i64 (f.s : Int))) := hid fun W hW =>
                        ⟨(hW.cell (p := ⟨nb, noff + z, none⟩) (by show nb < _; omega)).trans hcl, (hW.cell (p := ⟨b1, f1 + z, none⟩) (by show b1 < _; omega)).trans hcl1, (hW.cell (p := ⟨b2, f2 + z, none⟩) (by show b2 < _; omega)).trans hcl2⟩
                      have HWR := hid hWR
                      have HHI := hid hhi
                      have HWC := hid hwc
                      clear hu hcl hnb2 hcl1 hb12 hcl2 hb22 hx hx2 hcut hv hlow hlo hWR hhi hz67 hz7r hwc
                      obtain ⟨sb, hsb⟩ : ∃ sb, S nn = .string sb := ⟨_, rfl⟩
                      rw [hsb] at CN
                      have HSB := hid hsb
                      clear hsb
                      rw [hwe] at hm2
                      have HWE := hid hwe
                      clear hwe
                      obtain ⟨d1, _, _⟩ := CN.out wr (Below.refl _ _)
                      go_wp2_with fail
                      rw [← HSB.out]
                      refine (at_read L9.out.at_ L9.out.fit nn HT.out.name).mono ?_
                      rw [HT.out.ready, HT.out.read]
                      rintro e w11 ⟨v, rfl, BA, bl, bc, rfl, hBR, _, hbl, hbc, hb11⟩
                      have hbe : bl = mm := by
                        have := hBR.len
                        rw [U_len, List.length_take] at this
                        have := HWE.out
                        omega
                      subst hbe
                      have L11 := L9.out.then hb11
                      obtain ⟨d1, d2, d3⟩ := CN.out w11 hb11
                      have HB11 := hid hb11
                      have HBRo := hid hBR
                      have hblc : bl ≤ 9223372036854775807 := by unfold maxLen at hbc; omega
                      have hblw : bl ≤ wc := Nat.le_trans hm2 hwl
                      have HT2 := hid ((HWR.out.below hb11 HHI.out).take hm2)
                      rw [U_take] at HT2
                      have HBLC := hid hblc
                      clear hb11 hBR hbc hblc
                      have HSY : Hid (dSynced ⟨sz, crashFs fs ks, -1, false⟩ nn = (bl : Int)) := hid HT.out.synced
                      go_wp2_with fail
                      refine (same_yes BA WAa bl bl bc wc _ _ _ _ _ _ w11 HBRo.out HT2.out HBLC.out rfl).mono ?_
                      rintro e w12 ⟨rfl, kk2, rfl⟩
                      have L12 := L11.draws kk2
                      have HB12 := hid (below_drewN HB11.out kk2)
                      obtain ⟨d1, _, _⟩ := CN.out _ HB12.out
                      clear L11 HBRo HT2 d2 d3
                      go_wp2_with fail
                      rw [← HSB.out]
                      refine (at_synced L12.at_ nn HT.out.name).mono ?_
                      rw [HSY.out]
                      rintro e w13 ⟨rfl, hb13⟩
                      have L13 := L12.then hb13
                      have HB13 := hid (HB12.out.trans (hb13.mono HB12.out.size))
                      clear L12 hb13 d1
                      go_wp2
                      go_roundw
                      case rel => exact ⟨z + 1, by omega, by go_num, L13, RN.out.below HB13.out (Nat.le_trans HZ7.out HZS.out), R1.out.below HB13.out HZS.out, R2.out.below HB13.out HZS.out, WA.out.below HB13.out, Nat.le_trans HZS.out HB13.out.size⟩
                      case measure => simp [intOf]; omega
                    · obtain rfl : z = j := by omega
                      clear RN R1 R2 WA hzj
                      have HST := hid (crash_still sz fs ks L5.out.fit.whole.synced)
                      go_wp2_with fail
                      refine (at_clone L9.out.at_ L9.out.fit (by omega)).mono ?_
                      rintro e w11 ⟨cc, G, rfl, hdc, hG, hb11⟩
                      obtain ⟨LC, apC⟩ := live_clone L9.out hdc hG hb11
                      have L11 := L9.out.then hb11
                      clear L9 hdc hG hb11
                      go_wp2_with fail
                      refine (L11.crash (by omega) 0 none 0 0 [] (arg_nil rfl) (by simp)).mono ?_
                      rw [HST.out]
                      rintro e w12 ⟨rfl, F4, L12, B12⟩
                      obtain ⟨LC2, _⟩ := LC.beside B12 L12.below apC
                      clear L11 LC B12
                      go_wp2_with fail
                      refine (at_same L12.at_ LC2.at_ L12.fit LC2.fit).mono ?_
                      rw [decide_eq_true rfl]
                      rintro e w13 ⟨rfl, hb13⟩
                      have L13 := L12.then hb13
                      have LC3 := LC2.then hb13
                      clear L12 LC2 hb13
                      go_wp2_with fail
                      refine (at_same LC3.at_ L13.at_ LC3.fit L13.fit).mono ?_
                      rw [decide_eq_true rfl]
                      rintro e w14 ⟨rfl, hb14⟩
                      have L14 := L13.then hb14
                      clear L13 LC3 hb14
                      go_wp2
                      go_ret
                      exact ⟨rfl, HB1.out.trans (L14.below.mono HB1.out.size)⟩
end Go.Proofs.Ytkadljomimpnjaa
