/-
  The walk of the law OctetOwn: for all bytes, spare ones, number and count it answers true, and changes nothing that was there.
-/
import Derived.Test.YtglmkbdkhcapaaaLives
import Derived.Test.YtglmkbdkhcapaaaReader
namespace Go.Proofs.Ytglmkbdkhcapaaa
open Go.RowKit

theorem tk_bytes {l : List UInt8} {n : Nat} (hn : n ≤ l.length) (hb : l.length ≤ 1000) : tk l 0 n 9223372036854775807 = (l.take n, l.drop n, 0) := by
  have hw : why n 9223372036854775807 l.length = 0 := by unfold why; rw [if_neg (by omega), if_neg (by omega)]
  unfold tk
  rw [if_neg (by simp), if_pos hw, Int.toNat_natCast]

/-- The loop that changes all bytes: the reader stays as it is, the bytes are numbers still. -/
def OwnRel (w : World) (B1 B6 g L : Nat) (A3 : Option Addr) (ll : List UInt8) (i : Value) (wr : World) : Prop :=
  ∃ k : Nat, k ≤ L ∧ i = .int .i64 k ∧ Below w.heap.size w wr ∧ Rd wr B6 g ll 0 ∧
    (0 < L → ∃ g9 c zs, A3 = some ⟨g9, 0, none⟩ ∧ g9 < B6 ∧ w.heap.size ≤ g9 ∧ wr.ownsRow B1 5 1 (.slice (some ⟨g9, 0, none⟩) L c) L (List.map (Value.int .u8) zs))

theorem ownRel_start {w w6 w7 : World} {B1 g L c : Nat} {A3 : Option Addr} {ll m : List UInt8} (hB1 : w.heap.size ≤ B1) (hb : Below w.heap.size w w7) (h67 : Below w6.heap.size w6 w7) (hrd : Rd w7 w6.heap.size g ll 0)
    (hown : w6.ownsRow B1 5 1 (.slice A3 L c) L (U m)) : OwnRel w B1 w6.heap.size g L A3 ll (.int .i64 0) w7 := by
  refine ⟨0, Nat.zero_le _, rfl, hb, hrd, fun hL => ?_⟩
  obtain ⟨b, cap, hv, h1, h2⟩ := hown.form hL
  injection hv with hv _ hc
  subst hv hc
  refine ⟨b, c, m.map fun x => (x.toNat : Int), rfl, h2, by omega, ?_⟩
  have := hown.kept (only_of_below h67 none) (.inr (by simp [Value.ownBlock]))
  have e : List.map (Value.int .u8) (m.map fun x => (x.toNat : Int)) = U m := by simp [U]
  rw [e]
  exact this

theorem ownRel_step {w wr : World} {B1 B6 g L c k g9 : Nat} {ll : List UInt8} {zs : List Int} (z : Int) (hk : k < L) (h6 : B6 ≤ g) (hb : Below w.heap.size w wr) (hrd : Rd wr B6 g ll 0) (h9 : g9 < B6) (hw9 : w.heap.size ≤ g9)
    (hown : wr.ownsRow B1 5 1 (.slice (some ⟨g9, 0, none⟩) L c) L (List.map (Value.int .u8) zs)) :
    OwnRel w B1 B6 g L (some ⟨g9, 0, none⟩) ll (.int .i64 ((k : Int) + 1)) (wr.setCell ⟨g9, k, none⟩ (.int .u8 z)) := by
  obtain ⟨h1, h2⟩ := hown.stored k (.int .u8 z)
  refine ⟨k + 1, hk, by go_num, hb.setCell hw9 _, hrd.grown h2 (by omega) (by omega), fun _ => ⟨g9, c, zs.set k z, rfl, h9, hw9, ?_⟩⟩
  rw [List.map_set]
  exact h1

set_option maxHeartbeats 1600000 in
theorem octetOwn_walk (a a' : Option Addr) (len cap len' cap' : Nat) (l l' : List UInt8) (x n : Int) (w : World) (hR : Row w 0 w.heap.size a len (U l)) (hR' : Row w 0 w.heap.size a' len' (U l')) (hA : a = none → cap = 0) (hA' : a' = none → cap' = 0) (hm : len ≤ 9223372036854775807) (hm' : len' ≤ 9223372036854775807) (h0 : 0 ≤ x) :
    Calls Try.prog 8 #[.slice a len cap, .slice a' len' cap', .int .u64 x, .int .i64 n] w fun e w' => e = .returned (.bool true) ∧ Below w.heap.size w w' := by
  obtain ⟨i0, hi, hz0, hz1, hz2⟩ := info_parts info5
  have HA : Hid (a = none → cap = 0) := hA
  have HA' : Hid (a' = none → cap' = 0) := hA'
  clear hA hA'
  have HL : Hid (l.length = len) := by have := hR.len; rwa [U_len] at this
  have HL' : Hid (l'.length = len') := by have := hR'.len; rwa [U_len] at this
  go_enter Try.func8, Try.ntmps8
  go_wp2_with fail
  refine (lives_any w).mono ?_
  rintro e w1 ⟨rfl, hb1⟩
  have hzz1 := hb1.size
  by_cases hlen : 200 < len
  · go_wp2
    go_ret
    exact ⟨rfl, hb1⟩
  by_cases hlen2 : 200 < len'
  · go_wp2
    go_ret
    exact ⟨rfl, hb1⟩
  have hle : len ≤ 200 := by omega
  have hle' : len' ≤ 200 := by omega
  clear hlen hlen2
  go_wp2_with fail
  refine (own_any a len cap 0 w.heap.size l _ (hR.below hb1 (Nat.le_refl _)) HA.out hzz1 (by omega)).mono ?_
  rintro e w2 ⟨A2, n2, c2, rfl, hl2, hA2, hown2, hb2⟩
  have hbw2 : Below w.heap.size w w2 := hb1.trans (hb2.mono hzz1)
  have hzz2 := hbw2.size
  have hz12 := hb2.size
  obtain rfl : n2 = len := by rw [← hl2.out, HL.out]
  go_wp2_with (at_builtin; refine wpList_append_row _ rfl (.tmp 24) (.tmp 25) 24 rfl w1.heap.size 5 i0 (.int .u8 0) 1 Try.underlying24 hi hz0 hz1 hz2 rfl (.slice A2 n2 c2) n2 (U l) rfl hown2 0 w.heap.size a' len' cap' rfl HA'.out (U l') (hR'.below hbw2 (Nat.le_refl _)) (U_one l') (by unfold maxLen; omega) (by omega) (by omega) ?_; intro v3 w3 hown3 hgrow3 hat3; obtain ⟨A3, c3, rfl, hA3, hc3⟩ := own_shape hown3; have HA3 := hid hA3; clear hA3 hat3)
  have hbw3 : Below w.heap.size w w3 := hbw2.grown hgrow3 hzz2 (fun k hk => by have := (hown2.lt k hk).1; omega)
  have hzz3 := hbw3.size
  have hz13 : w1.heap.size ≤ w3.heap.size := by have := hgrow3.size; omega
  rw [← U_append] at hown3
  have hR3 := Row.of_own hown3
  have ht3 : Row w3 w1.heap.size w3.heap.size A3 n2 (U l) := by
    have := hR3.take (show n2 ≤ n2 + len' by omega)
    rwa [U_take, List.take_left' HL.out] at this
  clear hgrow3 hown2 hb2 hbw2
  refine (put_any A3 n2 c3 w1.heap.size w3.heap.size l _ _ _ ht3 HA3.out (Nat.le_refl _) (by omega) h0).mono ?_
  rintro e w4 ⟨A4, n4, c4, rfl, hl4, hA4, hown4, hb4⟩
  have hz34 := hb4.size
  have hbw4 : Below w.heap.size w w4 := hbw3.trans (hb4.mono hzz3)
  have hn4 : n2 ≤ n4 := by rw [← hl4.out, List.length_append, HL.out]; omega
  have hn4' : n4 ≤ 1000 := by rw [← hl4.out, List.length_append, HL.out, putB_len]; unfold clampN; omega
  have hc4 := own_cap hown4
  have hR4 := Row.of_own hown4
  have ht4 : Row w4 w3.heap.size w4.heap.size A4 n2 (U l) := by
    have := hR4.take hn4
    rwa [U_take, List.take_left' HL.out] at this
  have hown34 : w4.ownsRow w1.heap.size 5 1 (.slice A3 (n2 + len') c3) (n2 + len') (U (l ++ l')) := by
    refine hown3.kept (only_of_below hb4 none) ?_
    cases A3 with
    | none => exact .inl rfl
    | some ad => exact .inr (by simp [Value.ownBlock])
  have hR34 := Row.of_own hown34
  have hd34 := hR34.drop (show n2 ≤ n2 + len' by omega) hc3
  rw [U_drop, List.drop_left' HL.out, Nat.add_sub_cancel_left] at hd34
  clear hown3 hown4 hb4 hR3 ht3 hR4 hbw3
  have hlz : n2 + len' ≤ 1000 := by omega
  by_cases hcc : c3 = n2
  case' pos =>
    obtain rfl : n2 = c3 := hcc.symm
    have hE : Hid ([] = l') := (List.eq_nil_of_length_eq_zero (by rw [HL'.out]; omega)).symm
    go_wp2_with fail
    refine (same_yes _ _ 0 len' _ _ 0 0 0 w.heap.size [] l' _ Row.empty (hR'.below hbw4 (Nat.le_refl _)) (by omega) hE.out).mono ?_
    rintro e w5 ⟨rfl, k5, rfl⟩
  case' neg =>
    rw [if_neg hcc] at hd34
    go_wp2_with fail
    refine (same_yes _ _ len' len' _ _ w1.heap.size w4.heap.size 0 w.heap.size l' l' _ hd34 (hR'.below hbw4 (Nat.le_refl _)) (by omega) rfl).mono ?_
    rintro e w5 ⟨rfl, k5, rfl⟩
  all_goals
    go_wp2_with fail
    refine (same_yes _ _ n2 n2 _ _ w3.heap.size w4.heap.size 0 w.heap.size l l _ (ht4.drewN k5) ((hR.below hbw4 (Nat.le_refl _)).drewN k5) (by omega) rfl).mono ?_
    rintro e w6 ⟨rfl, k6, hw6⟩
    have hb6 : Below w.heap.size w w6 := by rw [hw6]; exact below_drewN (below_drewN hbw4 _) _
    have hown6 := own_drewN (own_drewN hown34 k5) k6
    rw [← hw6] at hown6
    have hs6 : w4.heap.size ≤ w6.heap.size := by rw [hw6]; exact Nat.le_refl _
    have hR6 := Row.of_own hown6
    clear hd34 ht4 hown34 hR34 hbw4 hw6
    go_wp2_with fail
    refine (new_any _ (n2 + len') _ w1.heap.size w6.heap.size (l ++ l') _ hR6 HA3.out (Nat.le_refl _) (by omega)).mono ?_
    rintro e w7 ⟨g, rfl, hg, hgl, hrd, hb7⟩
    have hz6 := hb6.size
    have hb07 : Below w.heap.size w w7 := hb6.trans (hb7.mono hz6)
    have hs7 := hb7.size
    have HR0 := ownRel_start (w := w) hzz1 hb07 hb7 hrd hown6
    clear hown6 hR6 hb6 hb7 hrd hb07
    have HG : Hid (w6.heap.size ≤ g) := hg
    go_wp2
    go_loopw [12] (fun i wr => OwnRel w w1.heap.size w6.heap.size g (n2 + len') A3 (l ++ l') i wr) (fun i _ => n2 + len' - (intOf i).toNat)
    case atStart => exact HR0
    case round =>
      obtain ⟨k, hk, rfl, hb, hrd, hown⟩ := hrel
      by_cases hlt : k < n2 + len'
      · obtain ⟨g9, c9, zs, rfl, h9, hw9, hown9⟩ := hown (by omega)
        clear hown
        have hzl : k < zs.length := by have := hown9.1; simp at this; omega
        have hce : wr.cell? ⟨g9, k, none⟩ = some (.int .u8 zs[k]) := by rw [hown9.cellAt k (by omega)]; simp [hzl]
        have hfr := hown9.frozenAt k
        have hst := fun z => ownRel_step z hlt HG.out hb hrd h9 hw9 hown9
        have HST := hid hst
        clear hst hown9 hrd hb
        go_wp2
        go_roundw
        case rel => exact HST.out _
        case measure => simp [intOf]; omega
      · clear hown
        have hzr := hb.size
        have HLL : Hid ((l ++ l').length = n2 + len') := hid (by rw [List.length_append, HL.out, HL'.out])
        go_wp2_with fail
        refine (bytes_at _ _ _ (l ++ l') _ _ l l' 0 (by rw [tk_bytes (by rw [HLL.out]; omega) (by rw [HLL.out]; omega), List.take_left' HL.out, List.drop_left' HL.out]) hrd).mono ?_
        rintro e w8 ⟨A8, n8, c8, rfl, hl8, hA8, hown8, hn8, hrd8, hgr8⟩
        have hb8 : Below w.heap.size w w8 := hb.grown hgr8 hzr (by intro j hj; injection hj with hj; have := HG.out; omega)
        have hz8 := hb8.size
        have hR8 := Row.of_own hown8
        clear hb hrd hgr8 hown8
        go_wp2_with fail
        refine (same_yes A8 a n8 n2 c8 cap wr.heap.size w8.heap.size 0 w.heap.size l l _ hR8 (hR.below hb8 (Nat.le_refl _)) (by omega) rfl).mono ?_
        rintro e w9 ⟨rfl, k9, hw9⟩
        have hb9 : Below w.heap.size w w9 := by rw [hw9]; exact below_drewN hb8 _
        have hrd9 : Rd w9 w6.heap.size g l' 0 := by rw [hw9]; exact hrd8
        have hz9 := hb9.size
        clear hR8 hb8 hrd8 hw9
        go_wp2_with fail
        refine (bytes_at _ _ _ l' _ _ l' [] 0 (by rw [tk_bytes (by rw [HL'.out]; omega) (by rw [HL'.out]; omega), ← HL'.out, List.take_length, List.drop_length]) hrd9).mono ?_
        rintro e w10 ⟨A10, n10, c10, rfl, hl10, hA10, hown10, hn10, hrd10, hgr10⟩
        have hb10 : Below w.heap.size w w10 := hb9.grown hgr10 hz9 (by intro j hj; injection hj with hj; have := HG.out; omega)
        have hR10 := Row.of_own hown10
        clear hb9 hrd9 hgr10 hown10 hrd10
        go_wp2_with fail
        refine (same_yes A10 a' n10 len' c10 cap' w9.heap.size w10.heap.size 0 w.heap.size l' l' _ hR10 (hR'.below hb10 (Nat.le_refl _)) (by omega) rfl).mono ?_
        rintro e w11 ⟨rfl, k11, hw11⟩
        have hb11 : Below w.heap.size w w11 := by rw [hw11]; exact below_drewN hb10 _
        clear hR10 hb10 hw11
        go_wp2
        go_ret
        exact ⟨rfl, hb11⟩
end Go.Proofs.Ytglmkbdkhcapaaa
