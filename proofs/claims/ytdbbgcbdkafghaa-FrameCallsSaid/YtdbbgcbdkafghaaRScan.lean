/-
  Contracts of the document's Scan and All.
-/
import Derived.Test.YtdbbgcbdkafghaaROne
namespace Go.Proofs.Ytdbbgcbdkafghaa
open Go.RowKit Go.Joins Regs

set_option maxHeartbeats 2000000 in
set_option maxRecDepth 20000 in
theorem rscan_any (A : Option Addr) (n c lo up : Nat) (b : List UInt8) (w : World) (hR : Row w lo up A n (U b)) (hA : A = none → c = 0) (hup : up ≤ w.heap.size) (hc : n ≤ c ∧ c ≤ maxLen) (hn : n ≤ 300000) :
    Calls Try.prog 18 #[.slice A n c] w (ScanPost w b) := by
  obtain ⟨i0, hi, hz0, hz1, hz2⟩ := info_parts info_slice
  have hbl : b.length = n := by have := hR.len; rwa [U_len] at this
  have hcm : c ≤ 9223372036854775807 := by have := hc.2; unfold maxLen at this; exact this
  have HR := hid hR
  have HA := hid hA
  have HBL := hid hbl
  clear hR hA hbl
  go_enter Try.func18, Try.ntmps18
  go_wp2
  go_loopw [4, 5] (fun v i wr => ∃ (z : Nat) (xs : List Pay), z ≤ n ∧ i = .int .i64 (z : Int) ∧ Hid (b = flat (xs.map (·.p)) ++ b.drop z) ∧ Hid ((flat (xs.map (·.p))).length = z) ∧ Hid (∀ x ∈ xs, x.p.length ≤ 33554432) ∧ Hid (wr.ownsRow w.heap.size 22 1 v xs.length (xs.map Pay.v)) ∧ Hid (∀ x ∈ xs, Paid w.heap.size x wr) ∧ Hid (Below w.heap.size w wr)) (fun _ i _ => n - (intOf i).toNat)
  case atStart => exact ⟨0, [], Nat.zero_le _, rfl, hid (by simp [flat]), hid (by simp [flat]), hid (fun x hx => by cases hx), hid (World.ownsRow_nil _ _ _ _), hid (fun x hx => by cases hx), hid (Below.refl _ _)⟩
  case round =>
    obtain ⟨z, xs, hz, rfl, HB, HL, HP, HO, HPD, HBR⟩ := hrel
    have hd := HR.out.drop (k := z) (cap := c) hz hc.1
    rw [U_drop] at hd
    obtain ⟨rest, hrest⟩ : ∃ rest, rest = b.drop z := ⟨_, rfl⟩
    have HREST := hid hrest
    rw [← hrest] at hd
    have HD := hid hd
    have hb := HB.out
    rw [← hrest] at hb
    have HB2 := hid hb
    clear hd hb hrest HB
    have hmany : 8 * xs.length ≤ z := by have := flat_many (xs.map (·.p)); rw [List.length_map, HL.out] at this; exact this
    have hsz : w.heap.size ≤ wr.heap.size := HBR.out.size
    have HD2 : Hid (Row wr lo up (if c = z then A else A.map (·.add z)) (n - z) (U rest)) := hid (HD.out.below HBR.out hup)
    have hA2 : (if c = z then A else A.map (·.add z)) = none → c - z = 0 := fun e => by
      split at e
      · omega
      · cases A with
        | none => have := HA.out rfl; omega
        | some a => cases e
    have O1 := hid (rone_any (if c = z then A else A.map (·.add z)) (n - z) (c - z) lo up rest wr HD2.out hA2 (by omega) (by omega) ⟨by omega, by have := hc.2; omega⟩)
    clear hA2
    by_cases h0 : (one rest).1 = 0
    · obtain ⟨p, k, hone⟩ := one_zero h0
      clear h0
      obtain ⟨hp1, hk, hbs, hkl⟩ := one_ok hone
      have hrl : rest.length = n - z := by have := HD.out.len; rwa [U_len] at this
      rw [hone] at O1
      have hk2 : z + k ≤ n := by omega
      have hk8 : 8 ≤ k := by omega
      have HBS := hid hbs
      have HP1 := hid hp1
      have HKE := hid hk
      clear hone hbs hp1 hk hkl hrl
      rcases Nat.lt_or_ge z c with hzc | hzc
      case inr => omega
      have hzc2 : ¬ c = z := by omega
      rw [if_neg hzc2] at O1
      have hcz : ((c : Int) == (z : Int)) = false := by simp; omega
      go_wp2_with fail
      refine O1.out.mono ?_
      rintro e w2 ⟨A2, n2, c2, rfl, hl2, hA2, hown2, hb2⟩
      have HO2 := hid (own_on HO.out hb2)
      have HP2 := hid (show Paid w.heap.size ⟨p, A2, n2, c2⟩ w2 from ⟨hl2.out, hA2.out, ownsRow_le hown2 hsz⟩)
      have HPS := hid (fun x hx => pay_below (HPD.out x hx) hb2)
      have HB3 := hid (HBR.out.trans (hb2.mono hsz))
      have hs2 : w.heap.size ≤ w2.heap.size := HB3.out.size
      have one1 : ∀ u ∈ [Value.slice A2 n2 c2], u.oneCell' = true := by intro u hu; simp at hu; subst hu; rfl
      clear hown2 hb2 O1
      go_wp2_with (at_builtin; go_loud (refine wpList_append_row _ rfl _ _ 26 rfl w.heap.size 22 i0 (.slice none 0 0) 24 Try.underlying26 hi hz0 hz1 hz2 rfl _ xs.length _ rfl (HO2.out.alloc _) w2.heap.size (w2.heap.size + 1) (some ⟨w2.heap.size, 0, none⟩) 1 1 rfl (fun e => by cases e) [.slice A2 n2 c2] (row_one w2 _ _) one1 (by unfold maxLen; omega) (by omega) (by simp; omega) ?_); intro v' w3 own3 grow3 at3)
      have g3 : Below w.heap.size w w3 := (HB3.out.alloc hs2 _).grown grow3 (by simp; omega) (fun g hg => (HO2.out.lt g hg).1)
      refine ⟨⟨z + k, xs ++ [⟨p, A2, n2, c2⟩], hk2, by first | rfl | go_num, hid ?_, hid ?_, hid (fun x hx => ?_), hid ?_, hid (fun x hx => ?_), hid g3⟩, by simp [intOf]; omega⟩
      · rw [List.map_append, List.map_cons, List.map_nil, flat_snoc, List.append_assoc, ← List.drop_drop, ← HREST.out, ← HBS.out]
        exact HB2.out
      · rw [List.map_append, List.map_cons, List.map_nil, flat_len_snoc, HL.out, HKE.out]
        show z + (p.length + 8) = z + (8 + p.length)
        omega
      · rcases List.mem_append.1 hx with hx | hx
        · exact HP.out x hx
        · rw [List.mem_singleton] at hx
          subst hx
          exact HP1.out
      · rw [List.map_append, List.length_append]
        exact own3
      · rcases List.mem_append.1 hx with hx | hx
        · exact (HPS.out x hx).appended HO2.out (by decide) grow3
        · rw [List.mem_singleton] at hx
          subst hx
          exact HP2.out.appended HO2.out (by decide) grow3
    · obtain ⟨q, hq⟩ : ∃ q, q = (one rest).1 := ⟨_, rfl⟩
      have hr2 := one_code rest h0
      have hone : one rest = (q, [], 0) := by rw [hq, ← hr2]
      rw [hone] at O1
      have HSTOP := hid h0
      rw [← hq] at h0
      clear hone hr2 hq
      have hqb : (q != 0) = true := by simpa using h0
      have HSC : Hid (Scans b (xs.map (·.p)) rest) := hid ⟨HB2.out, fun x hx => by obtain ⟨y, hy, rfl⟩ := List.mem_map.1 hx; exact HP.out y hy, HSTOP.out⟩
      rcases Nat.lt_or_ge z c with hzc | hzc
      case' inl =>
        have hzc2 : ¬ c = z := by omega
        have hcz : ((c : Int) == (z : Int)) = false := by simp; omega
        rw [if_neg hzc2] at O1
      case' inr =>
        obtain rfl : c = z := by omega
        obtain rfl : c = n := by omega
        rw [if_pos rfl, Nat.sub_self] at O1
      all_goals
        go_wp2_with fail
        refine O1.out.mono ?_
        rintro e w2 ⟨A2, n2, c2, rfl, _, _, _, hb2⟩
        obtain ⟨A', c', rfl, hA', h1', h2', hbl⟩ := bl_of_paid (own_on HO.out hb2) (fun x hx => pay_below (HPD.out x hx) hb2)
        have HBE := hid (HBR.out.trans (hb2.mono hsz))
        have HBL2 := hid hbl
        have HA' := hid hA'
        clear hbl hA' hb2
        go_wp2
        go_ret2
        exact ⟨xs.map (·.p), rest, A', xs.length, c', xs.map Pay.v, by rw [HL.out]; rfl, HSC, HBL2, HA', h1', h2', HBE.out⟩
set_option maxHeartbeats 1000000 in
theorem rall_any (A : Option Addr) (n c lo up : Nat) (b : List UInt8) (w : World) (hR : Row w lo up A n (U b)) (hA : A = none → c = 0) (hup : up ≤ w.heap.size) (hc : n ≤ c ∧ c ≤ maxLen) (hn : n ≤ 300000) :
    Calls Try.prog 19 #[.slice A n c] w (AllPost w b) := by
  have hbl : b.length = n := by have := hR.len; rwa [U_len] at this
  have S1 := hid (rscan_any A n c lo up b w hR hA hup hc hn)
  clear hR hA
  go_enter Try.func19, Try.ntmps19
  go_wp2_with fail
  refine S1.out.mono ?_
  rintro e w1 ⟨ps, r, A1, n1, c1, vs, rfl, hS, hB, hA1, hc1, hc2, hb1⟩
  have hl : b.length = (flat ps).length + r.length := by have := congrArg List.length hS.out.bytes; rwa [List.length_append] at this
  obtain ⟨z, hz⟩ : ∃ z, z = (flat ps).length := ⟨_, rfl⟩
  rw [← hz] at hl ⊢
  clear hz
  have HB1 := hid hb1
  clear hb1
  by_cases hr : r = []
  · have hzn : z = n := by rw [hr] at hl; simp at hl; omega
    have HRR := hid hr
    clear hr hl
    have hlt : ((z : Int) != (n : Int)) = false := by simp; omega
    have HZ := hid hzn
    clear hzn
    go_wp2
    go_ret2
    exact ⟨ps, r, A1, n1, c1, vs, 0, hS, rfl, hA1, hc1, hc2, HB1.out, .inl ⟨HRR, rfl, hB⟩⟩
  · have hlt : ((z : Int) != (n : Int)) = true := by have := List.length_pos_iff.2 hr; simp; omega
    have HRR := hid hr
    clear hr hl
    go_wp2
    go_ret2
    exact ⟨ps, r, none, 0, 0, [], 4, hS, rfl, hid (fun _ => rfl), Nat.le_refl _, Nat.zero_le _, HB1.out, .inr ⟨HRR, rfl, rfl, rfl, hid (bl_nil _ _ _)⟩⟩
end Go.Proofs.Ytdbbgcbdkafghaa
