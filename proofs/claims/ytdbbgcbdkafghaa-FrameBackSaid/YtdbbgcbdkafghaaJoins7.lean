/-
  The kit's OwnLists and the law's joined: frames, one behind the other, and where each ends.
-/
import Derived.Test.YtdbbgcbdkafghaaScan
namespace Go.Proofs.Ytdbbgcbdkafghaa
open Go.RowKit Go.Joins Regs

theorem info_int : (Try.prog.info? 3).map (fun i => (i.zero, i.size, i.bytes)) = some (some (.int .i64 0), 1, 8) := by kernel_rfl
theorem pay_below {n₀ : Nat} {x : Pay} {W W' : World} (h : Paid n₀ x W) (hb : Below W.heap.size W W') : Paid n₀ x W' := h.kept (only_of_below hb none) (by cases (Value.slice x.A x.n x.c).ownBlock <;> simp)
theorem own_on {w w' : World} {base : Nat} {e : TypeId} {size : Nat} {v : Value} {n : Nat} {xs : List Value} (h : w.ownsRow base e size v n xs) (hb : Below w.heap.size w w') : w'.ownsRow base e size v n xs :=
  h.kept (only_of_below hb none) (by cases v.ownBlock <;> simp)
/-- Slices of bytes of one's own. -/
def ListsPost (w : World) (ls : List (List UInt8)) (e : Ending) (w' : World) : Prop :=
  ∃ xs : List Pay, ∃ v, e = .returned v ∧ Hid (xs.map (·.p) = ls) ∧ w'.ownsRow w.heap.size 22 1 v xs.length (xs.map Pay.v) ∧ Hid (∀ x ∈ xs, Paid w.heap.size x w') ∧ Below w.heap.size w w'
set_option maxHeartbeats 1000000 in
theorem ownlists_any (A : Option Addr) (n c lo up : Nat) (ls : List (List UInt8)) (vs : List Value) (w : World) (h : BL w lo up A n ls vs) (hup : up ≤ w.heap.size) (hn : n ≤ 100000) (hl : ∀ l ∈ ls, l.length ≤ 1000000) :
    Calls Try.prog 26 #[.slice A n c] w (ListsPost w ls) := by
  obtain ⟨i0, hi, hz0, hz1, hz2⟩ := info_parts info_slice
  have HB := hid h
  have HL := hid hl
  clear h hl
  go_enter Try.func26, Try.ntmps26
  go_wp2
  go_loopw [3, 4] (fun v i wr => ∃ (k : Nat) (xs : List Pay), k ≤ n ∧ i = .int .i64 (k : Int) ∧ Hid (xs.map (·.p) = ls.take k) ∧ xs.length = k ∧ wr.ownsRow w.heap.size 22 1 v k (xs.map Pay.v) ∧ Hid (∀ x ∈ xs, Paid w.heap.size x wr) ∧ Below w.heap.size w wr) (fun _ i _ => n - (intOf i).toNat)
  case atStart => exact ⟨0, [], Nat.zero_le _, rfl, hid (by simp), rfl, World.ownsRow_nil _ _ _ _, hid (fun x hx => by cases hx), Below.refl _ _⟩
  case round =>
    obtain ⟨k, xs, hk, rfl, hxs, hxl, hown, hpd, hbr⟩ := hrel
    have HO := hid hown
    have HBR := hid hbr
    have HXL := hid hxl
    clear hown hbr hxl
    by_cases hlt : k < n
    · obtain ⟨b, off, l, B, m, cc, rfl, hl, hc, hr, hnc, _, _⟩ := (HB.out.below HBR.out hup).get hlt
      have hll := HL.out l (List.mem_of_getElem? hl)
      have hlm : l.length = m := by have := hr.len; rwa [U_len] at this
      have OW := hid (own_any B m cc lo up l wr hr hnc (Nat.le_trans hup HBR.out.size) (by omega))
      have HLK := hid hl
      clear hl hr hnc hll hlm
      go_wp2_with fail
      refine OW.out.mono ?_
      rintro e w2 ⟨A2, n2, c2, rfl, hl2, hA2, hown2, hb2⟩
      have HO2 := hid (own_on HO.out hb2)
      have HP2 := hid (show Paid w.heap.size ⟨l, A2, n2, c2⟩ w2 from ⟨hl2.out, hA2.out, ownsRow_le hown2 HBR.out.size⟩)
      have HPS := hid (fun x hx => pay_below (hpd.out x hx) hb2)
      have HB2 := hid (HBR.out.trans (hb2.mono HBR.out.size))
      have hs2 : w.heap.size ≤ w2.heap.size := HB2.out.size
      have one1 : ∀ u ∈ [Value.slice A2 n2 c2], u.oneCell' = true := by intro u hu; simp at hu; subst hu; rfl
      clear hown2 hb2 OW
      go_wp2_with (at_builtin; go_loud (refine wpList_append_row _ rfl _ _ 26 rfl w.heap.size 22 i0 (.slice none 0 0) 24 Try.underlying26 hi hz0 hz1 hz2 rfl _ k _ rfl (HO2.out.alloc _) w2.heap.size (w2.heap.size + 1) (some ⟨w2.heap.size, 0, none⟩) 1 1 rfl (fun e => by cases e) [.slice A2 n2 c2] (row_one w2 _ _) one1 (by unfold maxLen; omega) (by omega) (by simp; omega) ?_); intro v' w3 own3 grow3 at3)
      have g3 : Below w.heap.size w w3 := (HB2.out.alloc hs2 _).grown grow3 (by simp; omega) (fun g hg => (HO2.out.lt g hg).1)
      refine ⟨⟨k + 1, xs ++ [⟨l, A2, n2, c2⟩], by omega, by go_num, hid ?_, by simp [HXL.out], by rw [List.map_append]; exact own3, hid (fun x hx => ?_), g3⟩, by simp [intOf]; omega⟩
      · rw [List.map_append, hxs.out, List.take_add_one, HLK.out]
        rfl
      · rcases List.mem_append.1 hx with hx | hx
        · exact (HPS.out x hx).appended HO2.out (by decide) grow3
        · rw [List.mem_singleton] at hx
          subst hx
          exact HP2.out.appended HO2.out (by decide) grow3
    · obtain rfl : k = n := by omega
      go_wp2
      go_ret
      exact ⟨xs, _, rfl, hid (by rw [hxs.out, List.take_of_length_le (by rw [HB.out.len]; exact Nat.le_refl _)]), by rw [HXL.out]; exact HO.out, hpd, HBR.out⟩
/-- Where each frame ends. -/
def endsOf (ls : List (List UInt8)) (k : Nat) : List Int := (List.range k).map fun i => ((flat (ls.take (i + 1))).length : Int)
theorem endsOf_succ (ls : List (List UInt8)) (k : Nat) : endsOf ls (k + 1) = endsOf ls k ++ [((flat (ls.take (k + 1))).length : Int)] := by simp [endsOf, List.range_succ]
theorem endsOf_len (ls : List (List UInt8)) (k : Nat) : (endsOf ls k).length = k := by simp [endsOf]
theorem take_next {α : Type} {l : List α} {k : Nat} {x : α} (h : l[k]? = some x) : l.take (k + 1) = l.take k ++ [x] := by rw [List.take_add_one, h]; rfl
theorem flat_next {ls : List (List UInt8)} {k : Nat} {l : List UInt8} (h : ls[k]? = some l) : flat (ls.take (k + 1)) = flat (ls.take k) ++ frm l := by rw [take_next h, flat_snoc]
theorem flat_short {ls : List (List UInt8)} {b : Nat} (h : ∀ l ∈ ls, l.length ≤ b) (k : Nat) : (flat (ls.take k)).length ≤ k * (b + 8) := by
  induction k with
  | zero => simp [flat]
  | succ k ih =>
    cases hx : ls[k]? with
    | none => rw [List.take_add_one, hx]; simp only [Option.toList, List.append_nil]; have := Nat.add_mul k 1 (b + 8); omega
    | some l =>
      rw [flat_next hx, List.length_append, frm_len]
      have := h l (List.mem_of_getElem? hx)
      have := Nat.add_mul k 1 (b + 8)
      omega
/-- What joined tells: the frames in memory of their own, and their ends. -/
def JoinPost (w : World) (ls : List (List UInt8)) (e : Ending) (w' : World) : Prop :=
  ∃ A n c B d, e = .returned (.tuple #[.slice A n c, .slice B ls.length d, .bool true]) ∧ Hid ((flat ls).length = n) ∧ Hid (A = none → c = 0) ∧ w'.ownsRow w.heap.size 5 1 (.slice A n c) n (U (flat ls)) ∧
    w'.ownsRow w.heap.size 3 1 (.slice B ls.length d) ls.length (I (endsOf ls ls.length)) ∧ Below w.heap.size w w'
theorem I_one (l : List Int) : ∀ u ∈ I l, u.oneCell' = true := by
  intro u hu
  simp only [I, List.mem_map] at hu
  obtain ⟨c, _, rfl⟩ := hu
  rfl
set_option maxHeartbeats 2000000 in
set_option maxRecDepth 20000 in
theorem joined_any (A : Option Addr) (n c lo up : Nat) (ls : List (List UInt8)) (vs : List Value) (w : World) (h : BL w lo up A n ls vs) (hup : up ≤ w.heap.size) (hn : n ≤ 60) (hl : ∀ l ∈ ls, l.length ≤ 400) :
    Calls Try.prog 24 #[.slice A n c] w (JoinPost w ls) := by
  obtain ⟨i0, hi, hz0, hz1, hz2⟩ := info_parts info5
  obtain ⟨i1, hi1, hz10, hz11, hz12⟩ := info_parts info_int
  have HB := hid h
  have HL := hid hl
  clear h hl
  go_enter Try.func24, Try.ntmps24
  go_wp2
  go_loopw [5, 6, 7] (fun v u i wr => ∃ (k z : Nat), k ≤ n ∧ i = .int .i64 (k : Int) ∧ Hid (z = (flat (ls.take k)).length) ∧ Hid (wr.ownsRow w.heap.size 5 1 v z (U (flat (ls.take k)))) ∧ Hid (wr.ownsRow w.heap.size 3 1 u k (I (endsOf ls k))) ∧ Hid (Below w.heap.size w wr)) (fun _ _ i _ => n - (intOf i).toNat)
  case atStart => exact ⟨0, 0, Nat.zero_le _, rfl, hid (by simp [flat]), hid (World.ownsRow_nil _ _ _ _), hid (World.ownsRow_nil _ _ _ _), hid (Below.refl _ _)⟩
  case round =>
    obtain ⟨k, z, hk, rfl, HZ, HO, HE, HBR⟩ := hrel
    by_cases hlt : k < n
    · obtain ⟨b, off, l, B, m, cc, rfl, hl, hc, hr, hnc, _, _⟩ := (HB.out.below HBR.out hup).get hlt
      have hll := HL.out l (List.mem_of_getElem? hl)
      have hlm : l.length = m := by have := hr.len; rwa [U_len] at this
      have BY := hid (bytes7_any B m cc lo up l wr hr hnc (Nat.le_trans hup HBR.out.size) (by omega))
      have hm4 : m ≤ 400 := by omega
      have HLK := hid hl
      have hfs : fsize (m : Int) = 8 + (m : Int) := by unfold fsize; rw [if_neg (by omega)]
      have SZ : Hid (∀ W', Calls Try.prog 13 #[.int .i64 (m : Int)] W' fun e w' => e = .returned (.int .i64 (8 + (m : Int))) ∧ w' = W') := hid fun W' => by have := size_any (m : Int) W'; rwa [hfs] at this
      have HLM := hid hlm
      have HCC : Hid (∀ W, Below wr.heap.size wr W → W.cell? ⟨b, off + k, none⟩ = some (.slice B m cc)) := hid fun W hW => by
        obtain ⟨x1, x2, _, e1, _, x3, _, _⟩ := HB.out.row.at_ hlt
        simp only [Option.some.injEq, Addr.mk.injEq] at e1
        exact (hW.cell (p := ⟨b, off + k, none⟩) (by show b < _; have := HBR.out.size; omega)).trans hc
      have hzb : z ≤ 60 * 408 := by have := flat_short HL.out k; have := HZ.out; omega
      clear hl hr hnc hll hlm hfs
      go_wp2_with fail
      refine BY.out.mono ?_
      rintro e w2 ⟨A2, n2, c2, rfl, hl2, hA2, hown2, hb2⟩
      have hn2 : n2 = m + 8 := by have := hl2.out; rw [frm_len, HLM.out] at this; exact this.symm
      subst hn2
      have HO2 := hid (own_on HO.out hb2)
      have HE2 := hid (own_on HE.out hb2)
      have HF2 := hid (Row.of_own hown2)
      have HB2 := hid (HBR.out.trans (hb2.mono HBR.out.size))
      have hs2 : w.heap.size ≤ w2.heap.size := HB2.out.size
      have hc2 := HCC.out w2 hb2
      have hne : (((m : Int) + 8) != (8 + (m : Int))) = false := by simp; omega
      clear hown2 hb2 BY hc
      go_wp2_with fail
      refine (SZ.out _).mono ?_
      rintro e w3 ⟨rfl, rfl⟩
      have hap : (Value.slice A2 (m + 8) c2).oneCell' = true := rfl
      go_wp2_with (at_builtin; go_loud (first
        | (refine wpList_append_row _ rfl _ _ 22 rfl w.heap.size 5 i0 (.int .u8 0) 1 Try.underlying22 hi hz0 hz1 hz2 rfl _ z _ rfl HO2.out _ _ A2 (m + 8) c2 rfl hA2.out (U (frm l)) HF2.out (U_one _) (by unfold maxLen; omega) (by omega) hs2 ?_; intro v4 w4 own4 grow4 at4; obtain ⟨A4, c4, rfl, hA4, _⟩ := own_shape own4)
        | (refine wpList_append_row _ rfl _ _ 40 rfl w.heap.size 3 i1 (.int .i64 0) 8 Try.underlying40 hi1 hz10 hz11 hz12 rfl _ k _ rfl ((HE2.out.kept grow4 (own_apart (by decide) HE2.out HO2.out)).alloc _) w4.heap.size (w4.heap.size + 1) (some ⟨w4.heap.size, 0, none⟩) 1 1 rfl (fun e => by cases e) [.int .i64 ((z + (m + 8) : Nat) : Int)] (row_one w4 _ _) (by intro u hu; simp at hu; subst hu; rfl) (by unfold maxLen; omega) (by omega) (by have := grow4.size; simp at this ⊢; omega) ?_; intro v5 w5 own5 grow5 at5)))
      have hE4 := HE2.out.kept grow4 (own_apart (by decide) HE2.out HO2.out)
      have hB4 := HB2.out.grown grow4 hs2 (fun g hg => (HO2.out.lt g hg).1)
      have hB5 := (hB4.alloc (Nat.le_trans hs2 grow4.size) _).grown grow5 (by have := grow4.size; simp; omega) (fun g hg => (hE4.lt g hg).1)
      have own4' := (own4.alloc _).kept grow5 (own_apart (by decide) (own4.alloc _) (hE4.alloc (.cells #[Value.int IntKind.i64 ((z : Int) + ((m : Int) + 8))] 3)))
      have hnx := flat_next HLK.out
      have hzz : z + (m + 8) = (flat (ls.take (k + 1))).length := by rw [hnx, List.length_append, frm_len, HLM.out, HZ.out]
      refine ⟨⟨k + 1, z + (m + 8), by omega, by go_num, hid hzz, hid ?_, hid ?_, hid hB5⟩, by simp [intOf]; omega⟩
      · rw [hnx, U_append]
        exact own4'
      · rw [endsOf_succ, ← hzz]
        unfold I
        rw [List.map_append]
        exact own5
    · obtain rfl : k = n := by omega
      have hkl : ls.length = k := HB.out.len
      obtain ⟨A4, c4, rfl, hA4, _⟩ := own_shape HO.out
      obtain ⟨A5, c5, rfl, hA5, _⟩ := own_shape HE.out
      have HA4 := hid hA4
      clear hA4 hA5
      go_wp2
      go_ret3
      have ht : ls.take k = ls := List.take_of_length_le (by omega)
      have hz := HZ.out
      have ho := HO.out
      have he := HE.out
      rw [ht] at hz ho
      refine ⟨A4, z, c4, A5, c5, by rw [hkl]; rfl, hid hz.symm, HA4, ho, by rw [hkl]; exact he, HBR.out⟩
end Go.Proofs.Ytdbbgcbdkafghaa
