/-
  The contract of vec.Read, whatever bytes come in.
-/
import Derived.Test.YtcaleaecjoafhaaBytes
import Derived.Test.YtcaleaecjoafhaaReader
namespace Go.Proofs.Ytcaleaecjoafhaa
open Go.RowKit

set_option maxHeartbeats 800000 in
theorem through16g (fn : Nat) (cap : Array Value) (A : Option Addr) (n c : Nat) (w : World) (J : Nat → World → Prop) (S : World → Prop)
    (hent : ∀ args W, (callFunc fn args).run Try.prog W = .ok (.enter fn args) W) (hm : n ≤ 9223372036854775807)
    (hstep : ∀ k wr, k < n → J k wr → ∃ b off x, A = some ⟨b, off, none⟩ ∧ wr.cell? ⟨b, off + k, none⟩ = some (.int .i16 x) ∧
      Calls Try.prog fn (#[.int .i64 k, .int .i16 x] ++ cap) wr fun e w' => (e = .returned (.bool true) ∧ J (k + 1) w') ∨ (e = .returned (.bool false) ∧ S w'))
    (h0 : J 0 w) :
    Calls Try.prog 44 #[.slice A n c, .func (.func fn) #[] cap] w fun e w' => (e = .returned (.bool true) ∧ J n w') ∨ (e = .returned (.bool false) ∧ S w') := by
  have HS := hid hstep
  clear hstep
  go_enter Try.func44, Try.ntmps44
  go_wp2
  go_loopw [9] (fun i wr => ∃ k : Nat, k ≤ n ∧ i = .int .i64 k ∧ J k wr) (fun i _ => n - (intOf i).toNat)
  case atStart => exact ⟨0, Nat.zero_le _, rfl, h0⟩
  case round =>
    obtain ⟨k, hk, rfl, hJ⟩ := hrel
    by_cases hlt : k < n
    · obtain ⟨b, off, x, rfl, hc, HC⟩ := HS.out k wr hlt hJ
      have HC' := hid HC
      clear HC
      go_wp2_with fail
      refine HC'.out.mono ?_
      rintro e w1 (⟨rfl, h1⟩ | ⟨rfl, h1⟩)
      · go_wp2
        go_roundw
        case rel => exact ⟨k + 1, by omega, by go_num, h1⟩
        case measure => simp [intOf]; omega
      · go_wp2
        go_ret
        exact .inr ⟨rfl, h1⟩
    · obtain rfl : k = n := by omega
      go_wp2
      go_ret
      exact .inl ⟨rfl, hJ⟩

/-- The numbers of which l are the bytes. -/
def rds : List UInt8 → List Int
  | a :: b :: l => sgn (num [a, b]) 2 :: rds l
  | _ => []
theorem rds_len : ∀ l : List UInt8, (rds l).length = l.length / 2
  | [] => rfl
  | [_] => by simp [rds]
  | a :: b :: l => by simp only [rds, List.length_cons, rds_len l]; omega
theorem rds_get : ∀ (l : List UInt8) (k : Nat) (h : k < (rds l).length), (rds l)[k] = sgn (num ((l.drop (2 * k)).take 2)) 2
  | [], k, h => by simp [rds] at h
  | [_], k, h => by simp [rds] at h
  | a :: b :: l, 0, h => by simp [rds]
  | a :: b :: l, k + 1, h => by
    have := rds_get l k (by simpa [rds] using h)
    simp only [rds, List.getElem_cons_succ, this, show 2 * (k + 1) = 2 * k + 1 + 1 by omega, List.drop_succ_cons]
theorem sgn_two (x : Int) : -32768 ≤ sgn x 2 ∧ sgn x 2 ≤ 32767 := by
  unfold sgn
  rw [if_neg (by omega), if_neg (by omega)]
  simp only [show (256 : Int) ^ (2 : Int).toNat = 65536 by decide]
  split <;> omega
theorem rds_in (l : List UInt8) : ∀ x ∈ rds l, -32768 ≤ x ∧ x ≤ 32767 := by
  intro x hx
  obtain ⟨k, hk, rfl⟩ := List.getElem_of_mem hx
  rw [rds_get l k hk]
  exact sgn_two _
def rdE (l : List UInt8) : Int := if 2048 < l.length then 3 else if l.length % 2 = 1 then 4 else 0
def rdV (l : List UInt8) : List Int := if rdE l = 0 then rds l else []
theorem tk_two {l : List UInt8} (h : 2 ≤ l.length) : tk l 0 2 8 = (l.take 2, l.drop 2, 0) := by
  have hw : why 2 8 l.length = 0 := by unfold why; rw [if_neg (by omega), if_neg (by omega)]
  unfold tk
  rw [if_neg (by omega), if_pos hw]
  rfl

theorem i16_fits {x : Int} (h1 : -32768 ≤ x) (h2 : x ≤ 32767) : IntKind.i16.wrap x = x := by
  simp [IntKind.wrap, IntKind.bits, IntKind.signed]
  omega
set_option maxHeartbeats 1600000 in
theorem readStep (g gr gv h0 lo base n k : Nat) (y : Int) (l : List UInt8) (cs : Array Value) (w : World)
    (k1 : Blk w gr 60 #[.pointer (some ⟨g, 0, none⟩)]) (k2 : Blk w gv 30 #[.slice (some ⟨h0, 0, none⟩) n n]) (k3 : Blk w h0 22 cs) (hcs : cs.size = n) (hk : k < n) (hl : 2 ≤ l.length)
    (hr : Rd w lo g l 0) (d1 : gr ≠ g) (d2 : gv ≠ g) (d3 : h0 ≠ g) (d4 : h0 ≠ gr) (d5 : h0 ≠ gv) (d6 : h0 < lo) (d7 : base ≤ h0) (d8 : base ≤ g) (d9 : base ≤ w.heap.size) :
    Calls Try.prog 45 #[.int .i64 k, .int .i16 y, .pointer (some ⟨gr, 0, none⟩), .pointer (some ⟨gv, 0, none⟩)] w fun e w' => e = .returned (.bool true) ∧
      Blk w' gr 60 #[.pointer (some ⟨g, 0, none⟩)] ∧ Blk w' gv 30 #[.slice (some ⟨h0, 0, none⟩) n n] ∧ Blk w' h0 22 (cs.setIfInBounds k (.int .i16 (sgn (num (l.take 2)) 2))) ∧ Rd w' lo g (l.drop 2) 0 ∧ Below base w w' := by
  obtain ⟨x, hx⟩ : ∃ x, sgn (num (l.take 2)) 2 = x := ⟨_, rfl⟩
  obtain ⟨x1, x2⟩ := sgn_two (num (l.take 2))
  rw [hx] at x1 x2 ⊢
  have HX := hid hx
  have HT := hid (tk_two hl)
  have c1 : w.cell? ⟨gr, 0, none⟩ = some (.pointer (some ⟨g, 0, none⟩)) := k1.cell 0
  have c2 : w.cell? ⟨gv, 0, none⟩ = some (.slice (some ⟨h0, 0, none⟩) n n) := k2.cell 0
  have l1 := k1.lt
  have l2 := k2.lt
  have l3 := k3.lt
  have i1 : (0 : Int) ≤ (k : Int) := by omega
  have i2 : (k : Int) < (n : Int) := by omega
  clear hx hl
  have ne1 : some gr ≠ some g := by intro h; injection h with h; exact d1 h
  have ne2 : some gv ≠ some g := by intro h; injection h with h; exact d2 h
  have ne3 : some h0 ≠ some g := by intro h; injection h with h; exact d3 h
  go_enter Try.func45, Try.ntmps45
  go_wp2
  go_region_held3 (fun w' => w'.cell? ⟨gr, 0, none⟩ = some (.pointer (some ⟨g, 0, none⟩)) ∧ w'.cell? ⟨gv, 0, none⟩ = some (.slice (some ⟨h0, 0, none⟩) n n))
    (first | exact ⟨c1, c2⟩ | exact ⟨k1'.cell 0, k2'.cell 0⟩ | exact ⟨(k1'.far (by exact d4.symm) _).cell 0, (k2'.far (by exact d5.symm) _).cell 0⟩)
    (first
      | (go_at_call 46; refine (signed_at _ lo g l 0 2 (l.take 2) (l.drop 2) 0 x HT.out HX.out (by exact hr)).mono ?_; rintro e w5 ⟨rfl, hr5, hgr5, hsz5⟩; have k1' := Blk.grown (w := w.drew) k1 hgr5 ne1; have k2' := Blk.grown (w := w.drew) k2 hgr5 ne2; have k3' := Blk.grown (w := w.drew) k3 hgr5 ne3; have hf5 := k3'.frozen k; have hc5 : w5.cell? ⟨h0, k, none⟩ = some cs[k] := (k3'.cell k).trans (Array.getElem?_eq_getElem (by omega))))
  rw [i16_fits x1 x2]
  have r1 := k1'.far (p := ⟨h0, k, none⟩) (by exact d4.symm) (.int .i16 x)
  have r2 := k2'.far (p := ⟨h0, k, none⟩) (by exact d5.symm) (.int .i16 x)
  have r3 := k3'.set k (.int .i16 x)
  have r4 : Rd (w5.setCell ⟨h0, k, none⟩ (.int .i16 x)) lo g (l.drop 2) 0 := hr5.grown (only_store w5 h0 k (.int .i16 x)) d3 (.inl d6)
  have r5 : Below base w (w5.setCell ⟨h0, k, none⟩ (.int .i16 x)) := ((Below.refl base w).grown (only_undrew hgr5) d9 (by intro j hj; injection hj with hj; omega)).setCell d7 _
  clear k1' k2' k3' hr5 hgr5 hc5 hf5
  generalize w5.setCell ⟨h0, k, none⟩ (.int .i16 x) = w6 at *
  go_wp2
  go_ret
  exact ⟨rfl, r1, r2, r3, r4, r5⟩
theorem rds_take (l : List UInt8) (k : Nat) (h : k < (rds l).length) : (rds l).take (k + 1) = (rds l).take k ++ [sgn (num ((l.drop (2 * k)).take 2)) 2] := by
  rw [List.take_succ_eq_append_getElem h, rds_get l k h]

set_option maxHeartbeats 1600000 in
theorem read_any (A : Option Addr) (n c lo up : Nat) (l : List UInt8) (w : World) (hR : Row w lo up A n (U l)) (hA : A = none → c = 0) (hup : up ≤ w.heap.size) (hn : n ≤ 9223372036854775807) :
    Calls Try.prog 12 #[.slice A n c] w (Owns .i16 22 w (rdV l) (rdE l)) := by
  have hl := hR.len
  rw [U_len] at hl
  have HL := hid hl
  have HA := hid hA
  clear hA
  by_cases h1 : 2048 < n
  · have HE : Hid (rdE l = 3) := hid (by unfold rdE; rw [if_pos (by omega)])
    have HV : Hid (rdV l = []) := hid (by unfold rdV; rw [if_neg (by rw [HE.out]; decide)])
    clear hl
    go_enter Try.func12, Try.ntmps12
    go_wp2
    go_ret2
    rw [HE.out, HV.out]
    exact ⟨none, 0, 0, rfl, hid rfl, hid (fun _ => rfl), World.ownsRow_nil _ _ _ _, Below.refl _ _⟩
  have h1' : n ≤ 2048 := by omega
  clear h1
  by_cases h2 : n % 2 = 1
  · have HE : Hid (rdE l = 4) := hid (by unfold rdE; rw [if_neg (by omega), if_pos (by omega)])
    have HV : Hid (rdV l = []) := hid (by unfold rdV; rw [if_neg (by rw [HE.out]; decide)])
    have q1 : ((n : Int) % 2 != 0) = true := by simp; omega
    clear hl h2
    go_enter Try.func12, Try.ntmps12
    go_wp2
    go_ret2
    rw [HE.out, HV.out]
    exact ⟨none, 0, 0, rfl, hid rfl, hid (fun _ => rfl), World.ownsRow_nil _ _ _ _, Below.refl _ _⟩
  obtain ⟨m, hm⟩ : ∃ m : Nat, n = 2 * m := ⟨n / 2, by omega⟩
  have HE : Hid (rdE l = 0) := hid (by unfold rdE; rw [if_neg (by omega), if_neg (by omega)])
  have HV : Hid (rdV l = rds l) := hid (by unfold rdV; rw [if_pos HE.out])
  have HRL : Hid ((rds l).length = m) := hid (by rw [rds_len]; omega)
  have q1 : ((n : Int) % 2 != 0) = false := by simp; omega
  have q2 : (n : Int) / 2 = (m : Int) := by omega
  have hm1 : m ≤ 1024 := by omega
  have hqm := fun W => make_row .i16 30 22 2 m W Try.underlying30 info16 (by omega) (by omega)
  obtain ⟨w2, hw2⟩ : ∃ w2, w2 = (w.alloc (.cells (IK .i16 (List.replicate m 0)).toArray 22)).alloc (.cells #[.slice (some ⟨w.heap.size, 0, none⟩) m m] 30) := ⟨_, rfl⟩
  have hs2 : w2.heap.size = w.heap.size + 2 := by rw [hw2]; simp
  have hb2 : Below w.heap.size w w2 := by rw [hw2]; exact ((Below.refl _ _).alloc (Nat.le_refl _) _).alloc (by simp) _
  have b1 : Blk w2 w.heap.size 22 (IK .i16 (List.replicate m 0)).toArray := by rw [hw2]; exact (Blk.new _ _ _).alloc _
  have b2 : Blk w2 (w.heap.size + 1) 30 #[.slice (some ⟨w.heap.size, 0, none⟩) m m] := by
    have := Blk.new (w.alloc (.cells (IK .i16 (List.replicate m 0)).toArray 22)) 30 #[.slice (some ⟨w.heap.size, 0, none⟩) m m]
    rw [hw2]
    simpa using this
  have HN := hid (new_any A n c lo up l w2 (hR.below hb2 hup) HA.out (by omega) (by omega))
  rw [hw2] at HN
  have HM := hid hm
  clear hl h2 hm
  go_enter Try.func12, Try.ntmps12
  go_wp2_with fail
  refine HN.out.mono ?_
  rw [← hw2]
  rintro e w3 ⟨g, rfl, hg1, hg2, hrd, hb3⟩
  have b1' := b1.below hb3 (by omega)
  have b2' := b2.below hb3 (by omega)
  have hb3' : Below w.heap.size w w3 := hb2.trans (hb3.mono (by omega))
  have hs3 := hb3'.size
  have hc2 : (w3.alloc (.cells #[.pointer (some ⟨g, 0, none⟩)] 60)).cell? ⟨w.heap.size + 1, 0, none⟩ = some (.slice (some ⟨w.heap.size, 0, none⟩) m m) := (b2'.alloc _).cell 0
  have HT := hid (through16g 45 #[.pointer (some ⟨w3.heap.size, 0, none⟩), .pointer (some ⟨w.heap.size + 1, 0, none⟩)] (some ⟨w.heap.size, 0, none⟩) m m (w3.alloc (.cells #[.pointer (some ⟨g, 0, none⟩)] 60))
    (fun k wr => Blk wr w3.heap.size 60 #[.pointer (some ⟨g, 0, none⟩)] ∧ Blk wr (w.heap.size + 1) 30 #[.slice (some ⟨w.heap.size, 0, none⟩) m m] ∧ Blk wr w.heap.size 22 (IK .i16 ((rds l).take k ++ List.replicate (m - k) 0)).toArray ∧ Rd wr w2.heap.size g (l.drop (2 * k)) 0 ∧ Below w.heap.size w wr)
    (fun _ => False) (enters_of Try.func45 (by kernel_rfl) rfl) (by omega)
    (by
      rintro k wr hk ⟨k1, k2, k3, k4, k5⟩
      have hlk : ((rds l).take k).length = k := by rw [List.length_take, HRL.out]; omega
      have hsz : (IK .i16 ((rds l).take k ++ List.replicate (m - k) 0)).length = m := by rw [IK_len, List.length_append, hlk, List.length_replicate]; omega
      have hll : (rds l).take k ++ List.replicate (m - k) 0 = (rds l).take k ++ List.replicate (m - k) (0 : Int) := rfl
      have hkl : k < ((rds l).take k ++ List.replicate (m - k) (0 : Int)).length := by rw [IK_len] at hsz; omega
      refine ⟨w.heap.size, 0, ((rds l).take k ++ List.replicate (m - k) (0 : Int))[k], rfl, ?_, ?_⟩
      · rw [Nat.zero_add, k3.cell k, List.getElem?_toArray, IK_get _ _ k hkl]
      · refine (readStep g w3.heap.size (w.heap.size + 1) w.heap.size w2.heap.size w.heap.size m k _ (l.drop (2 * k)) _ wr k1 k2 k3 (by rw [List.size_toArray]; exact hsz) hk (by rw [List.length_drop, HL.out]; have := HM.out; omega) k4 (by omega) (by omega) (by omega) (by omega) (by omega) (by omega) (Nat.le_refl _) (by omega) k5.size).mono ?_
        rintro e w' ⟨rfl, j1, j2, j3, j4, j5⟩
        have hkr : k < (rds l).length := by rw [HRL.out]; exact hk
        rw [fill_step .i16 _ m k _ hlk hk, ← rds_take l k hkr] at j3
        rw [List.drop_drop, show 2 * k + 2 = 2 * (k + 1) by omega] at j4
        exact .inl ⟨rfl, j1, j2, j3, j4, k5.trans j5⟩)
    (by
      refine ⟨Blk.new _ _ _, b2'.alloc _, ?_, ?_, hb3'.alloc hs3 _⟩
      · simpa using b1'.alloc (.cells #[.pointer (some ⟨g, 0, none⟩)] 60)
      · rw [Nat.mul_zero, List.drop_zero]
        exact hrd.below ((Below.refl w3.heap.size w3).alloc (Nat.le_refl _) _) hg2))
  clear b1 b2 hrd
  go_wp2_with fail
  refine HT.out.mono ?_
  rintro e w4 (⟨rfl, _, k2, k3, _, k5⟩ | ⟨_, hF⟩)
  · rw [List.take_of_length_le (by rw [HRL.out]; exact Nat.le_refl _), Nat.sub_self, List.replicate_zero, List.append_nil] at k3
    have hc4 : w4.cell? ⟨w.heap.size + 1, 0, none⟩ = some (.slice (some ⟨w.heap.size, 0, none⟩) m m) := k2.cell 0
    clear k2
    go_wp2
    go_ret2
    rw [HE.out, HV.out]
    exact ⟨_, _, _, rfl, HRL, hid (fun h => by cases h), owns_blk k3 HRL.out (Nat.le_refl _) (by unfold maxLen; omega), k5⟩
  · exact hF.elim
end Go.Proofs.Ytcaleaecjoafhaa
