/-
  The walk of SlotNames.
-/
import Derived.Test.YtpckloafdlkefaaDoorSlotLive
namespace Go.Proofs.YtpckloafdlkefaaDoor
set_option maxRecDepth 40000
open Go.RowKit Go.Joins

section
variable {w W W' : World} {g : Nat} {F : List Nat} {s s' : SSt}
theorem Sl.has (L : Sl w W g F s) (n : Int) (hn : n ≤ 9223372036854775807) : Calls Tryd.prog 17 #[ptr g, .int .i64 n] W fun e w' => e = .returned (.bool (hasI s.st n)) ∧ ∃ k, w' = W.drewN k := by
  obtain ⟨vv, tv, rv, ws, f, hr, _⟩ := L.at_.raw
  exact has_s hr L.at_.fit n hn
theorem Sl.count (L : Sl w W g F s) : Calls Tryd.prog 18 #[ptr g] W fun e w' => e = .returned (.int .i64 (cnt s.st : Int)) ∧ w' = W := by
  obtain ⟨vv, tv, rv, ws, f, hr, _⟩ := L.at_.raw
  exact count_s hr L.at_.fit
theorem Sl.trace (L : Sl w W g F s) : Calls Tryd.prog 12 #[ptr g] W (FreshK .i64 3 W s.tr) := by
  obtain ⟨vv, tv, rv, ws, f, hr, _⟩ := L.at_.raw
  exact trace_s hr L.at_.fit
/-- Numbers written out. -/
theorem rowk_lit (W : World) (K : IntKind) (t : TypeId) (l : List Int) (n : Nat) {cs : Array Value} (hn : l.length = n) (hc : cs = (IK K l).toArray) : Row (W.alloc (.cells cs t)) W.heap.size (W.heap.size + 1) (some ⟨W.heap.size, 0, none⟩) n (IK K l) := by
  subst hc
  refine ⟨by rw [IK_len]; exact hn, fun _ => ⟨W.heap.size, 0, rfl, Nat.le_refl _, Nat.lt_succ_self _, fun j u hu => ?_⟩⟩
  have := World.news_of_block (heap_alloc_new W (.cells (IK K l).toArray t)) j u hu
  rwa [addr_add] at this
theorem Sl.put (L : Sl w W g F s) (hT : Tab w) (A : Option Addr) (c lo hi m : Nat) (v : List Int) (hm : m = s.dim) (hR : Row W lo hi A m (IK .i16 v)) (hhi : hi ≤ W.heap.size) (hA : A = none → c = 0) (hlo : ∀ b ∈ F, b < lo ∨ hi ≤ b) (hr : cnt s.st < s.room) {n : Nat} (hn : Low s.st n) :
    Calls Tryd.prog 10 #[ptr g, .slice A m c] W fun e W' => e = .returned (.tuple #[.int .i64 (n : Int), .int .i64 0]) ∧ ∃ F', Sl w W' g F' { s with st := putS s.st n v } ∧ Touch W W' F ∧ ∀ b ∈ F', b ∈ F ∨ W.heap.size ≤ b := by
  subst hm
  refine (put_ok L.at_ A c lo hi v hR hhi hA hlo hr (L.tab hT)).mono ?_
  rintro e W' ⟨k, hk, rfl, hS⟩
  obtain rfl : k = n := hk.unique hn
  exact ⟨rfl, L.did hS⟩
end
set_option maxHeartbeats 4000000 in
theorem slotNames_walk (w : World) (hT : Tab w) : Calls Tryd.prog 3 #[] w fun e w' => e = .returned (.bool true) ∧ Below w.heap.size w w' := by
  have LV := hid (lives9_any w hT)
  have HT0 := hid hT
  clear hT
  go_enter Tryd.func3, Tryd.ntmps3
  go_wp2_with fail
  refine LV.out.mono ?_
  rintro e w1 ⟨rfl, hb1⟩
  have HB1 := hid hb1
  have HT := hid (HT0.out.below hb1)
  clear hb1 LV
  go_wp2_with fail
  refine (new_bad 0 1 w1 (by omega)).mono ?_
  rintro e w' ⟨rfl, rfl⟩
  go_wp2_with fail
  refine (new_bad 1 0 w' (by omega)).mono ?_
  rintro e w2 ⟨rfl, rfl⟩
  have NW := hid (new_ok 2 1 w2 (by omega) (by omega))
  go_wp2_with fail
  refine NW.out.mono ?_
  rintro e w3 ⟨g, rfl, hS, hg, hb⟩
  have L3 : Sl w2 w3 g [g] ⟨2, 1, [], []⟩ := ⟨hS, fun b hb => by rw [List.mem_singleton] at hb; rw [hb]; exact hg, hb⟩
  have L4 := L3.then (W' := w3.alloc (.cells #[.int .i16 1] 29)) ((Below.refl _ _).alloc (Nat.le_refl _) _)
  have P1 := hid (put_bad L4.at_ (some ⟨w3.heap.size, 0, none⟩) 1 1 (by decide))
  have HL4 := hid L4
  clear hS hg hb NW L3 L4
  go_wp2_with fail
  refine P1.out.mono ?_
  rintro e w4 ⟨rfl, rfl⟩
  obtain ⟨w4, hw4⟩ : ∃ w4, w4 = w3.alloc (.cells #[.int .i16 1] 29) := ⟨_, rfl⟩
  rw [← hw4] at HL4 ⊢
  clear hw4 P1
  have L5 := HL4.out.then (W' := w4.alloc (.cells #[.int .i16 1, .int .i16 2] 29)) ((Below.refl _ _).alloc (Nat.le_refl _) _)
  have P2 := hid (L5.put HT.out (some ⟨w4.heap.size, 0, none⟩) 2 w4.heap.size (w4.heap.size + 1) 2 [1, 2] rfl (rowk_lit w4 .i16 _ [1, 2] 2 rfl rfl) (by simp) (fun e => by cases e) (fun b hb => .inl (HL4.out.at_.lt b hb)) (by decide) low0)
  clear L5
  go_wp2_with fail
  refine P2.out.mono ?_
  rintro e w5 ⟨rfl, F5, L5, _, _⟩
  have L6 := L5.then (W' := w5.alloc (.cells #[.int .i16 3, .int .i16 4] 29)) ((Below.refl _ _).alloc (Nat.le_refl _) _)
  have P3 := hid (put_full L6.at_ (some ⟨w5.heap.size, 0, none⟩) 2 2 (by decide) rfl)
  have HL6 := hid L6
  clear P2 L5 L6 HL4
  go_wp2_with fail
  refine P3.out.mono ?_
  rintro e w6 ⟨rfl, k6, rfl⟩
  have L7 := HL6.out.draws k6
  have G1 := hid (get_ok L7.at_ 0 [1, 2] rfl (by decide))
  have HL7 := hid L7
  clear P3 L7 HL6
  go_wp2_with fail
  refine G1.out.mono ?_
  rintro e w8 ⟨A8, m8, c8, F8, rfl, h1, h2, h3, hS8, hT8, hF8, hoff8⟩
  obtain rfl : m8 = 2 := h1.out.symm
  have L8 : Sl w2 w8 g F8 ⟨2, 1, putS [] 0 [1, 2], [0]⟩ := ⟨hS8, fun b hb => by
    rcases hF8 b hb with h | h
    · exact HL7.out.new b h
    · exact Nat.le_trans HL7.out.below.size h, HL7.out.below.trans (hT8.below HL7.out.below.size HL7.out.new)⟩
  have HV8 := hid (ownsRow_le h3 (Nat.zero_le _))
  have HOFF := hid hoff8
  have G2 := hid (get_no L8.at_ 1 (by decide) rfl)
  have HL8 := hid L8
  clear G1 h1 h2 h3 hS8 hT8 hF8 hoff8 L8 HL7
  go_wp2_with fail
  refine G2.out.mono ?_
  rintro e w9 ⟨rfl, k9, rfl⟩
  have L9 := HL8.out.draws k9
  have TR := hid L9.trace
  have HL9 := hid L9
  clear G2 L9
  go_wp2_with fail
  refine TR.out.mono ?_
  rintro e w10 ⟨A10, n10, c10, rfl, t1, t2, t3, hb10⟩
  obtain rfl : n10 = 1 := t1.out.symm
  have L10 := HL9.out.then hb10
  have HV10 := hid (own_touched HV8.out ((touch_drewN w8 k9 []).then (touch_below hb10 []) (fun _ _ h => h)) (fun _ _ h => by cases h))
  have HT10 := hid (ownsRow_le t3 (Nat.zero_le _))
  have HTO : Hid (∀ e, (Value.slice A10 1 c10).ownBlock = some e → e ∉ F8) := hid fun e he hm => by
    have h1 := (t3.lt e he).1
    have h2 := HL8.out.at_.lt e hm
    have h3 : (w8.drewN k9).heap.size = w8.heap.size := rfl
    omega
  have CL := hid (clear_s L10.at_)
  have HL10 := hid L10
  clear TR t1 t2 t3 hb10 L10 HL9 HV8
  go_wp2_with fail
  refine CL.out.mono ?_
  rintro e w11 ⟨rfl, hS11⟩
  obtain ⟨F11, L11, T11, _⟩ := HL10.out.did hS11
  have HV11 := hid (own_touched HV10.out T11 HOFF.out)
  have HT11 := hid (own_touched HT10.out T11 HTO.out)
  have HL11 := hid L11
  have SA := hid (same16 A8 (some ⟨w11.heap.size, 0, none⟩) 2 2 c8 2 0 w11.heap.size w11.heap.size (w11.heap.size + 1) [1, 2] [1, 2] (w11.alloc (.cells #[.int .i16 1, .int .i16 2] 29)) ((Row.of_own HV11.out).alloc (Nat.le_refl _) _) (rowk_lit w11 .i16 _ [1, 2] 2 rfl rfl) (by omega))
  rw [decide_eq_true rfl] at SA
  clear CL hS11 L11 T11 HV10 HT10 HL10
  go_wp2_with fail
  refine SA.out.mono ?_
  rintro e w12 ⟨rfl, k12, rfl⟩
  have hb12 : Below w11.heap.size w11 ((w11.alloc (.cells #[.int .i16 1, .int .i16 2] 29)).drewN k12) := below_drewN ((Below.refl _ _).alloc (Nat.le_refl _) _) k12
  obtain ⟨w12, hw12⟩ : ∃ w12, w12 = (w11.alloc (.cells #[.int .i16 1, .int .i16 2] 29)).drewN k12 := ⟨_, rfl⟩
  rw [← hw12] at hb12 ⊢
  have HL12 := hid (HL11.out.then hb12)
  have HR12 := hid ((Row.of_own HT11.out).below hb12 (Nat.le_refl _))
  have hz12 := hb12.size
  clear hw12 hb12 SA HV11 HL11
  have SB := hid (same64 A10 (some ⟨w12.heap.size, 0, none⟩) 1 1 c10 1 0 w11.heap.size w12.heap.size (w12.heap.size + 1) [0] [0] (w12.alloc (.cells #[.int .i64 0] 3)) (HR12.out.alloc hz12 _) (rowk_lit w12 .i64 _ [0] 1 rfl rfl) (by omega))
  rw [decide_eq_true rfl] at SB
  go_wp2_with fail
  refine SB.out.mono ?_
  rintro e w13 ⟨rfl, k13, rfl⟩
  have L13 := (HL12.out.then (W' := w12.alloc (.cells #[.int .i64 0] 3)) ((Below.refl _ _).alloc (Nat.le_refl _) _)).draws k13
  have TR2 := hid L13.trace
  have HL13 := hid L13
  clear SB L13 HL12 HT11 hz12
  go_wp2_with fail
  refine TR2.out.mono ?_
  rintro e w14 ⟨A14, n14, c14, rfl, t1, t2, t3, hb14⟩
  obtain rfl : n14 = 0 := t1.out.symm
  have L14 := HL13.out.then hb14
  have FR := hid (free_no L14.at_ (-1) (by decide) rfl)
  have HL14 := hid L14
  clear TR2 t1 t2 t3 hb14 L14 HL13
  go_wp2_with fail
  refine FR.out.mono ?_
  rintro e w15 ⟨rfl, k15, rfl⟩
  have L15 := HL14.out.draws k15
  have H0 := hid (L15.has 0 (by decide))
  rw [show hasI (putS [] 0 [1, 2]) 0 = true from rfl] at H0
  clear FR L15
  go_wp2_with fail
  refine H0.out.mono ?_
  rintro e w16 ⟨rfl, k16, rfl⟩
  have L16 := HL14.out.draws (k15 + k16)
  have H1 := hid (L16.has 1 (by decide))
  rw [show hasI (putS [] 0 [1, 2]) 1 = false from rfl] at H1
  clear H0 L16
  go_wp2_with fail
  refine H1.out.mono ?_
  rintro e w17 ⟨rfl, k17, rfl⟩
  have L17 := HL14.out.draws (k15 + k16 + k17)
  have CN := hid L17.count
  rw [show cnt (putS [] 0 [1, 2]) = 1 from rfl] at CN
  have HB17 := hid L17.below
  clear H1 L17 HL14
  go_wp2_with fail
  refine CN.out.mono ?_
  rintro e w18 ⟨rfl, rfl⟩
  go_wp2
  go_ret
  exact ⟨rfl, HB1.out.trans (HB17.out.mono HB1.out.size)⟩
end Go.Proofs.YtpckloafdlkefaaDoor
