/-
  Slots in memory; contracts of the calls that only read.
-/
import Derived.Test.YtamglgampeoepaaDoorTouch
import Derived.Test.YtamglgampeoepaaDoorSlotMath
import Derived.Test.YtamglgampeoepaaDoorSlotKit
import Derived.Laws.BitsAllLaws
import Derived.Shelf.Spec.TrailingZeros
import Derived.Deep.RegionHeld3
import Derived.Deep.RegionLaw
namespace Go.Proofs.YtamglgampeoepaaDoor
set_option maxRecDepth 40000
open Go.RowKit

theorem quiet_r {P : Program} {f : FuncId} {args : Array Value} {w : World} {n : Nat} {v : Value} (h : Calls P f args (w.drewN n) fun e w' => e = .returned v ∧ w' = w.drewN n) :
    Calls P f args (w.drewN n) fun e w'' => e = .returned v ∧ ∃ m, w'' = w.drewN m := h.mono fun _ _ ⟨he, hm⟩ => ⟨he, n, hm⟩
structure SSt where
  dim : Nat
  room : Nat
  st : Sts
  tr : List Int
abbrev ptr (b : Nat) : Value := .pointer (some ⟨b, 0, none⟩)
def W64 (ws : List Nat) : List Value := ws.map fun (x : Nat) => .int .u64 (x : Int)
theorem W64_len (ws : List Nat) : (W64 ws).length = ws.length := by simp [W64]
theorem W64_one (ws : List Nat) : ∀ u ∈ W64 ws, u.oneCell' = true := by
  intro u hu
  obtain ⟨x, _, rfl⟩ := List.mem_map.1 hu
  rfl
def scells (s : SSt) (vv tv rv : Value) (f : Nat) : Array Value := #[.int .i64 (s.dim : Int), .int .i64 (s.room : Int), vv, tv, .int .i64 (f : Int), .int .i64 (cnt s.st : Int), rv]
/-- What may be in slots. -/
structure SFit (s : SSt) : Prop where
  dim : 1 ≤ s.dim ∧ s.dim ≤ 1024
  room : 1 ≤ s.room ∧ s.room ≤ 16777216
  fit : Fitted s.dim s.st
  cnt : cnt s.st ≤ s.room
  wide : s.st.length ≤ s.room
  tr : s.tr.length ≤ 1000000000
/-- Slots in block g, with their three rows. -/
structure SRaw (w : World) (g : Nat) (s : SSt) (vv tv rv : Value) (ws : List Nat) (f : Nat) : Prop where
  blk : Blk w g 60 (scells s vv tv rv f)
  vo : w.ownsRow 0 39 1 vv (s.st.length * s.dim) (IK .i16 (flatS s.dim s.st))
  to : w.ownsRow 0 63 1 tv ws.length (W64 ws)
  ro : w.ownsRow 0 3 1 rv s.tr.length (IK .i64 s.tr)
  told : Told64 ws s.st
  full : FullTo ws f
  vg : vv.ownBlock ≠ some g
  tg : tv.ownBlock ≠ some g
  rg : rv.ownBlock ≠ some g
  vt : vv.ownBlock = none ∨ vv.ownBlock ≠ tv.ownBlock
  vr : vv.ownBlock = none ∨ vv.ownBlock ≠ rv.ownBlock
  tr : tv.ownBlock = none ∨ tv.ownBlock ≠ rv.ownBlock
def blocks (g : Nat) (vv tv rv : Value) : List Nat := g :: (vv.ownBlock.toList ++ (tv.ownBlock.toList ++ rv.ownBlock.toList))
/-- Slots whose blocks are all in F. -/
def SAt (w : World) (g : Nat) (F : List Nat) (s : SSt) : Prop := SFit s ∧ (∀ b ∈ F, b < w.heap.size) ∧ ∃ vv tv rv ws f, SRaw w g s vv tv rv ws f ∧ ∀ b ∈ blocks g vv tv rv, b ∈ F
section
variable {w w' : World} {g : Nat} {F G : List Nat} {s : SSt} {vv tv rv : Value} {ws : List Nat} {f : Nat}
theorem SRaw.touch (h : SRaw w g s vv tv rv ws f) (ht : Touch w w' G) (hF : ∀ b ∈ blocks g vv tv rv, b ∉ G) : SRaw w' g s vv tv rv ws f :=
  ⟨h.blk.touch ht (hF g (by simp [blocks])), own_touched h.vo ht (fun b hb => hF b (by simp [blocks, hb])), own_touched h.to ht (fun b hb => hF b (by simp [blocks, hb])), own_touched h.ro ht (fun b hb => hF b (by simp [blocks, hb])), h.told, h.full, h.vg, h.tg, h.rg, h.vt, h.vr, h.tr⟩
theorem SAt.touch (h : SAt w g F s) (ht : Touch w w' G) (hF : ∀ b ∈ F, b ∉ G) : SAt w' g F s := by
  obtain ⟨h1, h2, vv, tv, rv, ws, f, h3, h4⟩ := h
  exact ⟨h1, fun b hb => Nat.lt_of_lt_of_le (h2 b hb) ht.size, vv, tv, rv, ws, f, h3.touch ht (fun b hb => hF b (h4 b hb)), h4⟩
theorem SAt.below (h : SAt w g F s) (hb : Below w.heap.size w w') : SAt w' g F s := h.touch (touch_below hb []) (fun _ _ h => by cases h)
theorem SAt.fit (h : SAt w g F s) : SFit s := h.1
theorem SAt.lt (h : SAt w g F s) : ∀ b ∈ F, b < w.heap.size := h.2.1
theorem SAt.mem (h : SAt w g F s) : g ∈ F := by obtain ⟨_, _, vv, tv, rv, ws, f, _, h4⟩ := h; exact h4 g (by simp [blocks])
theorem SRaw.cell (h : SRaw w g s vv tv rv ws f) (i : Nat) : w.cell? ⟨g, i, none⟩ = (scells s vv tv rv f)[i]? := h.blk.cell i
theorem SRaw.c0 (h : SRaw w g s vv tv rv ws f) : w.cell? ⟨g, 0, none⟩ = some (.int .i64 (s.dim : Int)) := h.cell 0
theorem SRaw.c1 (h : SRaw w g s vv tv rv ws f) : w.cell? ⟨g, 1, none⟩ = some (.int .i64 (s.room : Int)) := h.cell 1
theorem SRaw.c2 (h : SRaw w g s vv tv rv ws f) : w.cell? ⟨g, 2, none⟩ = some vv := h.cell 2
theorem SRaw.c3 (h : SRaw w g s vv tv rv ws f) : w.cell? ⟨g, 3, none⟩ = some tv := h.cell 3
theorem SRaw.c4 (h : SRaw w g s vv tv rv ws f) : w.cell? ⟨g, 4, none⟩ = some (.int .i64 (f : Int)) := h.cell 4
theorem SRaw.c5 (h : SRaw w g s vv tv rv ws f) : w.cell? ⟨g, 5, none⟩ = some (.int .i64 (cnt s.st : Int)) := h.cell 5
theorem SRaw.c6 (h : SRaw w g s vv tv rv ws f) : w.cell? ⟨g, 6, none⟩ = some rv := h.cell 6
/-- A row of words: its shape, a word's cell. -/
theorem words_shape (h : w.ownsRow 0 63 1 tv ws.length (W64 ws)) : ∃ A c, tv = .slice A ws.length c ∧ ∀ j, j < ws.length → ∃ b, A = some ⟨b, 0, none⟩ ∧ w.cell? ⟨b, j, none⟩ = some (.int .u64 ((ws[j]?.getD 0 : Nat) : Int)) := by
  obtain ⟨A, c, rfl, _, _⟩ := own_shape' h
  refine ⟨A, c, rfl, fun j hj => ?_⟩
  rcases h.2 with ⟨hv, h0⟩ | ⟨b, cap, cur, hv, _⟩
  · omega
  · injection hv with hA
    subst hA
    refine ⟨b, rfl, ?_⟩
    have := h.cells (g := b) rfl j (.int .u64 ((ws[j]?.getD 0 : Nat) : Int)) (by simp [W64, List.getElem?_eq_getElem hj])
    rwa [addr_add, Nat.zero_add] at this
theorem eql_nil_ptr (W : World) (g : Nat) : (binOp .eql 25 (ptr g) (.pointer none)).run Tryd.prog W = .ok (.bool false) W := by kernel_rfl
end
section
variable {w : World} {g : Nat} {F : List Nat} {s : SSt} {vv tv rv : Value} {ws : List Nat} {f : Nat}
theorem unmade_s (h : SRaw w g s vv tv rv ws f) (hf : SFit s) : Calls Tryd.prog 29 #[ptr g] w fun e w' => e = .returned (.bool false) ∧ w' = w := by
  have c1 := h.c1
  have e1 := eql_nil_ptr w g
  have hr := hf.room
  have q : ((s.room : Int) == 0) = false := by simp; omega
  clear h
  go_enter Tryd.func29, Tryd.ntmps29
  go_wp2
  go_ret
  exact ⟨rfl, rfl⟩
theorem count_s (h : SRaw w g s vv tv rv ws f) (hf : SFit s) : Calls Tryd.prog 22 #[ptr g] w fun e w' => e = .returned (.int .i64 (cnt s.st : Int)) ∧ w' = w := by
  have U := hid (unmade_s h hf)
  have c5 := h.c5
  clear h
  go_enter Tryd.func22, Tryd.ntmps22
  go_wp2_with fail
  refine U.out.mono ?_
  rintro e w1 ⟨rfl, rfl⟩
  go_wp2
  go_ret
  exact ⟨rfl, rfl⟩
theorem bit_any (n : Nat) (w : World) (hn : n ≤ 9223372036854775807) : Calls Tryd.prog 33 #[.int .i64 (n : Int)] w fun e w' => e = .returned (.int .u64 ((2 ^ (n % 64) : Nat) : Int)) ∧ w' = w := by
  obtain ⟨k, hk⟩ : ∃ k, k = n % 64 := ⟨_, rfl⟩
  have hk64 : k < 64 := by omega
  have hm : ((n : Int).tmod 64) = (k : Int) := by rw [Int.tmod_eq_emod_of_nonneg (by omega)]; omega
  have hp := pow_lt hk64
  rw [← hk]
  have HK := hid hk
  clear hk
  go_enter Tryd.func33, Tryd.ntmps33
  go_wp2
  go_ret
  refine ⟨ret_int ?_, rfl⟩
  rw [IntKind.wrap_u64, Int.natCast_pow, Int.emod_eq_of_lt]
  · rfl
  · exact Int.pow_nonneg (by decide)
  · have : ((2 ^ k : Nat) : Int) < 18446744073709551616 := Int.ofNat_lt.2 hp
    rwa [Int.natCast_pow] at this
/-- The table of math/bits. -/
def Tab (w : World) : Prop := ∀ j, j < 64 → w.cell? ⟨0, j, none⟩ = some (.int .u8 (Lib.deBruijn64tab.getD j 0))
theorem tz_any (x : Nat) (w : World) (hx : x < 18446744073709551616) (hT : Tab w) : Calls Tryd.prog 40 #[.int .u64 (x : Int)] w fun e w' => e = .returned (.int .i64 (Lib.ctz 64 x)) ∧ w' = w := by
  by_cases hx0 : x = 0
  · subst hx0
    go_enter Tryd.func40, Tryd.ntmps40
    go_wp2
    go_ret
    exact ⟨rfl, rfl⟩
  · obtain ⟨hlow, hk⟩ := Lib.lowest_bit 64 x hx0 hx
    obtain ⟨hi, htab⟩ := Lib.deBruijn64_at _ hk
    have hcell := hT _ hi
    rw [htab] at hcell
    have key := tz64_key x _ hx hx0 hlow
    have q0 : ((x : Int) == 0) = false := by simp; omega
    obtain ⟨idx, hidx⟩ : ∃ idx, idx = 2 ^ Lib.ctz 64 x * 285870213051353865 % 18446744073709551616 / 288230376151711744 := ⟨_, rfl⟩
    obtain ⟨k, hkk⟩ : ∃ k, k = Lib.ctz 64 x := ⟨_, rfl⟩
    rw [← hidx] at hcell key hi
    rw [← hkk] at hcell hk ⊢
    clear hlow htab hidx hkk hT
    go_enter Tryd.func40, Tryd.ntmps40
    go_wp2_with (simp only [key])
    go_ret
    exact ⟨rfl, rfl⟩
theorem wrap64_nat {j : Nat} (h : j ≤ 9223372036854775807) : wrap64 (j : Int) = (j : Int) := by unfold wrap64; omega
theorem wrap_nat {j : Nat} (h : j ≤ 9223372036854775807) : IntKind.i64.wrap (j : Int) = (j : Int) := by simp [IntKind.wrap, IntKind.bits, IntKind.signed]; omega
/-- Which slots have vectors, by any number. -/
def hasI (st : Sts) (n : Int) : Bool := decide (0 ≤ n) && has st n.toNat
theorem hasI_neg {st : Sts} {n : Int} (h : n < 0) : hasI st n = false := by unfold hasI; rw [decide_eq_false (by omega)]; rfl
theorem hasI_nat (st : Sts) (n : Nat) : hasI st (n : Int) = has st n := by unfold hasI; rw [decide_eq_true (by omega)]; simp
theorem hasI_true {st : Sts} {n : Int} (h : hasI st n = true) : ∃ k : Nat, n = (k : Int) ∧ has st k = true := by
  rcases (show n < 0 ∨ 0 ≤ n by omega) with h1 | h1
  · rw [hasI_neg h1] at h; cases h
  · obtain ⟨k, rfl⟩ := Int.eq_ofNat_of_zero_le h1
    exact ⟨k, rfl, by rw [← hasI_nat]; exact h⟩
theorem bit_and {x k : Nat} : ((((x &&& 2 ^ k : Nat) : Int)) != 0) = x.testBit k := by
  have h : (x &&& 2 ^ k) = if x.testBit k then 2 ^ k else 0 := by
    apply Nat.eq_of_testBit_eq
    intro i
    rw [Nat.testBit_and, Nat.testBit_two_pow]
    by_cases e : k = i
    · subst e
      cases hb : x.testBit k <;> simp [Nat.testBit_two_pow_self]
    · have e2 : decide (k = i) = false := decide_eq_false e
      rw [e2, Bool.and_false]
      split
      · rw [Nat.testBit_two_pow, e2]
      · simp
  rw [h]
  have hp : 0 < 2 ^ k := Nat.two_pow_pos k
  cases hb : x.testBit k
  · rfl
  · have h3 : ((2 ^ k : Nat) : Int) ≠ 0 := by omega
    simp only [if_true]
    exact bne_iff_ne.2 h3
set_option maxHeartbeats 1000000 in
theorem has_s (h : SRaw w g s vv tv rv ws f) (hf : SFit s) (n : Int) (hn : n ≤ 9223372036854775807) : Calls Tryd.prog 26 #[ptr g, .int .i64 n] w fun e w' => e = .returned (.bool (hasI s.st n)) ∧ ∃ k, w' = w.drewN k := by
  have U := hid (unmade_s h hf)
  have c3 := h.c3
  obtain ⟨A, c, rfl, hw⟩ := words_shape h.to
  have HT := hid h.told
  rcases (show n < 0 ∨ 0 ≤ n by omega) with hn0 | hn0
  · have HE : Hid (hasI s.st n = false) := hid (hasI_neg hn0)
    clear h hw
    go_enter Tryd.func26, Tryd.ntmps26
    go_wp2_with fail
    refine U.out.mono ?_
    rintro e w1 ⟨rfl, rfl⟩
    go_wp2
    go_ret
    exact ⟨by rw [HE.out]; rfl, 0, rfl⟩
  obtain ⟨m, rfl⟩ := Int.eq_ofNat_of_zero_le hn0
  have hq : ((m : Int).tdiv 64) = ((m / 64 : Nat) : Int) := by rw [Int.tdiv_eq_ediv_of_nonneg (by omega)]; omega
  obtain ⟨j, hj⟩ : ∃ j, j = m / 64 := ⟨_, rfl⟩
  rw [← hj] at hq
  have HJ := hid hj
  rcases Nat.lt_or_ge j ws.length with hjl | hjl
  · have hjl2 : (j : Int) < (ws.length : Int) := by omega
    have hj0 : (0 : Int) ≤ (j : Int) := by omega
    have hm0 : ¬ ((m : Int) < 0) := by omega
    have hw64 : wrap64 (j : Int) = (j : Int) := wrap64_nat (by omega)
    have hjl3 : ¬ ((ws.length : Int) ≤ (j : Int)) := by omega
    obtain ⟨b, rfl, hcell⟩ := hw j hjl
    obtain ⟨x, hx⟩ : ∃ x, x = ws[j]?.getD 0 := ⟨_, rfl⟩
    have hx64 : x < 18446744073709551616 := by rw [hx]; exact HT.out.word_lt j
    rw [← hx] at hcell
    have BT := hid (fun W : World => bit_any m W (by omega))
    have hpw : 2 ^ (m % 64) < 18446744073709551616 := pow_lt (Nat.mod_lt _ (by omega))
    obtain ⟨y, hy⟩ : ∃ y, y = 2 ^ (m % 64) := ⟨_, rfl⟩
    rw [← hy] at BT hpw
    have hand : bits .and .u64 (x : Int) (y : Int) = ((x &&& y : Nat) : Int) := u64_and_nat x y hx64 hpw
    obtain ⟨z, hz⟩ : ∃ z, z = x &&& y := ⟨_, rfl⟩
    rw [← hz] at hand
    have HE : Hid (hasI s.st (m : Int) = ((z : Int) != 0)) := hid (by
      rw [hasI_nat, ← HT.out.bit, ← hj, ← hx, hz, hy, bit_and])
    clear h hw hj hx hx64 hpw hy hz hn
    obtain ⟨bz, hbz⟩ : ∃ bz, bz = ((z : Int) != 0) := ⟨_, rfl⟩
    have hbz' : ((z : Int) != 0) = bz := hbz.symm
    rw [hbz'] at HE
    clear hbz
    cases bz
    all_goals
      go_enter Tryd.func26, Tryd.ntmps26
      go_wp2_with fail
      refine U.out.mono ?_
      rintro e w1 ⟨rfl, rfl⟩
      go_wp2
      go_quiet (first | (go_at_call 33; exact quiet_r (BT.out _)))
      go_wp2
      go_ret
      exact ⟨by rw [HE.out]; rfl, _, rfl⟩
  · have HE : Hid (hasI s.st (m : Int) = false) := hid (by
      rw [hasI_nat, ← HT.out.bit, ← hj, List.getElem?_eq_none hjl]; simp)
    have hjl2 : (ws.length : Int) ≤ (j : Int) := by omega
    have hm0 : ¬ ((m : Int) < 0) := by omega
    have hw64 : wrap64 (j : Int) = (j : Int) := wrap64_nat (by omega)
    clear h hw hj
    go_enter Tryd.func26, Tryd.ntmps26
    go_wp2_with fail
    refine U.out.mono ?_
    rintro e w1 ⟨rfl, rfl⟩
    go_wp2
    go_ret
    exact ⟨by rw [HE.out]; rfl, 0, rfl⟩
theorem refusal_s (h : SRaw w g s vv tv rv ws f) (hf : SFit s) (n : Int) (hn : n ≤ 9223372036854775807) : Calls Tryd.prog 35 #[ptr g, .int .i64 n] w fun e w' => e = .returned (.int .i64 (if hasI s.st n = true then 0 else 6)) ∧ ∃ k, w' = w.drewN k := by
  have U := hid (unmade_s h hf)
  have HS := hid (has_s h hf n hn)
  obtain ⟨b, hb⟩ : ∃ b, b = hasI s.st n := ⟨_, rfl⟩
  rw [← hb] at HS ⊢
  clear h hb
  cases b
  all_goals
    go_enter Tryd.func35, Tryd.ntmps35
    go_wp2_with fail
    refine U.out.mono ?_
    rintro e w1 ⟨rfl, rfl⟩
    go_wp2_with fail
    refine HS.out.mono ?_
    rintro e w2 ⟨rfl, k, rfl⟩
    go_wp2
    go_ret
    exact ⟨rfl, k, rfl⟩
theorem trace_s (h : SRaw w g s vv tv rv ws f) (hf : SFit s) : Calls Tryd.prog 25 #[ptr g] w (FreshK .i64 3 w s.tr) := by
  have U := hid (unmade_s h hf)
  have c6 := h.c6
  obtain ⟨A, c, rfl, hA, hc⟩ := own_shape' h.ro
  have hr := Row.of_own h.ro
  have CL := hid (clone64_any A s.tr.length c 0 w.heap.size s.tr w hr hA (Nat.le_refl _) (by have := hf.tr; omega))
  clear h hr
  go_enter Tryd.func25, Tryd.ntmps25
  go_wp2_with fail
  refine U.out.mono ?_
  rintro e w1 ⟨rfl, rfl⟩
  go_wp2_with fail
  refine CL.out.mono ?_
  rintro e w2 ⟨A2, n2, c2, rfl, h1, h2, h3, h4⟩
  go_wp2
  go_ret
  exact ⟨A2, n2, c2, rfl, h1, h2, h3, h4⟩
end
end Go.Proofs.YtamglgampeoepaaDoor
