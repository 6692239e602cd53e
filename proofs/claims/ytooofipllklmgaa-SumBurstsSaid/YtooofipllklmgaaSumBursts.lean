/-
  The walk of SumBursts.
-/
import Derived.Test.YtooofipllklmgaaSumLinear
namespace Go.Proofs.Ytooofipllklmgaa
open Go.RowKit Regs

/-- Block g begins with these bytes; what lies behind them is spare. -/
def Head (w : World) (g : Nat) (l : List UInt8) : Prop := ∃ cur, Blk w g 5 cur ∧ cur.toList.take l.length = U l
theorem Head.of_own {w : World} {base n : Nat} {A : Option Addr} {c : Nat} {l : List UInt8} (h : w.ownsRow base 5 1 (.slice A n c) n (U l)) (hn : 0 < n) : ∃ g, A = some ⟨g, 0, none⟩ ∧ base ≤ g ∧ n ≤ c ∧ Head w g l := by
  have hl : l.length = n := by have := h.1; rw [U_len] at this; omega
  rcases h.2 with ⟨_, h0⟩ | ⟨g, cap, cur, hv, hg, hb, hc, _, hs, ht⟩
  · omega
  · injection hv with h1 h2 h3
    subst h3
    refine ⟨g, h1, hg, hc, cur, hb, ?_⟩
    rw [hl]; simpa using ht
theorem Head.lt {w : World} {g : Nat} {l : List UInt8} (h : Head w g l) : g < w.heap.size := by obtain ⟨cur, hb, _⟩ := h; exact hb.lt
theorem Head.below {w w' : World} {g : Nat} {l : List UInt8} (h : Head w g l) (hb : Below w.heap.size w w') : Head w' g l := by
  obtain ⟨cur, h1, h2⟩ := h
  exact ⟨cur, h1.below hb h1.lt, h2⟩
theorem Head.get {w : World} {g : Nat} {l : List UInt8} (h : Head w g l) (k : Nat) (hk : k < l.length) : w.cell? ⟨g, k, none⟩ = some (.int .u8 ((l.getD k 0).toNat : Int)) ∧ w.frozen? ⟨g, k, none⟩ = false := by
  obtain ⟨cur, h1, h2⟩ := h
  refine ⟨?_, h1.frozen k⟩
  rw [h1.cell k]
  have : (cur.toList.take l.length)[k]? = (U l)[k]? := by rw [h2]
  rw [List.getElem?_take, if_pos hk, U_get l k hk] at this
  simpa [hk] using this
theorem Head.row {w : World} {g : Nat} {l : List UInt8} {n : Nat} (h : Head w g l) (hn : l.length = n) : Row w g (g + 1) (some ⟨g, 0, none⟩) n (U l) := by
  subst hn
  refine ⟨U_len l, fun _ => ⟨g, 0, rfl, Nat.le_refl _, Nat.lt_succ_self _, fun j u hu => ?_⟩⟩
  have hj : j < l.length := by have := (List.getElem?_eq_some_iff.1 hu).1; rwa [U_len] at this
  rw [Nat.zero_add, (h.get j hj).1]
  rw [U_get l j hj] at hu
  simpa [hj] using hu
theorem Head.set {w : World} {g : Nat} {l : List UInt8} (h : Head w g l) (k : Nat) (y : UInt8) : Head (w.setCell ⟨g, k, none⟩ (.int .u8 (y.toNat : Int))) g (l.set k y) := by
  obtain ⟨cur, h1, h2⟩ := h
  refine ⟨_, h1.set k _, ?_⟩
  rw [List.length_set, Array.toList_setIfInBounds, List.take_set, h2]
  simp [U, List.map_set]

/-- Bits turned, byte by byte. -/
def flipb (p : Nat) (w : BitVec 32) (l : List UInt8) : Nat → List UInt8
  | 0 => l
  | k + 1 => let c := flipb p w l k
    if w.getLsbD k then c.set ((p + k) / 8) (c.getD ((p + k) / 8) 0 ^^^ UInt8.ofNat (2 ^ ((p + k) % 8))) else c
theorem flipb_len (p : Nat) (w : BitVec 32) (l : List UInt8) (k : Nat) : (flipb p w l k).length = l.length := by
  induction k with
  | zero => rfl
  | succ k ih => simp only [flipb]; split <;> simp [ih]
theorem b8_shl (j : Nat) (hj : j < 8) : B8 (UInt8.ofNat (2 ^ j)) = 1#32 <<< j := by
  have : ∀ j : Fin 8, B8 (UInt8.ofNat (2 ^ j.val)) = 1#32 <<< j.val := by decide
  exact this ⟨j, hj⟩
theorem ws_getD (l : List UInt8) (i : Nat) : (Ws l).getD i 0#32 = B8 (l.getD i 0) := by
  by_cases h : i < l.length
  · simp [Ws, h]
  · simp [Ws, List.getElem?_eq_none (Nat.le_of_not_lt h)]
    decide
theorem flipb_ws (p : Nat) (w : BitVec 32) (l : List UInt8) (k : Nat) : Ws (flipb p w l k) = flips p w (Ws l) k := by
  induction k with
  | zero => rfl
  | succ k ih =>
    simp only [flipb, flips]
    rw [← ih]
    split
    · rw [ws_getD, ← b8_shl _ (Nat.mod_lt _ (by omega)), ← b8_xor]
      simp [Ws, List.map_set]
    · rfl
theorem b8_inj {x y : UInt8} (h : B8 x = B8 y) : x = y := by
  have h1 := b8_nat x
  have h2 := b8_nat y
  rw [h] at h1
  exact UInt8.toNat_inj.1 (by omega)
theorem ws_inj {l m : List UInt8} (h : Ws l = Ws m) : l = m := by
  induction l generalizing m with
  | nil => cases m with
    | nil => rfl
    | cons => simp [Ws] at h
  | cons x l ih => cases m with
    | nil => simp [Ws] at h
    | cons y m =>
      simp only [Ws, List.map_cons, List.cons.injEq] at h
      rw [b8_inj h.1, ih h.2]
/-- The sums are the same just where the bytes are. -/
theorem burst (p : Nat) (w : BitVec 32) (l : List UInt8) (k : Nat) (hk : k ≤ 32) (h : p + k ≤ 8 * l.length) :
    (((crc 0#32 (Ws (flipb p w l k))).toNat : Int) == ((crc 0#32 (Ws l)).toNat : Int)) = decide (l = flipb p w l k) := by
  rw [Bool.eq_iff_iff, beq_iff_eq, decide_eq_true_iff]
  have hs := flips_same (~~~ 0#32) p w (Ws l) k hk (by rw [ws_len]; exact h)
  rw [← crc_inj, ← flipb_ws] at hs
  constructor
  · intro e
    exact (ws_inj (hs.1 (BitVec.eq_of_toNat_eq (by omega)))).symm
  · intro e
    rw [hs.2 (by rw [← e])]

set_option maxHeartbeats 2000000 in
theorem bursts_walk (A : Option Addr) (n c : Nat) (l : List UInt8) (at_ : Int) (bs : BitVec 32) (w : World) (hR : Row w 0 w.heap.size A n (U l)) (hA : A = none → c = 0) (hn : n ≤ 9223372036854775807) :
    Calls Try.prog 4 #[.slice A n c, .int .i64 at_, V bs] w fun e w' => e = .returned (.bool true) ∧ Below w.heap.size w w' := by
  have W0 := hid (lives_any w)
  have hl : l.length = n := by have := hR.len; rwa [U_len] at this
  by_cases hbig : 600 < n
  · go_enter Try.func4, Try.ntmps4
    go_wp2_with fail
    refine W0.out.mono ?_
    rintro e w0 ⟨rfl, hb0⟩
    go_wp2_with fail
    go_ret
    exact ⟨rfl, hb0⟩
  by_cases hnone : n = 0
  · subst hnone
    go_enter Try.func4, Try.ntmps4
    go_wp2_with fail
    refine W0.out.mono ?_
    rintro e w0 ⟨rfl, hb0⟩
    go_wp2_with fail
    go_ret
    exact ⟨rfl, hb0⟩
  have HL := hid hl
  have hne : ((n : Int) == 0) = false := by simpa using hnone
  have hpos : 0 < n := by omega
  clear hl hnone
  obtain ⟨p, hp, hp1⟩ : ∃ p : Nat, at_ % (8 * (n : Int)) = (p : Int) ∧ p < 8 * n := ⟨(at_ % (8 * (n : Int))).toNat, by have := Int.emod_nonneg at_ (b := 8 * (n : Int)) (by omega); omega, by have := Int.emod_lt_of_pos at_ (b := 8 * (n : Int)) (by omega); have := Int.emod_nonneg at_ (b := 8 * (n : Int)) (by omega); omega⟩
  have P1 := fun W => hid (pick_wide at_ (8 * (n : Int)) p W (by omega) (by omega) hp)
  clear hp
  go_enter Try.func4, Try.ntmps4
  go_wp2_with fail
  refine W0.out.mono ?_
  rintro e w0 ⟨rfl, hb0⟩
  have O1 := hid (own_any A n c 0 w.heap.size l w0 (hR.below hb0 (Nat.le_refl _)) hA hb0.size (by omega))
  go_wp2_with fail
  refine O1.out.mono ?_
  rintro e w1 ⟨A1, n1, c1, rfl, hl1, hA1, hown, hb1⟩
  obtain rfl : n1 = n := by rw [← hl1.out, HL.out]
  obtain ⟨g, rfl, hg, hgc, hd⟩ := Head.of_own hown hpos
  have hb1' := hb0.trans (hb1.mono hb0.size)
  have HD := hid hd
  have HB := hid hb1'
  have hg' : w.heap.size ≤ g := Nat.le_trans hb0.size hg
  clear hown hb1 hb1' hd hb0
  go_wp2_with fail
  refine (P1 _).out.mono ?_
  rintro e w' ⟨rfl, rfl⟩
  go_wp2_with fail
  go_loopw [8] (fun i wr => ∃ k : Nat, k ≤ 32 ∧ p + k ≤ 8 * n1 ∧ i = .int .i64 k ∧ Head wr g (flipb p bs l k) ∧ Below w.heap.size w wr) (fun i _ => 32 - (intOf i).toNat)
  case atStart => exact ⟨0, Nat.zero_le _, by omega, rfl, HD.out, HB.out⟩
  case round =>
    obtain ⟨k, hk, hk2, rfl, hd, hbel⟩ := hrel
    have HD' := hid hd
    have BB := hid hbel
    clear hd hbel
    by_cases hlt : k < 32 ∧ p + k < 8 * n1
    · obtain ⟨hlt1, hlt2⟩ := hlt
      have h1 := shr_word bs k
      have HBIT := hid (bit_word bs k)
      obtain ⟨x, hx⟩ : ∃ x, x = bs >>> k := ⟨_, rfl⟩
      rw [← hx] at h1 HBIT
      clear hx
      have hw : IntKind.u64.wrap (k : Int) = (k : Int) := by
        simp [IntKind.wrap, IntKind.bits, IntKind.signed]; omega
      by_cases hodd : (x.toNat : Int) % 2 = 1
      · have hb : ((x.toNat : Int) % 2 == 1) = true := by simpa using hodd
        have HG : Hid (bs.getLsbD k = true) := hid (by have := HBIT.out; rw [hodd] at this; split at this <;> simp_all)
        clear hodd
        obtain ⟨j, hj⟩ : ∃ j, j = (p + k) / 8 := ⟨_, rfl⟩
        obtain ⟨m, hm⟩ : ∃ m, m = (p + k) % 8 := ⟨_, rfl⟩
        have hj1 : j < n1 := by omega
        have hm1 : m < 8 := by omega
        have q1 : ((p : Int) + (k : Int)) / 8 = (j : Int) := by omega
        have q2 : ((p : Int) + (k : Int)) % 8 = (m : Int) := by omega
        have q3 : ((p : Int) + (k : Int)).tdiv 8 = (j : Int) := by rw [Int.tdiv_eq_ediv_of_nonneg (by omega)]; exact q1
        have q4 : ((p : Int) + (k : Int)).tmod 8 = (m : Int) := by rw [Int.tmod_eq_emod_of_nonneg (by omega)]; exact q2
        have HJ := hid hj
        have HM := hid hm
        clear hj hm
        obtain ⟨hc, hf⟩ := HD'.out.get j (by rw [flipb_len, HL.out]; exact hj1)
        have HS : Hid (flipb p bs l (k + 1) = (flipb p bs l k).set j ((flipb p bs l k).getD j 0 ^^^ UInt8.ofNat (2 ^ m))) := hid (by rw [HJ.out, HM.out]; simp only [flipb]; rw [if_pos HG.out])
        generalize (flipb p bs l k).getD j 0 = y at hc HS
        have hsh : (2 : Int) ^ m % 256 = ((UInt8.ofNat (2 ^ m)).toNat : Int) := by
          have : ∀ m : Fin 8, (2 : Int) ^ m.val % 256 = ((UInt8.ofNat (2 ^ m.val)).toNat : Int) := by decide
          exact this ⟨m, hm1⟩
        have hxor := xor8 y (UInt8.ofNat (2 ^ m))
        generalize UInt8.ofNat (2 ^ m) = z at hsh HS hxor
        generalize y ^^^ z = yz at HS hxor
        have hw2 : IntKind.u64.wrap (m : Int) = (m : Int) := by
          simp [IntKind.wrap, IntKind.bits, IntKind.signed]; omega
        go_wp2_with fail
        go_roundw
        case rel =>
          refine ⟨k + 1, by omega, by omega, by go_num, ?_, BB.out.setCell hg' _⟩
          rw [HS.out]
          exact HD'.out.set j _
        case measure => simp [intOf]; omega
      · have hb : ((x.toNat : Int) % 2 == 1) = false := by simpa using hodd
        have HG : Hid (bs.getLsbD k = false) := hid (by have := HBIT.out; split at this <;> simp_all)
        clear hodd
        have HS : Hid (flipb p bs l (k + 1) = flipb p bs l k) := hid (by simp only [flipb]; rw [HG.out]; rfl)
        go_wp2_with fail
        go_roundw
        case rel => exact ⟨k + 1, by omega, by omega, by go_num, by rw [HS.out]; exact HD'.out, BB.out⟩
        case measure => simp [intOf]; omega
    · have hq : Below wr.heap.size wr wr := Below.refl _ _
      have hlf : (flipb p bs l k).length = n1 := by rw [flipb_len, HL.out]
      have r1 := sumof_q wr (some ⟨g, 0, none⟩) n1 c1 g (g + 1) (flipb p bs l k) _ (HD'.out.row hlf) HD'.out.lt hn rfl
      have r2 := sumof_q wr A n1 c 0 w.heap.size l _ (hR.below BB.out (Nat.le_refl _)) BB.out.size hn rfl
      have hbu := burst p bs l k hk (by rw [HL.out]; exact hk2)
      have r3 : ∀ W, Below wr.heap.size wr W → Calls Try.prog 13 #[.slice A n1 c, .slice (some ⟨g, 0, none⟩) n1 c1] W fun e w' => e = .returned (.bool (decide (l = flipb p bs l k))) ∧ Below w.heap.size w w' := by
        intro W h
        refine (same_any A _ n1 n1 c c1 0 w.heap.size g (g + 1) l _ W ((hR.below BB.out (Nat.le_refl _)).below h BB.out.size) ((HD'.out.row hlf).below h HD'.out.lt) hn).mono ?_
        rintro e w' ⟨rfl, q, rfl⟩
        exact ⟨rfl, below_drewN (BB.out.trans (h.mono BB.out.size)) q⟩
      generalize decide (l = flipb p bs l k) = D at hbu r3
      generalize crc 0#32 (Ws (flipb p bs l k)) = x1 at hbu r1
      generalize crc 0#32 (Ws l) = x2 at hbu r2
      have R1 := fun W h => hid (r1 W h)
      have R2 := fun W h => hid (r2 W h)
      have R3 := fun W h => hid (r3 W h)
      clear r1 r2 r3
      by_cases hk3 : k < 32
      · have hk4 : ¬ p + k < 8 * n1 := fun h => hlt ⟨hk3, h⟩
        clear hlt
        go_wp2_with fail
        refine (R1 _ hq).out.mono ?_
        rintro e w5 ⟨rfl, hq5⟩
        clear hq
        go_wp2_with fail
        refine (R2 _ hq5).out.mono ?_
        rintro e w6 ⟨rfl, hq6⟩
        clear hq5
        go_wp2_with fail
        refine (R3 _ hq6).out.mono ?_
        rintro e w7 ⟨rfl, hq7⟩
        clear hq6
        go_wp2_with fail
        go_ret
        exact ⟨rfl, hq7⟩
      · clear hlt
        go_wp2_with fail
        refine (R1 _ hq).out.mono ?_
        rintro e w5 ⟨rfl, hq5⟩
        clear hq
        go_wp2_with fail
        refine (R2 _ hq5).out.mono ?_
        rintro e w6 ⟨rfl, hq6⟩
        clear hq5
        go_wp2_with fail
        refine (R3 _ hq6).out.mono ?_
        rintro e w7 ⟨rfl, hq7⟩
        clear hq6
        go_wp2_with fail
        go_ret
        exact ⟨rfl, hq7⟩
end Go.Proofs.Ytooofipllklmgaa
