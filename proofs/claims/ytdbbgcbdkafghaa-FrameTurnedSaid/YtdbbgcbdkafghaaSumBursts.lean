/-
  The walk of SumBursts.
-/
import Derived.Test.YtdbbgcbdkafghaaSumLinear
namespace Go.Proofs.Ytdbbgcbdkafghaa
open Go.RowKit Regs

/-- Block g begins with these bytes; what lies behind them is spare. -/
def Head (w : World) (g : Nat) (l : List UInt8) : Prop := ∃ cur, Blk w g 5 cur ∧ cur.toList.take l.length = U l
theorem Head.of_own {w : World} {base n : Nat} {A : Option Addr} {c : Nat} {l : List UInt8} (h : w.ownsRow base 5 1 (.slice A n c) n (U l)) (hn : 0 < n) : ∃ g, A = some ⟨g, 0, none⟩ ∧ base ≤ g ∧ n ≤ c ∧ Head w g l := by
  have hl : l.length = n := by have := h.1; rw [U_len] at this; omega
  rcases h.2 with ⟨_, h0⟩ | ⟨g, cap, cur, hv, hg, hb, hc, _, hs, ht⟩
  · omega
  · injection hv with h1 h2 h3
    subst h3
    refine ⟨g, h1, hg, hc, cur, hb, ?_⟩
    rw [hl]; simpa using ht
theorem Head.lt {w : World} {g : Nat} {l : List UInt8} (h : Head w g l) : g < w.heap.size := by obtain ⟨cur, hb, _⟩ := h; exact hb.lt
theorem Head.below {w w' : World} {g : Nat} {l : List UInt8} (h : Head w g l) (hb : Below w.heap.size w w') : Head w' g l := by
  obtain ⟨cur, h1, h2⟩ := h
  exact ⟨cur, h1.below hb h1.lt, h2⟩
theorem Head.get {w : World} {g : Nat} {l : List UInt8} (h : Head w g l) (k : Nat) (hk : k < l.length) : w.cell? ⟨g, k, none⟩ = some (.int .u8 ((l.getD k 0).toNat : Int)) ∧ w.frozen? ⟨g, k, none⟩ = false := by
  obtain ⟨cur, h1, h2⟩ := h
  refine ⟨?_, h1.frozen k⟩
  rw [h1.cell k]
  have : (cur.toList.take l.length)[k]? = (U l)[k]? := by rw [h2]
  rw [List.getElem?_take, if_pos hk, U_get l k hk] at this
  simpa [hk] using this
theorem Head.row {w : World} {g : Nat} {l : List UInt8} {n : Nat} (h : Head w g l) (hn : l.length = n) : Row w g (g + 1) (some ⟨g, 0, none⟩) n (U l) := by
  subst hn
  refine ⟨U_len l, fun _ => ⟨g, 0, rfl, Nat.le_refl _, Nat.lt_succ_self _, fun j u hu => ?_⟩⟩
  have hj : j < l.length := by have := (List.getElem?_eq_some_iff.1 hu).1; rwa [U_len] at this
  rw [Nat.zero_add, (h.get j hj).1]
  rw [U_get l j hj] at hu
  simpa [hj] using hu
theorem Head.set {w : World} {g : Nat} {l : List UInt8} (h : Head w g l) (k : Nat) (y : UInt8) : Head (w.setCell ⟨g, k, none⟩ (.int .u8 (y.toNat : Int))) g (l.set k y) := by
  obtain ⟨cur, h1, h2⟩ := h
  refine ⟨_, h1.set k _, ?_⟩
  rw [List.length_set, Array.toList_setIfInBounds, List.take_set, h2]
  simp [U, List.map_set]

/-- Bits turned, byte by byte. -/
def flipb (p : Nat) (w : BitVec 32) (l : List UInt8) : Nat → List UInt8
  | 0 => l
  | k + 1 => let c := flipb p w l k
    if w.getLsbD k then c.set ((p + k) / 8) (c.getD ((p + k) / 8) 0 ^^^ UInt8.ofNat (2 ^ ((p + k) % 8))) else c
theorem flipb_len (p : Nat) (w : BitVec 32) (l : List UInt8) (k : Nat) : (flipb p w l k).length = l.length := by
  induction k with
  | zero => rfl
  | succ k ih => simp only [flipb]; split <;> simp [ih]
theorem b8_shl (j : Nat) (hj : j < 8) : B8 (UInt8.ofNat (2 ^ j)) = 1#32 <<< j := by
  have : ∀ j : Fin 8, B8 (UInt8.ofNat (2 ^ j.val)) = 1#32 <<< j.val := by decide
  exact this ⟨j, hj⟩
theorem ws_getD (l : List UInt8) (i : Nat) : (Ws l).getD i 0#32 = B8 (l.getD i 0) := by
  by_cases h : i < l.length
  · simp [Ws, h]
  · simp [Ws, List.getElem?_eq_none (Nat.le_of_not_lt h)]
    decide
theorem flipb_ws (p : Nat) (w : BitVec 32) (l : List UInt8) (k : Nat) : Ws (flipb p w l k) = flips p w (Ws l) k := by
  induction k with
  | zero => rfl
  | succ k ih =>
    simp only [flipb, flips]
    rw [← ih]
    split
    · rw [ws_getD, ← b8_shl _ (Nat.mod_lt _ (by omega)), ← b8_xor]
      simp [Ws, List.map_set]
    · rfl
theorem b8_inj {x y : UInt8} (h : B8 x = B8 y) : x = y := by
  have h1 := b8_nat x
  have h2 := b8_nat y
  rw [h] at h1
  exact UInt8.toNat_inj.1 (by omega)
theorem ws_inj {l m : List UInt8} (h : Ws l = Ws m) : l = m := by
  induction l generalizing m with
  | nil => cases m with
    | nil => rfl
    | cons => simp [Ws] at h
  | cons x l ih => cases m with
    | nil => simp [Ws] at h
    | cons y m =>
      simp only [Ws, List.map_cons, List.cons.injEq] at h
      rw [b8_inj h.1, ih h.2]
/-- The sums are the same just where the bytes are. -/
theorem burst (p : Nat) (w : BitVec 32) (l : List UInt8) (k : Nat) (hk : k ≤ 32) (h : p + k ≤ 8 * l.length) :
    (((crc 0#32 (Ws (flipb p w l k))).toNat : Int) == ((crc 0#32 (Ws l)).toNat : Int)) = decide (l = flipb p w l k) := by
  rw [Bool.eq_iff_iff, beq_iff_eq, decide_eq_true_iff]
  have hs := flips_same (~~~ 0#32) p w (Ws l) k hk (by rw [ws_len]; exact h)
  rw [← crc_inj, ← flipb_ws] at hs
  constructor
  · intro e
    exact (ws_inj (hs.1 (BitVec.eq_of_toNat_eq (by omega)))).symm
  · intro e
    rw [hs.2 (by rw [← e])]

end Go.Proofs.Ytdbbgcbdkafghaa
