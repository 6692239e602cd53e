/-
  A register of 32 bits that is moved by steps (CRC-32C): the step is additive and injective; bytes, bytes behind bytes, noughts, a bit changed, and a matrix of what becomes of each bit. Plain words.
-/
namespace Go.Proofs.YtpckloafdlkefaaGreat.Regs
set_option maxRecDepth 40000

/-- One step: moved to the right, and the word taken in if a one went out. -/
def st (r : BitVec 32) : BitVec 32 := (r >>> 1) ^^^ (if r.getLsbD 0 then 0x82f63b78#32 else 0#32)
theorem st_xor (a b : BitVec 32) : st (a ^^^ b) = st a ^^^ st b := by
  unfold st
  rw [BitVec.ushiftRight_xor_distrib, BitVec.getLsbD_xor]
  cases a.getLsbD 0 <;> cases b.getLsbD 0 <;> simp
  · rw [BitVec.xor_assoc]
  · rw [BitVec.xor_assoc, BitVec.xor_assoc, BitVec.xor_comm (b >>> 1)]
  · rw [show a >>> 1 ^^^ 2197175160#32 ^^^ (b >>> 1 ^^^ 2197175160#32) = a >>> 1 ^^^ b >>> 1 ^^^ (2197175160#32 ^^^ 2197175160#32) by ac_rfl]
    simp
theorem st_zero : st 0#32 = 0#32 := by decide
theorem st_msb (a : BitVec 32) : (st a).getLsbD 31 = a.getLsbD 0 := by
  unfold st
  rw [BitVec.getLsbD_xor, BitVec.getLsbD_ushiftRight]
  have h : a.getLsbD (1 + 31) = false := BitVec.getLsbD_of_ge _ _ (by omega)
  rw [h]
  cases a.getLsbD 0 <;> decide
theorem st_null (a : BitVec 32) (h : st a = 0#32) : a = 0#32 := by
  have h0 : a.getLsbD 0 = false := by rw [← st_msb, h]; decide
  have h1 : a >>> 1 = 0#32 := by
    have := h; unfold st at this; rw [h0] at this; simpa using this
  apply BitVec.eq_of_getLsbD_eq
  intro i hi
  rcases i with _ | i
  · rw [h0]; decide
  · have := congrArg (fun x => BitVec.getLsbD x i) h1
    simp only [BitVec.getLsbD_ushiftRight] at this
    rw [show i + 1 = 1 + i by omega, this]
    simp

/-- So many steps. -/
def stn : Nat → BitVec 32 → BitVec 32
  | 0, r => r
  | n + 1, r => stn n (st r)
theorem stn_add (n m : Nat) (r : BitVec 32) : stn (n + m) r = stn m (stn n r) := by
  induction n generalizing r with
  | zero => simp [stn]
  | succ n ih => rw [show n + 1 + m = (n + m) + 1 by omega]; simp only [stn]; exact ih _
theorem stn_xor (n : Nat) (a b : BitVec 32) : stn n (a ^^^ b) = stn n a ^^^ stn n b := by
  induction n generalizing a b with
  | zero => rfl
  | succ n ih => simp only [stn, st_xor, ih]
theorem stn_zero (n : Nat) : stn n 0#32 = 0#32 := by
  induction n with
  | zero => rfl
  | succ n ih => simp only [stn, st_zero, ih]
theorem stn_null (n : Nat) (a : BitVec 32) (h : stn n a = 0#32) : a = 0#32 := by
  induction n generalizing a with
  | zero => exact h
  | succ n ih => exact st_null a (ih _ h)
theorem xor_null {a b : BitVec 32} (h : a ^^^ b = 0#32) : a = b := by
  have : a ^^^ b ^^^ b = b := by rw [h]; simp
  rw [BitVec.xor_assoc] at this; simpa using this
theorem stn_inj (n : Nat) (a b : BitVec 32) (h : stn n a = stn n b) : a = b := by
  apply xor_null
  apply stn_null n
  rw [stn_xor, h]; simp
/-- A one at place k is at place 0 behind k steps. -/
theorem stn_one (k : Nat) (hk : k < 32) : stn k (1#32 <<< k) = 1#32 := by
  have : ∀ k : Fin 32, stn k.val (1#32 <<< k.val) = 1#32 := by decide
  exact this ⟨k, hk⟩

/-- The register behind a byte (as a word), and behind bytes. -/
def byt (r c : BitVec 32) : BitVec 32 := stn 8 (r ^^^ c)
def reg (r : BitVec 32) (l : List (BitVec 32)) : BitVec 32 := l.foldl byt r
theorem reg_nil (r : BitVec 32) : reg r [] = r := rfl
theorem reg_cons (r c : BitVec 32) (l : List (BitVec 32)) : reg r (c :: l) = reg (byt r c) l := rfl
theorem reg_append (r : BitVec 32) (x y : List (BitVec 32)) : reg r (x ++ y) = reg (reg r x) y := by simp [reg]
theorem byt_xor (r d c e : BitVec 32) : byt (r ^^^ d) (c ^^^ e) = byt r c ^^^ byt d e := by
  unfold byt
  rw [← stn_xor]
  congr 1
  ac_rfl
theorem byt_zero (r : BitVec 32) : byt r 0#32 = stn 8 r := by simp [byt]
theorem reg_xor (r d : BitVec 32) (l : List (BitVec 32)) : reg (r ^^^ d) l = reg r l ^^^ stn (8 * l.length) d := by
  induction l generalizing r d with
  | nil => rfl
  | cons c l ih =>
    have h := byt_xor r d c 0#32
    rw [BitVec.xor_zero, byt_zero] at h
    rw [reg_cons, reg_cons, h, ih, List.length_cons, show 8 * (l.length + 1) = 8 + 8 * l.length by omega, stn_add]
theorem reg_noughts (r : BitVec 32) (n : Nat) : reg r (List.replicate n 0#32) = stn (8 * n) r := by
  induction n generalizing r with
  | zero => rfl
  | succ n ih => rw [List.replicate_succ, reg_cons, byt_zero, ih, show 8 * (n + 1) = 8 + 8 * n by omega, stn_add]
theorem reg_zip (r q : BitVec 32) (x y : List (BitVec 32)) (h : x.length = y.length) : reg (r ^^^ q) (List.zipWith (· ^^^ ·) x y) = reg r x ^^^ reg q y := by
  induction x generalizing r q y with
  | nil => cases y with
    | nil => rfl
    | cons => simp at h
  | cons c x ih => cases y with
    | nil => simp at h
    | cons e y => rw [List.zipWith_cons_cons, reg_cons, reg_cons, reg_cons, byt_xor, ih _ _ _ (by simpa using h)]

/-- A bit of a byte turned: what becomes of the register. -/
theorem reg_flip (r : BitVec 32) (l : List (BitVec 32)) (i j : Nat) (hi : i < l.length) (hj : j < 8) : reg r (l.set i (l[i] ^^^ (1#32 <<< j))) = reg r l ^^^ stn (8 * l.length - (8 * i + j)) 1#32 := by
  induction l generalizing r i with
  | nil => simp at hi
  | cons c l ih =>
    cases i with
    | zero =>
      have h := byt_xor r 0#32 c (1#32 <<< j)
      rw [BitVec.xor_zero] at h
      rw [List.set_cons_zero, reg_cons, reg_cons, List.getElem_cons_zero, h, reg_xor]
      congr 1
      rw [byt, BitVec.zero_xor, ← stn_add, List.length_cons, show 8 + 8 * l.length = j + (8 * (l.length + 1) - (8 * 0 + j)) by omega, stn_add, stn_one j (by omega)]
    | succ i =>
      have hi' : i < l.length := by simpa using hi
      rw [List.set_cons_succ, reg_cons, reg_cons, List.getElem_cons_succ, ih _ i hi', List.length_cons]
      congr 2
      omega
/-- The same, told from the place `at` on. -/
theorem reg_flip_at (r : BitVec 32) (l : List (BitVec 32)) (p k : Nat) (hk : k < 32) (h : p + k < 8 * l.length) : reg r (l.set ((p + k) / 8) (l[(p + k) / 8]'(by omega) ^^^ (1#32 <<< ((p + k) % 8)))) = reg r l ^^^ stn (8 * l.length - p) (1#32 <<< k) := by
  rw [reg_flip r l _ _ (by omega) (by omega)]
  congr 1
  rw [show 8 * l.length - p = k + (8 * l.length - (8 * ((p + k) / 8) + (p + k) % 8)) by omega, stn_add, stn_one k hk]

/-- The sum of bytes behind such whose sum is s. -/
def crc (s : BitVec 32) (l : List (BitVec 32)) : BitVec 32 := ~~~ (reg (~~~ s) l)
theorem crc_nil (s : BitVec 32) : crc s [] = s := by simp [crc, reg]
theorem crc_append (s : BitVec 32) (x y : List (BitVec 32)) : crc (crc s x) y = crc s (x ++ y) := by
  simp [crc, reg_append]
theorem not_eq (a : BitVec 32) : ~~~ a = a ^^^ BitVec.allOnes 32 := BitVec.xor_allOnes.symm
theorem ones_not (a : BitVec 32) : (~~~ 0#32) ^^^ (~~~ a) = a := by
  apply BitVec.eq_of_getLsbD_eq
  intro i hi
  rw [BitVec.getLsbD_xor, BitVec.getLsbD_not, BitVec.getLsbD_not, BitVec.getLsbD_zero]
  simp [hi]
theorem crc_join (x y : List (BitVec 32)) : stn (8 * y.length) (crc 0#32 x) ^^^ crc 0#32 y = crc 0#32 (x ++ y) := by
  have h := reg_xor (~~~ 0#32) (crc 0#32 x) y
  have e : (~~~ 0#32) ^^^ crc 0#32 x = reg (~~~ 0#32) x := ones_not _
  rw [e] at h
  rw [show crc 0#32 (x ++ y) = ~~~ (reg (reg (~~~ 0#32) x) y) by simp [crc, reg_append], h, show crc 0#32 y = ~~~ (reg (~~~ 0#32) y) from rfl, not_eq, not_eq]
  ac_rfl
theorem crc_noughts (s : BitVec 32) (n : Nat) : crc s (List.replicate n 0#32) = ~~~ (stn (8 * n) (~~~ s)) := by
  rw [crc, reg_noughts]
theorem crc_inj (s : BitVec 32) (x y : List (BitVec 32)) : crc s x = crc s y ↔ reg (~~~ s) x = reg (~~~ s) y := by
  unfold crc
  constructor
  · intro h; exact BitVec.not_inj.mp h
  · intro h; rw [h]

/-- What a matrix (of what becomes of each bit) makes of a word, its first k bits. -/
def tms (m : Nat → BitVec 32) (r : BitVec 32) : Nat → BitVec 32
  | 0 => 0#32
  | k + 1 => tms m r k ^^^ (if r.getLsbD k then m k else 0#32)
theorem tms_congr (m q : Nat → BitVec 32) (r : BitVec 32) (k : Nat) (h : ∀ i, i < k → m i = q i) : tms m r k = tms q r k := by
  induction k with
  | zero => rfl
  | succ k ih => rw [tms, tms, ih (fun i hi => h i (by omega)), h k (by omega)]
theorem tms_bits (r : BitVec 32) (k : Nat) (hk : k ≤ 32) (i : Nat) : (tms (fun j => 1#32 <<< j) r k).getLsbD i = (decide (i < k) && r.getLsbD i) := by
  induction k with
  | zero => simp [tms]
  | succ k ih =>
    rw [tms, BitVec.getLsbD_xor, ih (by omega)]
    by_cases hik : i = k
    · subst hik
      cases h : r.getLsbD i
      · simp
      · simp; omega
    · have h1 : (decide (i < k + 1)) = decide (i < k) := by
        apply decide_eq_decide.mpr; omega
      rw [h1]
      cases h : r.getLsbD k
      · simp
      · have h2 : (1#32 <<< k).getLsbD i = false := by
          rw [BitVec.getLsbD_shiftLeft]
          by_cases h3 : i < k
          · simp [h3]
          · have h4 : ¬ (i - k = 0) := by omega
            simp [h4]
        simp only [if_true, h2, Bool.xor_false]
theorem tms_one (r : BitVec 32) : tms (fun j => 1#32 <<< j) r 32 = r := by
  apply BitVec.eq_of_getLsbD_eq
  intro i hi
  rw [tms_bits r 32 (by omega)]
  simp [hi]
theorem tms_of (f : BitVec 32 → BitVec 32) (f0 : f 0#32 = 0#32) (fx : ∀ a b, f (a ^^^ b) = f a ^^^ f b) (r : BitVec 32) (k : Nat) : tms (fun j => f (1#32 <<< j)) r k = f (tms (fun j => 1#32 <<< j) r k) := by
  induction k with
  | zero => simp [tms, f0]
  | succ k ih => rw [tms, tms, fx, ih]; split <;> simp [f0]
/-- A matrix of what n steps make of each bit makes of a word what n steps make of it. -/
theorem tms_stn (n : Nat) (r : BitVec 32) : tms (fun j => stn n (1#32 <<< j)) r 32 = stn n r := by
  rw [tms_of (stn n) (stn_zero n) (stn_xor n), tms_one]
theorem tms_stn' (m : Nat → BitVec 32) (n : Nat) (r : BitVec 32) (h : ∀ i, i < 32 → m i = stn n (1#32 <<< i)) : tms m r 32 = stn n r := by
  rw [tms_congr m _ r 32 h, tms_stn]

/-- Bits taken one by one: changes within 32 side by side change the register. -/
def flips (p : Nat) (w : BitVec 32) (l : List (BitVec 32)) : Nat → List (BitVec 32)
  | 0 => l
  | k + 1 => let c := flips p w l k
    if w.getLsbD k then c.set ((p + k) / 8) (c.getD ((p + k) / 8) 0#32 ^^^ (1#32 <<< ((p + k) % 8))) else c
theorem flips_len (p : Nat) (w : BitVec 32) (l : List (BitVec 32)) (k : Nat) : (flips p w l k).length = l.length := by
  induction k with
  | zero => rfl
  | succ k ih => simp only [flips]; split <;> simp [ih]
theorem flips_reg (r : BitVec 32) (p : Nat) (w : BitVec 32) (l : List (BitVec 32)) (k : Nat) (hk : k ≤ 32) (h : p + k ≤ 8 * l.length) : reg r (flips p w l k) = reg r l ^^^ stn (8 * l.length - p) (tms (fun j => 1#32 <<< j) w k) := by
  induction k with
  | zero => simp [flips, tms, stn_zero]
  | succ k ih =>
    have ih' := ih (by omega) (by omega)
    have hl := flips_len p w l k
    simp only [flips, tms]
    by_cases hb : w.getLsbD k = true
    · rw [if_pos hb, if_pos hb, stn_xor, ← BitVec.xor_assoc, ← ih']
      have hf := reg_flip_at r (flips p w l k) p k (by omega) (by omega)
      rw [List.getD_eq_getElem?_getD, List.getElem?_eq_getElem (by omega), Option.getD_some, hf, hl]
    · rw [if_neg hb, if_neg hb, BitVec.xor_zero]; exact ih'
theorem flips_none (p : Nat) (w : BitVec 32) (l : List (BitVec 32)) (k : Nat) (h : ∀ i, i < k → w.getLsbD i = false) : flips p w l k = l := by
  induction k with
  | zero => rfl
  | succ k ih => simp only [flips]; rw [h k (by omega), ih (fun i hi => h i (by omega))]; simp
/-- The register is the same only where nothing was changed. -/
theorem flips_same (r : BitVec 32) (p : Nat) (w : BitVec 32) (l : List (BitVec 32)) (k : Nat) (hk : k ≤ 32) (h : p + k ≤ 8 * l.length) : reg r (flips p w l k) = reg r l ↔ flips p w l k = l := by
  constructor
  · intro e
    rw [flips_reg r p w l k hk h] at e
    have e2 : stn (8 * l.length - p) (tms (fun j => 1#32 <<< j) w k) = 0#32 := by
      have := congrArg (fun x => reg r l ^^^ x) e
      simp only [← BitVec.xor_assoc, BitVec.xor_self, BitVec.zero_xor] at this
      exact this
    have e3 := stn_null _ _ e2
    apply flips_none
    intro i hi
    have := tms_bits w k hk i
    rw [e3] at this
    simpa [hi] using this.symm
  · intro e; rw [e]
/-- Joined in whatever brackets. -/
theorem join_brackets (a b c : BitVec 32) (n m : Nat) : stn (8 * m) (stn (8 * n) a ^^^ b) ^^^ c = stn (8 * (n + m)) a ^^^ (stn (8 * m) b ^^^ c) := by
  rw [stn_xor, ← stn_add, Nat.mul_add, BitVec.xor_assoc]
/-- Three rows of one length. -/
theorem crc_three (x y z : List (BitVec 32)) (hy : x.length = y.length) (hz : x.length = z.length) : crc 0#32 x ^^^ crc 0#32 y ^^^ crc 0#32 z = crc 0#32 (List.zipWith (· ^^^ ·) (List.zipWith (· ^^^ ·) x y) z) := by
  unfold crc
  have h := reg_zip (~~~ 0#32 ^^^ ~~~ 0#32) (~~~ 0#32) (List.zipWith (· ^^^ ·) x y) z (by simp; omega)
  rw [reg_zip _ _ x y hy, BitVec.xor_self, BitVec.zero_xor] at h
  rw [h]
  generalize reg (~~~ 0#32) x = p
  generalize reg (~~~ 0#32) y = q
  generalize reg (~~~ 0#32) z = s
  rw [not_eq p, not_eq q, not_eq s, not_eq (p ^^^ q ^^^ s)]
  generalize BitVec.allOnes 32 = o
  rw [show p ^^^ o ^^^ (q ^^^ o) ^^^ (s ^^^ o) = p ^^^ q ^^^ s ^^^ o ^^^ (o ^^^ o) by ac_rfl]
  simp
/-- By halves: what is left to do, and the matrix of what one of it does. -/
theorem halves_odd (q n : Nat) (r : BitVec 32) (h : n % 2 = 1) : stn (q * n) r = stn (2 * q * (n / 2)) (stn q r) := by
  rw [← stn_add]
  congr 1
  have : n = 2 * (n / 2) + 1 := by omega
  calc q * n = q * (2 * (n / 2) + 1) := by rw [← this]
    _ = q + 2 * q * (n / 2) := by rw [Nat.mul_add, Nat.mul_one, ← Nat.mul_assoc, Nat.mul_comm q 2, Nat.add_comm]
theorem halves_even (q n : Nat) (r : BitVec 32) (h : ¬ n % 2 = 1) : stn (q * n) r = stn (2 * q * (n / 2)) r := by
  congr 1
  have : n = 2 * (n / 2) := by omega
  calc q * n = q * (2 * (n / 2)) := by rw [← this]
    _ = 2 * q * (n / 2) := by rw [← Nat.mul_assoc, Nat.mul_comm q 2]
theorem square (q : Nat) (m : Nat → BitVec 32) (h : ∀ i, i < 32 → m i = stn q (1#32 <<< i)) (i : Nat) (hi : i < 32) : tms m (m i) 32 = stn (2 * q) (1#32 <<< i) := by
  rw [tms_stn' m q _ h, h i hi, ← stn_add, show q + q = 2 * q by omega]
/-- Noughts that go out take nothing in. -/
theorem stn_high (k : Nat) (x : BitVec 32) (h : ∀ i, i < k → x.getLsbD i = false) : stn k x = x >>> k := by
  induction k generalizing x with
  | zero => simp [stn]
  | succ k ih =>
    have e : st x = x >>> 1 := by rw [st, h 0 (by omega)]; simp
    rw [stn, e, ih]
    · apply BitVec.eq_of_getLsbD_eq
      intro i hi
      rw [BitVec.getLsbD_ushiftRight, BitVec.getLsbD_ushiftRight, BitVec.getLsbD_ushiftRight]
      congr 1; omega
    · intro i hi
      rw [BitVec.getLsbD_ushiftRight]; exact h _ (by omega)
/-- By a table of what eight steps make of a byte. -/
theorem byt_table (r c : BitVec 32) (hc : c.toNat < 256) : byt r c = (r >>> 8) ^^^ stn 8 ((r ^^^ c) &&& 255#32) := by
  have bit : ∀ i, 8 ≤ i → c.getLsbD i = false := by
    intro i hi
    rw [BitVec.getLsbD]
    exact Nat.testBit_lt_two_pow (Nat.lt_of_lt_of_le hc (Nat.pow_le_pow_right (n := 2) (by omega) hi))
  have low : ∀ i, (255#32).getLsbD i = decide (i < 8) := by
    intro i
    by_cases h : i < 32
    · have : ∀ i : Fin 32, (255#32).getLsbD i.val = decide (i.val < 8) := by decide
      exact this ⟨i, h⟩
    · rw [BitVec.getLsbD_of_ge _ _ (by omega)]
      exact (decide_eq_false (by omega)).symm
  have e : r ^^^ c = ((r ^^^ c) &&& ~~~ 255#32) ^^^ ((r ^^^ c) &&& 255#32) := by
    apply BitVec.eq_of_getLsbD_eq
    intro i hi
    simp only [BitVec.getLsbD_xor, BitVec.getLsbD_and, BitVec.getLsbD_not, low, hi, decide_true, Bool.true_and]
    by_cases h8 : i < 8 <;> simp [h8]
  have f : stn 8 ((r ^^^ c) &&& ~~~ 255#32) = r >>> 8 := by
    rw [stn_high 8]
    · apply BitVec.eq_of_getLsbD_eq
      intro i hi
      rw [BitVec.getLsbD_ushiftRight, BitVec.getLsbD_ushiftRight, BitVec.getLsbD_and, BitVec.getLsbD_xor, BitVec.getLsbD_not, low, bit (8 + i) (by omega)]
      by_cases h : 8 + i < 32
      · have h9 : ¬ (8 + i < 8) := by omega
        simp only [h, h9, decide_true, decide_false, Bool.not_false, Bool.and_true, Bool.xor_false]
      · rw [BitVec.getLsbD_of_ge r _ (by omega)]; simp
    · intro i hi
      rw [BitVec.getLsbD_and, BitVec.getLsbD_not, low]; simp [hi]
  unfold byt
  conv => lhs; rw [e, stn_xor, f]
end Go.Proofs.YtpckloafdlkefaaGreat.Regs
