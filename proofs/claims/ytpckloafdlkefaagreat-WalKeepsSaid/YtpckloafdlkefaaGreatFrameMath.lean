/-
  Frames in plain words: a payload's frame, what is read of bytes, what is scanned of them; what follows.
-/
import Derived.Test.YtpckloafdlkefaaGreatMath
import Derived.Test.YtpckloafdlkefaaGreatSumMath
import Derived.Test.YtpckloafdlkefaaGreatSumStep
namespace Go.Proofs.YtpckloafdlkefaaGreat
set_option maxRecDepth 40000
open Regs

theorem num_inj {l m : List UInt8} (hl : l.length = m.length) (h : num l = num m) : l = m := by
  induction l generalizing m with
  | nil => cases m with
    | nil => rfl
    | cons => simp at hl
  | cons c r ih => cases m with
    | nil => simp at hl
    | cons d s =>
      simp only [num] at h
      have h1 := c.toNat_lt
      have h2 := d.toNat_lt
      have e1 : c.toNat = d.toNat := by omega
      have e2 : num r = num s := by omega
      rw [UInt8.toNat_inj.1 e1, ih (by simpa using hl) e2]
theorem putB_num (l : List UInt8) (k : Nat) (h : l.length = k) : putB (num l : Int) k = l := by
  refine num_inj (by rw [putB_len, h]) ?_
  rw [num_putB]
  have := num_lt l
  rw [h] at this
  simp only [Int.toNat_natCast]
  exact Nat.mod_eq_of_lt this
theorem num_put4 (x : Nat) (h : x < 4294967296) : num (putB (x : Int) 4) = x := by
  rw [num_putB, Int.toNat_natCast]
  exact Nat.mod_eq_of_lt (by have e : (256 : Nat) ^ 4 = 4294967296 := by decide
                             omega)

/-- The sum of bytes. -/
def csum (l : List UInt8) : BitVec 32 := crc 0#32 (Ws l)
theorem csum_lt (l : List UInt8) : (csum l).toNat < 4294967296 := (csum l).isLt
def hdr (p : List UInt8) : List UInt8 := putB (p.length : Int) 4
def chk (h p : List UInt8) : List UInt8 := putB ((csum (h ++ p)).toNat : Int) 4
def frm (p : List UInt8) : List UInt8 := (hdr p ++ chk (hdr p) p) ++ p
theorem hdr_len (p : List UInt8) : (hdr p).length = 4 := putB_len _ _
theorem chk_len (h p : List UInt8) : (chk h p).length = 4 := putB_len _ _
theorem frm_len (p : List UInt8) : (frm p).length = p.length + 8 := by
  unfold frm
  simp only [List.length_append, hdr_len, chk_len]
  omega

/-- What is read of the first frame: an error and nothing, or the payload and how long its frame is. -/
def one (b : List UInt8) : Int × List UInt8 × Nat :=
  if b.length < 8 then (5, [], 0)
  else if 33554432 < num (b.take 4) then (3, [], 0)
  else if b.length < 8 + num (b.take 4) then (5, [], 0)
  else if num ((b.drop 4).take 4) ≠ (csum (b.take 4 ++ (b.drop 8).take (num (b.take 4)))).toNat then (4, [], 0)
  else (0, (b.drop 8).take (num (b.take 4)), 8 + num (b.take 4))
theorem frm_take4 (p r : List UInt8) : (frm p ++ r).take 4 = hdr p := by
  unfold frm
  rw [List.append_assoc, List.append_assoc, List.take_append_of_le_length (by rw [hdr_len]; exact Nat.le_refl _), List.take_of_length_le (by rw [hdr_len]; exact Nat.le_refl _)]
theorem frm_drop4 (p r : List UInt8) : ((frm p ++ r).drop 4).take 4 = chk (hdr p) p := by
  unfold frm
  rw [List.append_assoc, List.append_assoc, List.drop_append_of_le_length (by rw [hdr_len]; exact Nat.le_refl _), List.drop_of_length_le (by rw [hdr_len]; exact Nat.le_refl _), List.nil_append, List.take_append_of_le_length (by rw [chk_len]; exact Nat.le_refl _), List.take_of_length_le (by rw [chk_len]; exact Nat.le_refl _)]
theorem frm_drop8 (p r : List UInt8) : (frm p ++ r).drop 8 = p ++ r := by
  unfold frm
  have h : (hdr p ++ chk (hdr p) p).length = 8 := by simp only [List.length_append, hdr_len, chk_len]
  rw [List.append_assoc, List.drop_append_of_le_length (by rw [h]; exact Nat.le_refl _), List.drop_of_length_le (by rw [h]; exact Nat.le_refl _), List.nil_append]
theorem num_hdr {p : List UInt8} (h : p.length ≤ 33554432) : num (hdr p) = p.length := num_put4 _ (by omega)
theorem one_frm {p : List UInt8} (h : p.length ≤ 33554432) (r : List UInt8) : one (frm p ++ r) = (0, p, 8 + p.length) := by
  have hl : (frm p ++ r).length = p.length + 8 + r.length := by rw [List.length_append, frm_len]
  unfold one
  rw [frm_take4, frm_drop4, frm_drop8, num_hdr h, hl]
  rw [if_neg (by omega), if_neg (by omega), if_neg (by omega)]
  rw [List.take_append_of_le_length (Nat.le_refl _), List.take_of_length_le (Nat.le_refl _)]
  rw [if_neg (by simp only [chk]; rw [num_put4 _ (csum_lt _)]; simp)]
/-- Whatever is read was a frame. -/
theorem one_ok {b p : List UInt8} {k : Nat} (h : one b = (0, p, k)) : p.length ≤ 33554432 ∧ k = 8 + p.length ∧ b = frm p ++ b.drop k ∧ k ≤ b.length := by
  unfold one at h
  split at h
  · simp at h
  · rename_i h1
    split at h
    · simp at h
    · rename_i h2
      split at h
      · simp at h
      · rename_i h3
        split at h
        · simp at h
        · rename_i h4
          simp only [Prod.mk.injEq, true_and] at h
          obtain ⟨hp, hk⟩ := h
          have hn : num (b.take 4) = p.length := by rw [← hp, List.length_take, List.length_drop]; omega
          rw [hp] at h4
          simp only [ne_eq, Decidable.not_not] at h4
          have t4 : (b.take 4).length = 4 := by rw [List.length_take]; omega
          have d4 : ((b.drop 4).take 4).length = 4 := by rw [List.length_take, List.length_drop]; omega
          have e1 : hdr p = b.take 4 := by unfold hdr; rw [← hn]; exact putB_num _ _ t4
          have e2 : chk (hdr p) p = (b.drop 4).take 4 := by unfold chk; rw [e1, ← h4]; exact putB_num _ _ d4
          refine ⟨by omega, by omega, ?_, by omega⟩
          unfold frm
          rw [e2, e1, ← hk]
          have e3 : b.take 4 ++ (b.drop 4).take 4 = b.take 8 := by
            rw [show (8 : Nat) = 4 + 4 from rfl, List.take_add]
          rw [e3, ← hp, List.append_assoc, ← List.drop_drop, List.take_append_drop, List.take_append_drop]
theorem one_zero {b : List UInt8} (h : (one b).1 = 0) : ∃ p k, one b = (0, p, k) := ⟨(one b).2.1, (one b).2.2, by rw [← h]⟩
theorem one_code (b : List UInt8) : (one b).1 ≠ 0 → (one b).2 = ([], 0) := by
  intro h
  unfold one at h ⊢
  split
  · rfl
  · split
    · rfl
    · split
      · rfl
      · split
        · rfl
        · rename_i h1 h2 h3 h4
          rw [if_neg h1, if_neg h2, if_neg h3, if_neg h4] at h
          exact absurd rfl h
/-- A frame that was cut is none. -/
theorem one_cut {p : List UInt8} (h : p.length ≤ 33554432) {k : Nat} (hk : k < (frm p).length) : (one ((frm p).take k)).1 ≠ 0 := by
  rw [frm_len] at hk
  unfold one
  have hl : ((frm p).take k).length = k := by rw [List.length_take, frm_len]; omega
  rw [hl]
  by_cases h8 : k < 8
  · rw [if_pos h8]; decide
  · rw [if_neg h8]
    have e : ((frm p).take k).take 4 = hdr p := by
      rw [List.take_take, Nat.min_eq_left (by omega)]
      have := frm_take4 p []
      rwa [List.append_nil] at this
    rw [e, num_hdr h, if_neg (by omega), if_pos (by omega)]
    decide

/-- Frames, one behind the other. -/
def flat (l : List (List UInt8)) : List UInt8 := l.flatMap frm
theorem flat_cons (p : List UInt8) (l : List (List UInt8)) : flat (p :: l) = frm p ++ flat l := by simp [flat]
theorem flat_append (l m : List (List UInt8)) : flat (l ++ m) = flat l ++ flat m := by simp [flat]
/-- What is scanned of bytes: payloads, and what is behind their frames. -/
structure Scans (b : List UInt8) (ps : List (List UInt8)) (r : List UInt8) : Prop where
  bytes : b = flat ps ++ r
  short : ∀ p ∈ ps, p.length ≤ 33554432
  stop : (one r).1 ≠ 0
theorem scans_step {b p : List UInt8} {k : Nat} (h : one b = (0, p, k)) {ps : List (List UInt8)} {r : List UInt8} (hs : Scans (b.drop k) ps r) : Scans b (p :: ps) r := by
  obtain ⟨h1, h2, h3, h4⟩ := one_ok h
  refine ⟨?_, fun q hq => ?_, hs.stop⟩
  · rw [flat_cons, List.append_assoc, ← hs.bytes]
    exact h3
  · rcases List.mem_cons.1 hq with rfl | hq
    · exact h1
    · exact hs.short q hq
theorem scans_unique {b : List UInt8} {ps qs : List (List UInt8)} {r s : List UInt8} (h : Scans b ps r) (h2 : Scans b qs s) : ps = qs ∧ r = s := by
  induction ps generalizing b qs with
  | nil =>
    have e : b = r := by have := h.bytes; simpa [flat] using this
    cases qs with
    | nil =>
      have e2 : b = s := by have := h2.bytes; simpa [flat] using this
      exact ⟨rfl, by rw [← e, e2]⟩
    | cons q qs =>
      exfalso
      have := h2.bytes
      rw [flat_cons, List.append_assoc] at this
      have h3 := h.stop
      rw [← e, this, one_frm (h2.short q (List.mem_cons_self))] at h3
      exact h3 rfl
  | cons p ps ih =>
    have hb := h.bytes
    rw [flat_cons, List.append_assoc] at hb
    have h1 := one_frm (h.short p (List.mem_cons_self)) (flat ps ++ r)
    cases qs with
    | nil =>
      exfalso
      have e2 : b = s := by have := h2.bytes; simpa [flat] using this
      have h3 := h2.stop
      rw [← e2, hb, h1] at h3
      exact h3 rfl
    | cons q qs =>
      have hb2 := h2.bytes
      rw [flat_cons, List.append_assoc] at hb2
      have h4 := one_frm (h2.short q (List.mem_cons_self)) (flat qs ++ s)
      rw [← hb2] at h4
      rw [← hb, h4] at h1
      simp only [Prod.mk.injEq, true_and] at h1
      obtain ⟨e, _⟩ := h1
      subst e
      have e3 : flat ps ++ r = flat qs ++ s := by
        have := hb.symm.trans hb2
        exact List.append_cancel_left this
      have := ih (b := flat ps ++ r) (qs := qs) ⟨rfl, fun x hx => h.short x (List.mem_cons_of_mem _ hx), h.stop⟩ ⟨e3, fun x hx => h2.short x (List.mem_cons_of_mem _ hx), h2.stop⟩
      exact ⟨by rw [this.1], this.2⟩
/-- Frames, with whatever is behind. -/
theorem scans_join {l ys : List (List UInt8)} {b r : List UInt8} (hl : ∀ p ∈ l, p.length ≤ 33554432) (h : Scans b ys r) : Scans (flat l ++ b) (l ++ ys) r := by
  refine ⟨by rw [flat_append, List.append_assoc, ← h.bytes], fun p hp => ?_, h.stop⟩
  rcases List.mem_append.1 hp with hp | hp
  · exact hl p hp
  · exact h.short p hp
theorem scans_nil : Scans [] [] [] := ⟨rfl, (fun p hp => by cases hp), by decide⟩
theorem scans_all {l : List (List UInt8)} (hl : ∀ p ∈ l, p.length ≤ 33554432) : Scans (flat l) l [] := by
  have := scans_join hl scans_nil
  simpa using this
/-- Cut anywhere, they are the first ones, as far as they are whole. -/
theorem scans_cut {l : List (List UInt8)} (hl : ∀ p ∈ l, p.length ≤ 33554432) (k : Nat) (hk : k ≤ (flat l).length) :
    ∃ n r, n ≤ l.length ∧ Scans ((flat l).take k) (l.take n) r ∧ (flat (l.take n)).length ≤ k ∧ (∀ m, m ≤ l.length → (flat (l.take m)).length ≤ k → m ≤ n) := by
  induction l generalizing k with
  | nil =>
    refine ⟨0, [], Nat.le_refl _, ?_, Nat.zero_le _, fun m hm _ => hm⟩
    have : (flat []).take k = [] := by simp [flat]
    rw [this]
    exact scans_nil
  | cons p l ih =>
    have hp := hl p (List.mem_cons_self)
    rcases Nat.lt_or_ge k (frm p).length with h | h
    · refine ⟨0, (frm p).take k, Nat.zero_le _, ⟨?_, (fun q hq => by cases hq), one_cut hp h⟩, Nat.zero_le _, fun m hm hm2 => ?_⟩
      · rw [flat_cons, List.take_append_of_le_length (Nat.le_of_lt h)]
        simp [flat]
      · cases m with
        | zero => exact Nat.le_refl _
        | succ m =>
          exfalso
          rw [List.take_succ_cons, flat_cons, List.length_append] at hm2
          omega
    · obtain ⟨n, r, h1, h2, h3, h4⟩ := ih (fun q hq => hl q (List.mem_cons_of_mem _ hq)) (k - (frm p).length) (by rw [flat_cons, List.length_append] at hk; omega)
      refine ⟨n + 1, r, by simpa using h1, ?_, ?_, fun m hm hm2 => ?_⟩
      · rw [flat_cons, List.take_append, List.take_of_length_le h, List.take_succ_cons]
        refine ⟨?_, fun q hq => ?_, h2.stop⟩
        · rw [flat_cons, List.append_assoc, ← h2.bytes]
        · rcases List.mem_cons.1 hq with rfl | hq
          · exact hp
          · exact h2.short q hq
      · rw [List.take_succ_cons, flat_cons, List.length_append]
        omega
      · cases m with
        | zero => omega
        | succ m =>
          rw [List.take_succ_cons, flat_cons, List.length_append] at hm2
          have := h4 m (by simpa using hm) (by omega)
          omega
end Go.Proofs.YtpckloafdlkefaaGreat
