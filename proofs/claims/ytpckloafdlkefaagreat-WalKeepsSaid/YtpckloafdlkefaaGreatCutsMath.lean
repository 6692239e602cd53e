/-
  Records that are numbered from one on, and a log of them that is cut: plain words for WalCuts.
-/
import Derived.Test.YtpckloafdlkefaaGreatWalA
namespace Go.Proofs.YtpckloafdlkefaaGreat
set_option maxRecDepth 40000
open Regs

def nr : Nat → List (List UInt8) → List Rec
  | _, [] => []
  | k, l :: ls => (k, l) :: nr (k + 1) ls
theorem nr_len (k : Nat) (ls : List (List UInt8)) : (nr k ls).length = ls.length := by
  induction ls generalizing k with
  | nil => rfl
  | cons l ls ih => simp [nr, ih]
theorem nr_get (k i : Nat) (ls : List (List UInt8)) : (nr k ls)[i]? = (ls[i]?).map fun l => (k + i, l) := by
  induction ls generalizing k i with
  | nil => simp [nr]
  | cons l ls ih =>
    cases i with
    | zero => simp [nr]
    | succ i => simp [nr, ih, Nat.add_assoc, Nat.add_comm 1 i]
theorem nr_append (k : Nat) (ls ms : List (List UInt8)) : nr k (ls ++ ms) = nr k ls ++ nr (k + ls.length) ms := by
  induction ls generalizing k with
  | nil => rfl
  | cons l ls ih => simp [nr, ih, Nat.add_assoc, Nat.add_comm 1 ls.length]
theorem nr_chain {nx : Option Nat} {k : Nat} (ls : List (List UInt8)) (h1 : 1 ≤ k) (h2 : k + ls.length ≤ 4611686018427387904) (h3 : nx = none ∨ nx = some k) : Chain nx (nr k ls) := by
  induction ls generalizing nx k with
  | nil => trivial
  | cons l ls ih =>
    rw [List.length_cons] at h2
    exact ⟨h1, by show k ≤ _; omega, h3, ih (by omega) (by omega) (.inr rfl)⟩
theorem nr_short {k : Nat} {ls : List (List UInt8)} (h : ∀ l ∈ ls, l.length ≤ 33554424) : ∀ r ∈ nr k ls, r.2.length ≤ 33554424 := by
  induction ls generalizing k with
  | nil => intro r hr; cases hr
  | cons l ls ih =>
    intro r hr
    rcases List.mem_cons.1 hr with rfl | hr
    · exact h l List.mem_cons_self
    · exact ih (fun x hx => h x (List.mem_cons_of_mem _ hx)) r hr
/-- How many bytes the first k records have. -/
def upTo (ls : List (List UInt8)) (k : Nat) : Nat := (logB (nr 1 (ls.take k))).length
theorem upTo_zero (ls : List (List UInt8)) : upTo ls 0 = 0 := by simp [upTo, nr, logB, flat]
theorem nr_next {ls : List (List UInt8)} {k : Nat} {l : List UInt8} (h : ls[k]? = some l) : nr 1 (ls.take (k + 1)) = nr 1 (ls.take k) ++ [(k + 1, l)] := by
  have hk : k < ls.length := (List.getElem?_eq_some_iff.1 h).1
  have e : ls.take (k + 1) = ls.take k ++ [l] := by rw [List.take_add_one, h]; rfl
  rw [e, nr_append, List.length_take, Nat.min_eq_left (by omega)]
  simp [nr, Nat.add_comm]
theorem upTo_next {ls : List (List UInt8)} {k : Nat} {l : List UInt8} (h : ls[k]? = some l) : upTo ls (k + 1) = upTo ls k + (16 + l.length) := by
  unfold upTo
  rw [nr_next h, logB_len_snoc]
theorem upTo_le {ls : List (List UInt8)} (h : ∀ l ∈ ls, l.length ≤ 100) (k : Nat) (hk : k ≤ ls.length) : upTo ls k ≤ 116 * k := by
  induction k with
  | zero => rw [upTo_zero]; exact Nat.zero_le _
  | succ k ih =>
    have hl : ls[k]? = some (ls[k]'(by omega)) := List.getElem?_eq_getElem _
    rw [upTo_next hl]
    have := ih (by omega)
    have := h _ (List.mem_of_getElem? hl)
    omega
theorem nr_nextOf (ls : List (List UInt8)) : nxt none (nr 1 ls) = if ls = [] then none else some (ls.length + 1) := by
  rcases List.eq_nil_or_concat ls with rfl | ⟨l, x, rfl⟩
  · rfl
  · rw [List.concat_eq_append, nr_append]
    simp only [nr]
    rw [nxt_snoc, if_neg (by simp), List.length_append]
    show some (1 + l.length + 1) = some (l.length + 1 + 1)
    rw [Nat.add_comm 1]
/-- The records of a log that is cut at c, where j records fit. -/
theorem cut_scans {ls : List (List UInt8)} (h : ∀ l ∈ ls, l.length ≤ 100) (hn : ls.length ≤ 60) {c j : Nat} (hj : j ≤ ls.length) (h1 : upTo ls j ≤ c) (h2 : j < ls.length → c < upTo ls (j + 1)) : WScans ((logB (nr 1 ls)).take c) (nr 1 (ls.take j)) := by
  have hs : ∀ r ∈ nr 1 (ls.take j), r.2.length ≤ 33554424 := nr_short fun l hl => by have := h l (List.mem_of_mem_take hl); omega
  have hch : Chain none (nr 1 (ls.take j)) := nr_chain _ (Nat.le_refl _) (by rw [List.length_take]; omega) (.inl rfl)
  rcases Nat.lt_or_ge j ls.length with hlt | hge
  · have hl : ls[j]? = some ls[j] := List.getElem?_eq_getElem _
    have hx := h _ (List.mem_of_getElem? hl)
    have e : nr 1 ls = nr 1 (ls.take (j + 1)) ++ nr (1 + (ls.take (j + 1)).length) (ls.drop (j + 1)) := by rw [← nr_append, List.take_append_drop]
    rw [e, nr_next hl, logB_append, logB_append, logB_one, List.append_assoc]
    have hc := h2 hlt
    rw [upTo_next hl] at hc
    have hfl : (frm (pay (j + 1, ls[j]))).length = 16 + ls[j].length := by rw [frm_len, pay_len]; show 8 + ls[j].length + 8 = _; omega
    have hu : upTo ls j = (logB (nr 1 (ls.take j))).length := rfl
    rw [List.take_append, List.take_of_length_le (by omega), List.take_append_of_le_length (by omega)]
    exact wscans_cut hch hs (j + 1, ls[j]) (by show ls[j].length ≤ _; omega) (by omega)
  · obtain rfl : j = ls.length := by omega
    rw [List.take_of_length_le (Nat.le_refl _)] at hch hs ⊢
    have hu : upTo ls ls.length = (logB (nr 1 ls)).length := by unfold upTo; rw [List.take_of_length_le (Nat.le_refl _)]
    rw [List.take_of_length_le (by omega)]
    exact wscans_log hch hs
end Go.Proofs.YtpckloafdlkefaaGreat
