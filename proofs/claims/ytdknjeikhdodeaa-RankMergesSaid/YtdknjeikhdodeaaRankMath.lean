/-
  Nearer and nearest: pairs of a distance and an id, put in order, and the first k of them. Plain lists.
-/
import Derived.WalkKit
namespace Go.Proofs.Ytdknjeikhdodeaa

/-- a is nearer than b. -/
def nlt (a b : Int × Int) : Bool := decide (a.1 < b.1 ∨ (a.1 = b.1 ∧ a.2 < b.2))
theorem nlt_iff {a b : Int × Int} : nlt a b = true ↔ a.1 < b.1 ∨ (a.1 = b.1 ∧ a.2 < b.2) := by simp [nlt]
theorem nlt_no {a b : Int × Int} : nlt a b = false ↔ b.1 < a.1 ∨ (a.1 = b.1 ∧ b.2 ≤ a.2) := by
  simp only [nlt, decide_eq_false_iff_not]
  omega
/-- b is not nearer than a. -/
def nle (a b : Int × Int) : Prop := nlt b a = false
theorem nle_refl (a : Int × Int) : nle a a := nlt_no.2 (by omega)
theorem nle_trans {a b c : Int × Int} (h : nle a b) (h2 : nle b c) : nle a c := by
  have h3 := nlt_no.1 h
  have h4 := nlt_no.1 h2
  exact nlt_no.2 (by omega)
theorem nle_antisymm {a b : Int × Int} (h : nle a b) (h2 : nle b a) : a = b := by
  have h3 := nlt_no.1 h
  have h4 := nlt_no.1 h2
  exact Prod.ext (by omega) (by omega)
theorem nle_of_nlt {a b : Int × Int} (h : nlt a b = true) : nle a b := by
  have h3 := nlt_iff.1 h
  exact nlt_no.2 (by omega)
theorem nle_total (a b : Int × Int) : nle a b ∨ nle b a := by
  cases h : nlt b a
  · exact .inl h
  · exact .inr (nle_of_nlt h)

/-- One into some that stand from the nearest on. -/
def ins : List (Int × Int) → Int × Int → List (Int × Int)
  | [], n => [n]
  | x :: l, n => if nlt n x = true then n :: x :: l else x :: ins l n
/-- From the nearest on. -/
def Ord (l : List (Int × Int)) : Prop := l.Pairwise nle
theorem ins_perm (l : List (Int × Int)) (n : Int × Int) : (ins l n).Perm (n :: l) := by
  induction l with
  | nil => exact List.Perm.refl _
  | cons x l ih =>
    unfold ins
    split
    · exact List.Perm.refl _
    · exact (ih.cons x).trans (List.Perm.swap n x l)
theorem ins_len (l : List (Int × Int)) (n : Int × Int) : (ins l n).length = l.length + 1 := by
  rw [(ins_perm l n).length_eq, List.length_cons]
theorem ins_ord {l : List (Int × Int)} (n : Int × Int) (h : Ord l) : Ord (ins l n) := by
  induction l with
  | nil => exact List.pairwise_singleton _ _
  | cons x l ih =>
    obtain ⟨h1, h2⟩ := List.pairwise_cons.1 h
    unfold ins
    split
    · rename_i hn
      refine List.pairwise_cons.2 ⟨fun y hy => ?_, h⟩
      rcases List.mem_cons.1 hy with rfl | hy
      · exact nle_of_nlt hn
      · exact nle_trans (nle_of_nlt hn) (h1 y hy)
    · rename_i hn
      refine List.pairwise_cons.2 ⟨fun y hy => ?_, ih h2⟩
      rcases List.mem_cons.1 ((ins_perm l n).mem_iff.1 hy) with rfl | hy
      · show nlt y x = false
        simpa using hn
      · exact h1 y hy
theorem ord_unique {l m : List (Int × Int)} (h : Ord l) (h2 : Ord m) (hp : l.Perm m) : l = m := by
  induction l generalizing m with
  | nil => exact (List.nil_perm.1 hp).symm
  | cons x l ih =>
    cases m with
    | nil => exact absurd hp.length_eq (by simp)
    | cons y m =>
      obtain ⟨a1, a2⟩ := List.pairwise_cons.1 h
      obtain ⟨b1, b2⟩ := List.pairwise_cons.1 h2
      have hxy : x = y := by
        rcases List.mem_cons.1 (hp.mem_iff.1 List.mem_cons_self) with e | hx
        · exact e
        · rcases List.mem_cons.1 (hp.mem_iff.2 List.mem_cons_self) with e | hy
          · exact e.symm
          · exact nle_antisymm (a1 y hy) (b1 x hx)
      subst hxy
      rw [ih a2 b2 (List.Perm.cons_inv hp)]
def srt (l : List (Int × Int)) : List (Int × Int) := l.foldl ins []
theorem srt_snoc (l : List (Int × Int)) (n : Int × Int) : srt (l ++ [n]) = ins (srt l) n := by simp [srt]
theorem foldl_ins_perm (l s : List (Int × Int)) : (l.foldl ins s).Perm (l ++ s) := by
  induction l generalizing s with
  | nil => exact List.Perm.refl _
  | cons x l ih =>
    rw [List.foldl_cons]
    exact (ih (ins s x)).trans (((ins_perm s x).append_left l).trans List.perm_middle)
theorem foldl_ins_ord (l : List (Int × Int)) {s : List (Int × Int)} (h : Ord s) : Ord (l.foldl ins s) := by
  induction l generalizing s with
  | nil => exact h
  | cons x l ih => exact ih (ins_ord x h)
theorem srt_perm (l : List (Int × Int)) : (srt l).Perm l := by
  have := foldl_ins_perm l []
  rwa [List.append_nil] at this
theorem srt_ord (l : List (Int × Int)) : Ord (srt l) := foldl_ins_ord l List.Pairwise.nil
theorem srt_len (l : List (Int × Int)) : (srt l).length = l.length := (srt_perm l).length_eq
theorem srt_of_perm {l m : List (Int × Int)} (h : l.Perm m) : srt l = srt m := ord_unique (srt_ord l) (srt_ord m) ((srt_perm l).trans (h.trans (srt_perm m).symm))
theorem srt_of_ord {l : List (Int × Int)} (h : Ord l) : srt l = l := ord_unique (srt_ord l) h (srt_perm l)
/-- Whatever stands from the nearest on and has the same ones is what Sorted answers. -/
theorem srt_is {l m : List (Int × Int)} (h : Ord m) (hp : m.Perm l) : m = srt l := ord_unique h (srt_ord l) (hp.trans (srt_perm l).symm)

theorem take_ins (s : List (Int × Int)) (n : Int × Int) (k : Nat) : (ins s n).take k = (ins (s.take k) n).take k := by
  induction s generalizing k with
  | nil => simp
  | cons x s ih =>
    cases k with
    | zero => simp
    | succ k =>
      rw [List.take_succ_cons]
      unfold ins
      split
      · rw [List.take_succ_cons, List.take_succ_cons]
        congr 1
        cases k with
        | zero => rfl
        | succ j => rw [List.take_succ_cons, List.take_succ_cons, List.take_take, Nat.min_eq_left (by omega)]
      · rw [List.take_succ_cons, List.take_succ_cons, ih k]
/-- The first k. -/
def keep (k : Nat) (l : List (Int × Int)) : List (Int × Int) := (srt l).take k
theorem keep_len (k : Nat) (l : List (Int × Int)) : (keep k l).length = min k l.length := by rw [keep, List.length_take, srt_len]
theorem keep_ord (k : Nat) (l : List (Int × Int)) : Ord (keep k l) := List.Pairwise.sublist (List.take_sublist _ _) (srt_ord l)
theorem keep_none (k : Nat) : keep k [] = [] := by simp [keep, srt]
theorem keep_snoc (k : Nat) (l : List (Int × Int)) (n : Int × Int) : keep k (l ++ [n]) = (ins (keep k l) n).take k := by
  unfold keep
  rw [srt_snoc, take_ins]
theorem keep_of_perm (k : Nat) {l m : List (Int × Int)} (h : l.Perm m) : keep k l = keep k m := by rw [keep, keep, srt_of_perm h]
/-- As long as there is room it is kept. -/
theorem keep_room {k : Nat} {l : List (Int × Int)} (n : Int × Int) (h : (keep k l).length < k) : keep k (l ++ [n]) = ins (keep k l) n := by
  rw [keep_snoc, List.take_of_length_le (by rw [ins_len]; omega)]
theorem ins_last {s : List (Int × Int)} {n : Int × Int} (h : ∀ x ∈ s, nle x n) : ins s n = s ++ [n] := by
  induction s with
  | nil => rfl
  | cons x s ih =>
    have hx : nlt n x = false := h x List.mem_cons_self
    unfold ins
    rw [if_neg (by rw [hx]; decide), ih fun y hy => h y (List.mem_cons_of_mem _ hy)]
    rfl
/-- What is not nearer than the last one of those kept is not kept. -/
theorem keep_not {k : Nat} {l : List (Int × Int)} {n : Int × Int} (h : (keep k l).length = k) (hn : ∀ x ∈ keep k l, nle x n) : keep k (l ++ [n]) = keep k l := by
  rw [keep_snoc, ins_last hn, List.take_append_of_le_length (by omega), List.take_of_length_le (by omega)]
theorem ord_last {s : List (Int × Int)} (h : Ord s) (hs : s ≠ []) : ∀ x ∈ s, nle x (s.getLast hs) := by
  intro x hx
  have e := List.dropLast_concat_getLast hs
  rw [← e] at hx
  rcases List.mem_append.1 hx with hx | hx
  · rw [Ord, ← e, List.pairwise_append] at h
    exact h.2.2 x hx _ (List.mem_singleton.2 rfl)
  · rw [List.mem_singleton.1 hx]
    exact nle_refl _
theorem keep_idem (k : Nat) (l : List (Int × Int)) : keep k (keep k l) = keep k l := by
  rw [keep, srt_of_ord (keep_ord k l), List.take_of_length_le (by rw [keep_len]; omega)]
theorem keep_foldl (k : Nat) (l m : List (Int × Int)) : keep k (l ++ m) = m.foldl (fun s n => (ins s n).take k) (keep k l) := by
  induction m generalizing l with
  | nil => simp
  | cons n m ih => rw [List.foldl_cons, ← keep_snoc, ← ih, List.append_assoc]; rfl
theorem keep_left (k : Nat) (l m : List (Int × Int)) : keep k (keep k l ++ m) = keep k (l ++ m) := by rw [keep_foldl, keep_idem, ← keep_foldl]
/-- The first k of all are the first k of the first k of each part. -/
theorem keep_merge (k : Nat) (l m : List (Int × Int)) : keep k (keep k l ++ keep k m) = keep k (l ++ m) := by
  rw [keep_left, keep_of_perm k List.perm_append_comm, keep_left, keep_of_perm k List.perm_append_comm]
/-- What is left out is not nearer than what is kept. -/
theorem keep_rest (k : Nat) (l : List (Int × Int)) : ∀ x ∈ keep k l, ∀ y ∈ (srt l).drop k, nle x y := by
  intro x hx y hy
  have h := srt_ord l
  rw [Ord, ← List.take_append_drop k (srt l), List.pairwise_append] at h
  exact h.2.2 x hx y hy
theorem keep_parts (k : Nat) (l : List (Int × Int)) : (keep k l ++ (srt l).drop k).Perm l := by
  unfold keep
  rw [List.take_append_drop]
  exact srt_perm l
theorem keep_count (k : Nat) (l : List (Int × Int)) (x : Int × Int) : (keep k l).count x + ((srt l).drop k).count x = l.count x := by
  rw [← List.count_append, (keep_parts k l).count_eq x]
/-- The last one of k that are kept never comes to be farther. -/
theorem keep_worst {k : Nat} {l : List (Int × Int)} {n : Int × Int} (h : (keep k l).length = k) (hs : keep k l ≠ []) (hs' : keep k (l ++ [n]) ≠ []) : nle ((keep k (l ++ [n])).getLast hs') ((keep k l).getLast hs) := by
  have hm : (keep k (l ++ [n])).getLast hs' ∈ keep k (l ++ [n]) := List.getLast_mem hs'
  -- all of the k that are kept now stand among k + 1, the last of which is left out
  have hp : (keep k (l ++ [n]) ++ (ins (keep k l) n).drop k).Perm (n :: keep k l) := by
    rw [keep_snoc, List.take_append_drop]
    exact ins_perm _ _
  refine Classical.byContradiction fun hc => ?_
  have hlt : nlt ((keep k l).getLast hs) ((keep k (l ++ [n])).getLast hs') = true := by
    cases hh : nlt ((keep k l).getLast hs) ((keep k (l ++ [n])).getLast hs')
    · exact absurd hh hc
    · rfl
  -- then the last one now is n itself, and all that were kept before it are nearer: k of them and n are k + 1
  have hrest : ∀ y ∈ keep k l, nlt ((keep k (l ++ [n])).getLast hs') y = false := fun y hy => nle_trans (ord_last (keep_ord k l) hs y hy) (nle_of_nlt hlt)
  have hn : (keep k (l ++ [n])).getLast hs' = n := by
    rcases List.mem_cons.1 (hp.mem_iff.1 (List.mem_append_left _ hm)) with e | hy
    · exact e
    · exact absurd (nle_antisymm (ord_last (keep_ord k l) hs _ hy) (nle_of_nlt hlt)) (fun e => by rw [e] at hlt; have := nle_refl ((keep k l).getLast hs); rw [nle] at this; rw [this] at hlt; cases hlt)
  have hall : ∀ x ∈ keep k l, nle x n := fun y hy => by have := hrest y hy; rw [hn] at this; exact this
  have e := keep_not h hall
  have hmem : (keep k (l ++ [n])).getLast hs' ∈ keep k l := by rw [← e]; exact hm
  have h3 := ord_last (keep_ord k l) hs _ hmem
  rw [nle] at h3
  rw [h3] at hlt
  cases hlt
end Go.Proofs.Ytdknjeikhdodeaa
