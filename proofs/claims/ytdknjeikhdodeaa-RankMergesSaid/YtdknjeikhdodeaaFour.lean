/-
  Four Tops that lie apart, and a slice that has them: for RankMerges.
-/
import Derived.Test.YtdknjeikhdodeaaRankKeeps
namespace Go.Proofs.Ytdknjeikhdodeaa
open Go.RowKit Go.Sort

/-- Of one Top: where it is, where its heap is, what was added to it. -/
structure Tp where
  T : Nat
  G : Option Nat
  l : List (Int × Int)
/-- A Top's blocks. -/
def Tp.bs (t : Tp) : List Nat := t.T :: t.G.toList
/-- Block P is none of theirs. -/
def Off (P : Nat) (ts : List Tp) : Prop := ∀ t ∈ ts, P ∉ t.bs
/-- Tops of k, each in blocks of its own, all from lo on. -/
structure Tops (w : World) (k lo : Nat) (ts : List Tp) : Prop where
  all : ∀ t ∈ ts, TopAt w t.T t.G k t.l
  low : ∀ t ∈ ts, lo ≤ t.T
  apart : ∀ (i j : Nat) (a b : Tp), ts[i]? = some a → ts[j]? = some b → i ≠ j → ∀ g ∈ a.bs, g ∉ b.bs
theorem bs_lt {w : World} {k : Nat} {t : Tp} (h : TopAt w t.T t.G k t.l) : ∀ g ∈ t.bs, t.T ≤ g ∧ g < w.heap.size := by
  intro g hg
  have hl := h.lt
  rcases List.mem_cons.1 hg with e | hm
  · subst e; exact ⟨Nat.le_refl _, hl.1⟩
  · cases hG : t.G with
    | none => rw [hG] at hm; simp at hm
    | some q =>
      rw [hG] at hm
      have := hl.2 q hG
      simp at hm
      omega
theorem Tops.touch {w w' : World} {k lo : Nat} {ts : List Tp} {F : List Nat} (h : Tops w k lo ts) (ht : Touch w w' F) (hF : ∀ t ∈ ts, ∀ g ∈ t.bs, g ∉ F) : Tops w' k lo ts :=
  ⟨fun t ht' => (h.all t ht').touch ht (hF t ht' _ List.mem_cons_self) (fun g hg => hF t ht' g (by unfold Tp.bs; rw [hg]; simp)), h.low, h.apart⟩
theorem Tops.lays {w w' : World} {k lo : Nat} {ts : List Tp} (h : Tops w k lo ts) (hl : Lays w w') : Tops w' k lo ts := h.touch (touch_lays hl []) (fun _ _ _ _ => List.not_mem_nil)
theorem Tops.below {w w' : World} {k lo : Nat} {ts : List Tp} (h : Tops w k lo ts) (hl : Below w.heap.size w w') : Tops w' k lo ts := h.touch (touch_below hl rfl []) (fun _ _ _ _ => List.not_mem_nil)
/-- One of them has one more. -/
theorem Tops.add {w w' : World} {k lo i : Nat} {ts : List Tp} {t : Tp} {G' : Option Nat} {x : Int × Int} (h : Tops w k lo ts) (hi : ts[i]? = some t) (hT : TopAt w' t.T G' k (t.l ++ [x])) (mv : Moved w w' t.T t.G G') :
    Tops w' k lo (ts.set i ⟨t.T, G', t.l ++ [x]⟩) ∧ ∀ P, P < w.heap.size → Off P ts → Off P (ts.set i ⟨t.T, G', t.l ++ [x]⟩) := by
  have hm : t ∈ ts := List.mem_of_getElem? hi
  have hil : i < ts.length := (List.getElem?_eq_some_iff.1 hi).1
  have hnew : ∀ g ∈ (⟨t.T, G', t.l ++ [x]⟩ : Tp).bs, g ∈ t.bs ∨ w.heap.size ≤ g := by
    intro g hg
    rcases List.mem_cons.1 hg with e | hg
    · exact .inl (by unfold Tp.bs; rw [e]; exact List.mem_cons_self)
    · rcases mv.1 with e | ⟨q, e, hq⟩
      · left
        unfold Tp.bs
        rw [← e]
        exact List.mem_cons_of_mem _ hg
      · right
        have hg' : g ∈ G'.toList := hg
        rw [e] at hg'
        simp at hg'
        omega
  have hother : ∀ (j : Nat) (b : Tp), ts[j]? = some b → j ≠ i → TopAt w' b.T b.G k b.l := fun j b hb hj => by
    refine (h.all b (List.mem_of_getElem? hb)).touch mv.2 (h.apart j i b t hb hi hj _ List.mem_cons_self) (fun g hg => h.apart j i b t hb hi hj g (by unfold Tp.bs; rw [hg]; simp))
  refine ⟨⟨fun b hb => ?_, fun b hb => ?_, fun p q a b ha hb hpq g hg => ?_⟩, fun P hP hoff b hb => ?_⟩
  · obtain ⟨j, hj⟩ := List.getElem?_of_mem hb
    rw [List.getElem?_set] at hj
    split at hj
    · injection hj with hj; subst hj; exact hT
    · exact hother j b hj (by omega)
  · obtain ⟨j, hj⟩ := List.getElem?_of_mem hb
    rw [List.getElem?_set] at hj
    split at hj
    · injection hj with hj; subst hj; exact h.low t hm
    · exact h.low b (List.mem_of_getElem? hj)
  · have old : ∀ (j : Nat) (c : Tp), ts[j]? = some c → ∀ g ∈ c.bs, g < w.heap.size := fun j c hc g hg => (bs_lt (h.all c (List.mem_of_getElem? hc)) g hg).2
    rw [List.getElem?_set] at ha hb
    by_cases ep : i = p
    · subst ep
      rw [if_pos rfl, if_pos hil] at ha
      rw [if_neg hpq] at hb
      injection ha with ha
      subst ha
      intro hgb
      rcases hnew g hg with e | e
      · exact h.apart i q t b hi hb hpq g e hgb
      · have := old q b hb g hgb; omega
    · rw [if_neg ep] at ha
      by_cases eq : i = q
      · subst eq
        rw [if_pos rfl, if_pos hil] at hb
        injection hb with hb
        subst hb
        intro hgb
        rcases hnew g hgb with e | e
        · exact h.apart p i a t ha hi hpq g hg e
        · have := old p a ha g hg; omega
      · rw [if_neg eq] at hb
        exact h.apart p q a b ha hb hpq g hg
  · obtain ⟨j, hj⟩ := List.getElem?_of_mem hb
    rw [List.getElem?_set] at hj
    split at hj
    · injection hj with hj
      subst hj
      intro hPm
      rcases hnew P hPm with e | e
      · exact hoff t hm e
      · omega
    · exact hoff b (List.mem_of_getElem? hj)
/-- What is added to one of them is written from lo on. -/
theorem Tops.moved_below {w w' : World} {k lo i : Nat} {ts : List Tp} {t : Tp} {G' : Option Nat} (h : Tops w k lo ts) (hi : ts[i]? = some t) (mv : Moved w w' t.T t.G G') {B : Nat} (hB : B ≤ lo) (hs : B ≤ w.heap.size) : Below B w w' :=
  mv.below hs (Nat.le_trans hB (h.low t (List.mem_of_getElem? hi))) (fun g hg => ((h.all t (List.mem_of_getElem? hi)).lt.2 g hg).1)
/-- A block that is none of theirs stays. -/
theorem Tops.cell {w w' : World} {k lo i P : Nat} {ts : List Tp} {t : Tp} {G' : Option Nat} (_ : Tops w k lo ts) (hoff : Off P ts) (hi : ts[i]? = some t) (mv : Moved w w' t.T t.G G') {c : Nat} {v : Value} (hc : w.cell? ⟨P, c, none⟩ = some v) : w'.cell? ⟨P, c, none⟩ = some v := by
  have hP : P < w.heap.size := World.block_lt_of_cell? w _ hc
  exact (World.cell?_of_block (mv.2.block P hP (hoff t (List.mem_of_getElem? hi)))).trans hc
/-- One more, that was just made. -/
theorem Tops.snoc {w : World} {k lo T : Nat} {ts : List Tp} (h : Tops w k lo ts) (hT : TopAt w T none k []) (hlo : lo ≤ T) (hn : ∀ t ∈ ts, ∀ g ∈ t.bs, g < T) : Tops w k lo (ts ++ [⟨T, none, []⟩]) := by
  have hb : ∀ g ∈ (⟨T, none, []⟩ : Tp).bs, g = T := fun g hg => by simpa [Tp.bs] using hg
  refine ⟨fun t ht => ?_, fun t ht => ?_, fun i j a b ha hb' hij g hg hgb => ?_⟩
  · rcases List.mem_append.1 ht with ht | ht
    · exact h.all t ht
    · rw [List.mem_singleton.1 ht]; exact hT
  · rcases List.mem_append.1 ht with ht | ht
    · exact h.low t ht
    · rw [List.mem_singleton.1 ht]; exact hlo
  · rw [List.getElem?_append] at ha hb'
    split at ha
    · split at hb'
      · exact h.apart i j a b ha hb' hij g hg hgb
      · have e : b = ⟨T, none, []⟩ := by
          have := List.mem_of_getElem? hb'
          simpa using this
        subst e
        have := hn a (List.mem_of_getElem? ha) g hg
        have := hb g hgb
        omega
    · have e : a = ⟨T, none, []⟩ := by
        have := List.mem_of_getElem? ha
        simpa using this
      subst e
      have e1 := hb g hg
      split at hb'
      · have := hn b (List.mem_of_getElem? hb') g hgb
        omega
      · rename_i h1 h2
        have l1 := (List.getElem?_eq_some_iff.1 ha).1
        have l2 := (List.getElem?_eq_some_iff.1 hb').1
        simp at l1 l2
        omega
theorem Tops.none_ (w : World) (k lo : Nat) : Tops w k lo [] := ⟨(fun t ht => by cases ht), (fun t ht => by cases ht), fun i j a b ha => by simp at ha⟩
theorem off_none (P : Nat) : Off P [] := fun t ht => by cases ht
theorem Off.snoc {P T : Nat} {ts : List Tp} (h : Off P ts) (hP : P ≠ T) : Off P (ts ++ [⟨T, none, []⟩]) := by
  intro t ht
  rcases List.mem_append.1 ht with ht | ht
  · exact h t ht
  · rw [List.mem_singleton.1 ht]
    simpa [Tp.bs] using hP
theorem info22 : (Try.prog.info? 22).map (fun i => (i.zero, i.size, i.bytes)) = some (some (.pointer none), 1, 8) := by kernel_rfl
/-- Pointers to Tops. -/
def PT (ts : List Tp) : List Value := ts.map fun t => .pointer (some ⟨t.T, 0, none⟩)
theorem PT_one (ts : List Tp) : ∀ u ∈ PT ts, u.oneCell' = true := by
  intro u hu
  simp only [PT, List.mem_map] at hu
  obtain ⟨c, _, rfl⟩ := hu
  rfl
end Go.Proofs.Ytdknjeikhdodeaa
