/-
  A range over a function whose iterator tells, of what it hands over, what lies in memory behind it (T), and of all that came so far some fact that names no world (G): a law for loops that are never left by a jump. It goes by the library's base law (wpIn_rangeFunc) and its words on the loop's record; the library's own laws for a caller have no such word.
-/
import Derived.RangeFuncBox
import Derived.RangeFuncCalls
import Derived.RangeFuncLeaves
import Derived.Test.YtpckloafdlkefaaGreatWords
namespace Go.Proofs.YtpckloafdlkefaaGreat
set_option maxRecDepth 40000
open Go.RowKit

/-- How a round may be left: at its end, with what was written kept within bounds. -/
def toldPost (B n₀ : Nat) (R : World → Prop) (W : World) : Exit → Act → World → Prop
  | .normal, _, W' => KeepsFrom B W W' ∧ Below n₀ W W' ∧ R W'
  | .ret, _, _ => False
  | .exit _, _, _ => False
  | .goto _, _, _ => False
  | .panic _, _, _ => False
  | .outgrown, _, _ => False
/-- What an iterator owes whose rounds all go on. -/
def Tells {α : Type} (F : Fence) (n : Nat) (P : Program) (gf : Nat) (lb : Array Value) (encs : α → Array Value) (n₀ : Nat) (T : α → World → Prop) (G S : List α → Prop) (w : World) : Prop :=
  ∀ (l : Nat) (J : List α → World → Prop) (W : World), Below w.heap.size w W → (∀ s A B, J s A → Below A.heap.size A B → J s B) →
    (∀ pre x A, J pre A → T x A → G (pre ++ [x]) → YieldAt F (n - 1) P l (encs x) A fun e B => e = .returned (.bool true) ∧ J (pre ++ [x]) B ∧ Below n₀ A B) → J [] W →
    CallsIn F n P gf (#[.func (.yield l) #[] #[]] ++ lb) W fun e B => (∃ v, e = .returned v) ∧ ∃ xs, S xs ∧ J xs B

theorem range_told {α : Type} {F : Fence} {n : Nat} {P : Program} {g : Operand} {ps : Array Tmp} {assign body : Code} {Q : Exit → Act → World → Prop} {a : Act} {w : World}
    (hro : F.round = none) (h1 : 1 ≤ n) {gf : Nat} {lb : Array Value} (hg : a.eval g = .func (.func gf) #[] lb) (hFg : F.fn gf) (eg : ∀ args w, (callFunc gf args).run P w = .ok (.enter gf args) w)
    {encs : α → Array Value} (hps : ∀ x, (encs x).size = ps.size) {n₀ : Nat} (hn₀ : n₀ ≤ w.heap.size)
    (T : α → World → Prop) (I : List α → World → Prop) (G S : List α → Prop) (hT : ∀ x, OwnFrom w.heap.size (fun (_ : Unit) W => T x W)) (hI : OwnFrom w.heap.size I) (h0 : I [] w) (a₁ : α → Act)
    (iter : Tells F (n - 1) P gf lb encs n₀ T G S w)
    (hassign : ∀ (l : Nat) (x : α) (W : World) (K : Act → World → Prop), K (a₁ x) W →
      assign.wpIn (F.inRound l) (n - 1 - 1) P (Exit.then K (fun _ _ _ => False)) { tmps := (ps.zip (encs x)).foldl (fun t (p, v) => t.setIfInBounds p v) a.tmps, defers := [] } W)
    (hbody : ∀ (l : Nat) (pre : List α) (x : α) (W : World), I pre W → T x W → G (pre ++ [x]) → body.wpIn (F.inRound l) (n - 1 - 1) P (toldPost w.heap.size n₀ (I (pre ++ [x])) W) (a₁ x) W)
    (hdone : ∀ (D : Nat) (xs : List α) (W : World), w.heap.size ≤ D → S xs → I xs W → W.heap[D]? = some (.deferred (some [])) → Q .normal { a with defers := { target := .collected D, args := #[] } :: a.defers } W) :
    (Code.rangeFunc g ps assign body).wpIn F n P Q a w := by
  refine wpIn_rangeFunc fun fn hfn => ?_
  rw [hro]
  obtain ⟨L, hL⟩ : ∃ L : LoopState → Loop, L = fun st => { state := st, pending := none, fn, tmps := a.tmps, params := ps, assign, body, defers := w.heap.size } := ⟨_, rfl⟩
  let Book : LoopState → World → Prop := fun st W => W.heap[w.heap.size + 1]? = some (.loop (L st)) ∧ W.heap[w.heap.size]? = some (.deferred (some []))
  have turn : ∀ (st : LoopState) (A : World) (o : Loop), Book st A → (A.putObj (w.heap.size + 1) (.loop o)).heap[w.heap.size + 1]? = some (.loop o) ∧ (A.putObj (w.heap.size + 1) (.loop o)).heap[w.heap.size]? = some (.deferred (some [])) := fun st A o h =>
    ⟨World.putObj_heap_same (Array.getElem?_eq_some_iff.1 h.1).1, (World.putObj_heap_other (by omega)).trans h.2⟩
  have low : ∀ (st : LoopState) (A : World) (o : Loop), Book st A → Below n₀ A (A.putObj (w.heap.size + 1) (.loop o)) := fun st A o h =>
    belowK_b hn₀ A _ _ _ (by omega) h.1 rfl rfl
  obtain ⟨W1, hW1⟩ : ∃ W1, (w.alloc (.deferred (some []))).alloc (.loop (L .ready)) = W1 := ⟨_, rfl⟩
  have book1 : Book .ready W1 := by
    rw [← hW1]
    constructor
    · have := World.alloc_heap_new (w.alloc (.deferred (some []))) (.loop (L .ready))
      rwa [World.size_alloc] at this
    · exact (Below.heap_alloc _ _ _ (by simp)).trans (World.alloc_heap_new w _)
  refine ⟨w.heap.size + 1, [{ target := .collected w.heap.size, args := #[] }], W1, { target := .fn (.func gf) lb, args := #[.func (.yield (w.heap.size + 1)) #[] #[]] }, W1, gf, #[.func (.yield (w.heap.size + 1)) #[] #[]] ++ lb, W1, ?_, ?_, ?_, ?_, fun _ => h1, ?_⟩
  · rw [← hW1, hL]
    exact run_enterLoop_outer _ _ _ _ _
  · simp only [resolve, hg]
    simp [go_sem]
  · intro f' hf'
    simp [Target.leads] at hf'
    subst hf'
    exact hFg
  · simp [invoke, go_sem, eg]
  refine (iter (w.heap.size + 1) (fun pre W => I pre W ∧ Book .ready W) W1 (by rw [← hW1]; exact ((Below.refl _ w).alloc (Nat.le_refl _) _).alloc (by simp) _)
    (fun s A B h hb => ⟨hI s A B none h.1 (only_of_below hb none) (fun r e => by cases e), (hb.block _ (Array.getElem?_eq_some_iff.1 h.2.1).1).trans h.2.1, (hb.block _ (Array.getElem?_eq_some_iff.1 h.2.2).1).trans h.2.2⟩)
    ?_ ⟨by rw [← hW1]; exact hI.alloc _ (hI.alloc _ h0), book1⟩).mono ?_
  · rintro pre x A ⟨hi, hbk⟩ ht hgg
    have hy := run_yield (P := P) (args := encs x) hbk.1 (by rw [hL]; exact hps x)
    rw [hL] at hy
    refine ⟨fn, _, assign, body, hy, roundIn_of_wpIn hfn (hassign _ x A _ ⟨_, run_beginRound hbk.1 (by rw [hL]), ?_⟩)⟩
    have hbusy : ({ L .ready with state := .busy } : Loop) = L .busy := by rw [hL]
    rw [hbusy]
    have bk2 : Book .busy (A.putObj (w.heap.size + 1) (.loop (L .busy))) := turn _ A _ hbk
    have low2 := low _ A (L .busy) hbk
    refine wpIn_mono (hbody _ pre x _ (hI.putObj _ hi (by omega) hbk.1 rfl) ((hT x).putObj (s := ()) _ ht (by omega) hbk.1 rfl) hgg) ?_
    intro e a3 B hp
    cases e with
    | normal =>
      obtain ⟨hk, hb, hi3⟩ := hp
      have bk3 : Book .busy B := ⟨hk.same _ _ (by omega) bk2.1 rfl, hk.same _ _ (Nat.le_refl _) bk2.2 rfl⟩
      have hend := run_endRound (P := P) none bk3.1
      have hready : ({ L .busy with state := if (none : Option Code).isNone = true then .ready else .done, pending := none } : Loop) = L .ready := by rw [hL]; rfl
      rw [hready] at hend
      exact ⟨_, _, hend, rfl, ⟨hI.putObj _ hi3 (by omega) bk3.1 rfl, turn _ B _ bk3⟩, (low2.trans hb).trans (low _ B (L .ready) bk3)⟩
    | ret => exact hp.elim
    | exit id => exact hp.elim
    | goto t => exact hp.elim
    | panic ch => exact hp.elim
    | outgrown => exact hp.elim
  · rintro e B ⟨⟨v, rfl⟩, xs, hS, hi, hbk⟩
    have hend := run_endLoop (P := P) hbk.1 (by rw [hL]; simp)
    have hp : (L .ready).pending = none := by rw [hL]
    rw [hp] at hend
    exact ⟨none, _, hend, hdone _ xs _ (Nat.le_refl _) hS (hI.putObj _ hi (by omega) hbk.1 rfl) ((World.putObj_heap_other (by omega)).trans hbk.2)⟩
end Go.Proofs.YtpckloafdlkefaaGreat
