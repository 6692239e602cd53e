/-
  Slices of pairs: read as a list, appended to, cloned; a row of the call's own and the heap's block are one.
-/
import Derived.Test.YtdknjeikhdodeaaFar
namespace Go.Proofs.Ytdknjeikhdodeaa
open Go.RowKit Go.Sort

/-- Pairs as cells. -/
def NC (l : List (Int × Int)) : List Value := l.flatMap enc
theorem NC_len (l : List (Int × Int)) : (NC l).length = l.length * 2 := by
  induction l with
  | nil => rfl
  | cons x l ih =>
    have : NC (x :: l) = enc x ++ NC l := rfl
    rw [this, List.length_append, ih, List.length_cons]
    simp [enc]
    omega
theorem NC_append (l m : List (Int × Int)) : NC (l ++ m) = NC l ++ NC m := by simp [NC]
theorem NC_one (l : List (Int × Int)) : ∀ u ∈ NC l, u.oneCell' = true := by
  intro u hu
  simp only [NC, List.mem_flatMap, enc] at hu
  obtain ⟨x, _, hx⟩ := hu
  simp at hx
  rcases hx with rfl | rfl <;> rfl
theorem NC_get (l : List (Int × Int)) (j : Nat) (hj : j < l.length) : (NC l)[j * 2]? = some (.int .i64 (l.getD j (0, 0)).1) ∧ (NC l)[j * 2 + 1]? = some (.int .i64 (l.getD j (0, 0)).2) := by
  induction l generalizing j with
  | nil => exact absurd hj (by simp)
  | cons x l ih =>
    have e : NC (x :: l) = .int .i64 x.1 :: .int .i64 x.2 :: NC l := rfl
    rw [e]
    cases j with
    | zero => exact ⟨rfl, rfl⟩
    | succ j =>
      have := ih j (by simpa using hj)
      rw [show (j + 1) * 2 = j * 2 + 1 + 1 by omega, List.getElem?_cons_succ, List.getElem?_cons_succ, List.getElem?_cons_succ, List.getElem?_cons_succ]
      simpa using this
/-- Cells by pairs are cells one behind the other. -/
theorem NC_cells {l : List (Int × Int)} {f : Nat → Option Value} (h : ∀ j, j < l.length → f (j * 2) = some (.int .i64 (l.getD j (0, 0)).1) ∧ f (j * 2 + 1) = some (.int .i64 (l.getD j (0, 0)).2)) : ∀ t u, (NC l)[t]? = some u → f t = some u := by
  intro t u hu
  have ht : t < l.length * 2 := by have := (List.getElem?_eq_some_iff.1 hu).1; rwa [NC_len] at this
  obtain ⟨a, b⟩ := h (t / 2) (by omega)
  obtain ⟨c, d⟩ := NC_get l (t / 2) (by omega)
  rcases (show t = t / 2 * 2 ∨ t = t / 2 * 2 + 1 by omega) with e | e
  · rw [e] at hu ⊢
    rw [← hu, a, c]
  · rw [e] at hu ⊢
    rw [← hu, b, d]

/-- The slice (A, n) reads as the pairs l, in one block from lo on and below hi; of an empty one nothing is asked. -/
def Nears (w : World) (lo hi : Nat) (A : Option Addr) (n : Nat) (l : List (Int × Int)) : Prop :=
  l.length = n ∧ (0 < n → ∃ b off, A = some ⟨b, off, none⟩ ∧ lo ≤ b ∧ b < hi ∧ ∀ j, j < l.length → w.cell? ⟨b, off + j * 2, none⟩ = some (.int .i64 (l.getD j (0, 0)).1) ∧ w.cell? ⟨b, off + j * 2 + 1, none⟩ = some (.int .i64 (l.getD j (0, 0)).2))
section
variable {w w' : World} {lo hi n : Nat} {A : Option Addr} {l : List (Int × Int)}
theorem Nears.none_ : Nears w lo hi A 0 [] := ⟨rfl, fun h => absurd h (Nat.lt_irrefl 0)⟩
theorem Nears.keep (h : Nears w lo hi A n l) (hk : ∀ p : Addr, lo ≤ p.block → p.block < hi → w'.cell? p = w.cell? p) : Nears w' lo hi A n l :=
  ⟨h.1, fun hn => by
    obtain ⟨b, off, e, h1, h2, hc⟩ := h.2 hn
    exact ⟨b, off, e, h1, h2, fun j hj => ⟨(hk _ h1 h2).trans (hc j hj).1, (hk _ h1 h2).trans (hc j hj).2⟩⟩⟩
theorem Nears.below {B : Nat} (h : Nears w lo hi A n l) (hb : Below B w w') (hB : hi ≤ B) : Nears w' lo hi A n l := h.keep fun _ _ hp => hb.cell (by omega)
theorem Nears.lays (h : Nears w lo hi A n l) (hb : Lays w w') (hB : hi ≤ w.heap.size) : Nears w' lo hi A n l := h.below hb.below hB
theorem Nears.wide {lo' hi' : Nat} (h : Nears w lo hi A n l) (h1 : lo' ≤ lo) (h2 : hi ≤ hi') : Nears w lo' hi' A n l :=
  ⟨h.1, fun hn => by
    obtain ⟨b, off, e, a, c, hc⟩ := h.2 hn
    exact ⟨b, off, e, by omega, by omega, hc⟩⟩
theorem Nears.take (h : Nears w lo hi A n l) {k : Nat} (hk : k ≤ n) : Nears w lo hi A k (l.take k) := by
  refine ⟨by rw [List.length_take, h.1]; omega, fun hn => ?_⟩
  obtain ⟨b, off, e, h1, h2, hc⟩ := h.2 (by omega)
  refine ⟨b, off, e, h1, h2, fun j hj => ?_⟩
  rw [List.length_take] at hj
  have := hc j (by omega)
  rwa [show (l.take k).getD j (0, 0) = l.getD j (0, 0) by simp [List.getD_eq_getElem?_getD, show j < k by omega]]
theorem Nears.at_ (h : Nears w lo hi A n l) {j : Nat} (hj : j < n) : ∃ b off, A = some ⟨b, off, none⟩ ∧ lo ≤ b ∧ b < hi ∧ w.cell? ⟨b, off + j * 2, none⟩ = some (.int .i64 (l.getD j (0, 0)).1) ∧ w.cell? ⟨b, off + j * 2 + 1, none⟩ = some (.int .i64 (l.getD j (0, 0)).2) := by
  obtain ⟨b, off, e, h1, h2, hc⟩ := h.2 (by omega)
  have hj' : j < l.length := by rw [h.1]; exact hj
  exact ⟨b, off, e, h1, h2, (hc j hj').1, (hc j hj').2⟩
end
theorem Nears.of_heap {w : World} {g cap : Nat} {l : List (Int × Int)} (h : HeapAt w g cap l) : Nears w g (g + 1) (some ⟨g, 0, none⟩) l.length l :=
  ⟨rfl, fun _ => ⟨g, 0, rfl, Nat.le_refl _, Nat.lt_succ_self _, fun j hj => by rw [Nat.zero_add]; exact h.cell hj⟩⟩

/-- A row of the call's own is the heap's block, or nil. -/
theorem heap_of_own {w : World} {base n : Nat} {v : Value} {l : List (Int × Int)} (h : w.ownsRow base 29 2 v n (NC l)) : l.length = n ∧ ((v = .slice none 0 0 ∧ l = []) ∨ ∃ g cap, v = .slice (some ⟨g, 0, none⟩) n cap ∧ base ≤ g ∧ HeapAt w g cap l) := by
  have hl : l.length = n := by have := h.1; rw [NC_len] at this; omega
  refine ⟨hl, ?_⟩
  rcases h.2 with ⟨hv, h0⟩ | ⟨g, cap, cur, hv, hb, hg, hc, hm, hs, ht⟩
  · exact .inl ⟨hv, List.eq_nil_of_length_eq_zero (by omega)⟩
  · refine .inr ⟨g, cap, hv, hb, cur, hg, hs, ⟨by omega, hm⟩, fun j hj => ?_⟩
    have := NC_get l j hj
    rw [← ht, List.getElem?_take, List.getElem?_take, if_pos (by omega), if_pos (by omega)] at this
    simpa using this
theorem own_of_heap {w : World} {base g cap n : Nat} {l : List (Int × Int)} (h : HeapAt w g cap l) (hb : base ≤ g) (hn : l.length = n) : w.ownsRow base 29 2 (.slice (some ⟨g, 0, none⟩) n cap) n (NC l) := by
  obtain ⟨cs, hB, hs, hl, hc⟩ := h
  refine ⟨by rw [NC_len, hn], .inr ⟨g, cap, cs, rfl, hb, hB, by omega, hl.2, hs, ?_⟩⟩
  apply List.ext_getElem?
  intro t
  by_cases ht : t < n * 2
  · have e1 : (NC l)[t]? = some ((NC l)[t]'(by rw [NC_len]; omega)) := List.getElem?_eq_getElem _
    have := NC_cells (l := l) (f := fun t => cs[t]?) hc t _ e1
    rw [List.getElem?_take, if_pos ht, e1, ← this]
    simp
  · rw [List.getElem?_eq_none (by rw [List.length_take]; omega), List.getElem?_eq_none (by rw [NC_len]; omega)]

theorem info29 : (Try.prog.info? 29).map (fun i => (i.zero, i.size, i.bytes)) = some (some (.agg #[.int .i64 0, .int .i64 0]), 2, 16) := by kernel_rfl

/-- An append of pairs that a slice holds (nil, empty or not) onto a row of the call's own. -/
theorem run_append_pairs (w : World) (base : Nat) (t ty : TypeId) (ht : Try.prog.underlying t = some (.slice 29)) (v : Value) (n : Nat) (l : List (Int × Int)) (hown : w.ownsRow base 29 2 v n (NC l))
    (lo up : Nat) (A : Option Addr) (m c : Nat) (hA : A = none → c = 0) (news : List (Int × Int)) (hr : Nears w lo up A m news) (h63 : n + m ≤ 8000000000) (hbase : base ≤ w.heap.size) :
    ∃ v' w', (Builtin.append_ #[t, t] ty #[v, .slice A m c]).run Try.prog w = .ok v' w' ∧ w'.ownsRow base 29 2 v' (n + m) (NC (l ++ news)) ∧ w.grownBy w' v.ownBlock ∧ (v'.ownBlock = v.ownBlock ∨ v'.ownBlock = some w.heap.size) := by
  obtain ⟨i, hi, hz, hsize, hby⟩ := info_parts info29
  have hzs : (Value.agg #[.int .i64 0, .int .i64 0]).cells.size = 2 := rfl
  have hmax : n + m ≤ maxLen := by unfold maxLen; omega
  have hbytes : (n + m) * 16 ≤ 140737488355328 := by omega
  have hll : (NC news).length = m * 2 := by rw [NC_len, hr.1]
  rw [NC_append]
  by_cases hm : m = 0
  · subst hm
    have hn : news = [] := List.eq_nil_of_length_eq_zero hr.1
    subst hn
    rcases A with _ | ad
    · obtain rfl : c = 0 := hA rfl
      have hrun := run_append_owned_none (P := Try.prog) (w := w) base t ty 29 i 2 ht hi v n (NC l) hown
      exact ⟨v, w, hrun, by simpa [NC] using hown, World.grownBy.refl w _, .inl rfl⟩
    · obtain ⟨v', w', hrun, h2, h3, _, h5⟩ := run_append_own_at (P := Try.prog) w base t ty 29 i _ 2 16 ht hi hz hsize hby hzs (by decide) v n (NC l) hown ad 0 c (NC []) rfl (by intro j u h; simp [NC] at h) (NC_one []) hmax hbytes hbase
      exact ⟨v', w', hrun, h2, h3, h5⟩
  · obtain ⟨b, off, rfl, _, _, hc⟩ := hr.2 (by omega)
    have hcells : ∀ j u, (NC news)[j]? = some u → w.cell? ((⟨b, off, none⟩ : Addr).add j) = some u := by
      refine NC_cells (l := news) (f := fun j => w.cell? ((⟨b, off, none⟩ : Addr).add j)) fun j hj => ?_
      simp only [addr_add]
      exact hc j hj
    obtain ⟨v', w', hrun, h2, h3, _, h5⟩ := run_append_own_at (P := Try.prog) w base t ty 29 i _ 2 16 ht hi hz hsize hby hzs (by decide) v n (NC l) hown ⟨b, off, none⟩ m c (NC news) hll hcells (NC_one news) hmax hbytes hbase
    exact ⟨v', w', hrun, h2, h3, h5⟩
theorem wpList_append_pairs (w : World) {ops : Array Oper} {rest : List Oper} {o : Oper} {a : Act} {Q : Exit → Act → World → Prop} (hgd : o.guard = none) (s x : Operand) (t : TypeId)
    (ho : o.op = .call { callee := .builtin .append, args := #[s, x], argTypes := #[t, t] }) (base : Nat) (ht : Try.prog.underlying t = some (.slice 29)) (v : Value) (n : Nat) (l : List (Int × Int)) (hs : a.eval s = v) (hown : w.ownsRow base 29 2 v n (NC l))
    (lo up : Nat) (A : Option Addr) (m c : Nat) (hx : a.eval x = .slice A m c) (hA : A = none → c = 0) (news : List (Int × Int)) (hr : Nears w lo up A m news) (h63 : n + m ≤ 8000000000) (hbase : base ≤ w.heap.size)
    (h : ∀ v' w', w'.ownsRow base 29 2 v' (n + m) (NC (l ++ news)) → w.grownBy w' v.ownBlock → (v'.ownBlock = v.ownBlock ∨ v'.ownBlock = some w.heap.size) → wpList Try.prog ops Q rest (a.put o.dst v') w') :
    wpList Try.prog ops Q (o :: rest) a w := by
  refine wpList_plain hgd fun K hK => ?_
  obtain ⟨v', w', hr, h2, h3, h5⟩ := run_append_pairs w base t o.type ht v n l hown lo up A m c hA news hr h63 hbase
  unfold Oper.wp execOp
  simp only [ho, resolve, invoke, builtin, Sem.run_bind, Sem.run_pure, Result.andThen_ok, List.map_toArray, List.map_cons, List.map_nil, hs, hx, hr]
  exact hK _ _ (h v' w' h2 h3 h5)
theorem step_append_pairs (w : World) {ops : Array Oper} {o : Oper} {a : Act} {K : Act → World → Prop} {Q : Exit → Act → World → Prop} {E : Prop} (hgd : o.guard = none) (s x : Operand) (t : TypeId)
    (ho : o.op = .call { callee := .builtin .append, args := #[s, x], argTypes := #[t, t] }) (base : Nat) (ht : Try.prog.underlying t = some (.slice 29)) (v : Value) (n : Nat) (l : List (Int × Int)) (hs : a.eval s = v) (hown : w.ownsRow base 29 2 v n (NC l))
    (lo up : Nat) (A : Option Addr) (m c : Nat) (hx : a.eval x = .slice A m c) (hA : A = none → c = 0) (news : List (Int × Int)) (hr : Nears w lo up A m news) (h63 : n + m ≤ 8000000000) (hbase : base ≤ w.heap.size)
    (h : ∀ v' w', w'.ownsRow base 29 2 v' (n + m) (NC (l ++ news)) → w.grownBy w' v.ownBlock → (v'.ownBlock = v.ownBlock ∨ v'.ownBlock = some w.heap.size) → K (a.put o.dst v') w') :
    if Region.wanted o (yielded ops a.tmps) = true then Oper.wp Try.prog o a w K Q else E := by
  have hw : Region.wanted o (yielded ops a.tmps) = true := by simp [Region.wanted, hgd]
  rw [if_pos hw]
  obtain ⟨v', w', hr, h2, h3, h5⟩ := run_append_pairs w base t o.type ht v n l hown lo up A m c hA news hr h63 hbase
  unfold Oper.wp execOp
  simp only [ho, resolve, invoke, builtin, Sem.run_bind, Sem.run_pure, Result.andThen_ok, List.map_toArray, List.map_cons, List.map_nil, hs, hx, hr]
  exact h v' w' h2 h3 h5
end Go.Proofs.Ytdknjeikhdodeaa
