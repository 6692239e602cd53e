/-
  rank's Top in memory: New, Full, Len, Worst, push, Add of one that New made.
-/
import Derived.Test.YtdknjeikhdodeaaPairs
import Derived.Laws.ResultCell
import Derived.Handy
namespace Go.Proofs.Ytdknjeikhdodeaa
open Go.RowKit Go.Sort

/-- Of the old blocks only those in F may have been written. -/
structure Touch (w w' : World) (F : List Nat) : Prop where
  os : w'.os = w.os
  tape : w'.tape = w.tape
  output : w'.output = w.output
  size : w.heap.size ≤ w'.heap.size
  block : ∀ i, i < w.heap.size → i ∉ F → w'.heap[i]? = w.heap[i]?
section
variable {a b c w w' : World} {F F' : List Nat}
theorem Touch.refl (w : World) (F : List Nat) : Touch w w F := ⟨rfl, rfl, rfl, Nat.le_refl _, fun _ _ _ => rfl⟩
theorem Touch.trans (h : Touch a b F) (h2 : Touch b c F) : Touch a c F :=
  ⟨h2.os.trans h.os, h2.tape.trans h.tape, h2.output.trans h.output, Nat.le_trans h.size h2.size, fun i hi hF => (h2.block i (Nat.lt_of_lt_of_le hi h.size) hF).trans (h.block i hi hF)⟩
theorem Touch.then (h : Touch a b F) (h2 : Touch b c F') (hF : ∀ i, i < a.heap.size → i ∈ F' → i ∈ F) : Touch a c F :=
  ⟨h2.os.trans h.os, h2.tape.trans h.tape, h2.output.trans h.output, Nat.le_trans h.size h2.size, fun i hi hn => (h2.block i (Nat.lt_of_lt_of_le hi h.size) (fun hm => hn (hF i hi hm))).trans (h.block i hi hn)⟩
theorem Touch.mono (h : Touch a b F) (hF : ∀ i, i < a.heap.size → i ∈ F → i ∈ F') : Touch a b F' := ⟨h.os, h.tape, h.output, h.size, fun i hi hn => h.block i hi fun hm => hn (hF i hi hm)⟩
theorem touch_below {B : Nat} (h : Below B a b) (hB : B = a.heap.size) (F : List Nat) : Touch a b F := ⟨h.os, h.tape, h.output, h.size, fun i hi _ => h.block i (by omega)⟩
theorem touch_lays (h : Lays a b) (F : List Nat) : Touch a b F := touch_below h.below rfl F
theorem touch_grown {row : Option Nat} (h : a.grownBy b row) (hr : ∀ g, row = some g → g ∈ F) : Touch a b F := ⟨h.os, h.tape, h.output, h.size, fun i hi hn => h.block i hi fun e => hn (hr i e.symm)⟩
theorem Touch.below (h : Touch a b F) {B : Nat} (hB : B ≤ a.heap.size) (hF : ∀ i, i ∈ F → B ≤ i) : Below B a b := ⟨h.os, h.tape, h.output, h.size, fun i hi => h.block i (by omega) fun hm => by have := hF i hm; omega⟩
theorem Blk.touch {g : Nat} {t : TypeId} {cs : Array Value} (h : Blk w g t cs) (ht : Touch w w' F) (hg : g ∉ F) : Blk w' g t cs := (ht.block g h.lt hg).trans h
theorem own_touch {base size n : Nat} {e : TypeId} {v : Value} {xs : List Value} (h : w.ownsRow base e size v n xs) (ht : Touch w w' F) (hg : ∀ g, v.ownBlock = some g → g ∉ F) : w'.ownsRow base e size v n xs := by
  refine ⟨h.1, ?_⟩
  rcases h.2 with h2 | ⟨g, cap, cur, hv, hb, hgg, r⟩
  · exact .inl h2
  · refine .inr ⟨g, cap, cur, hv, hb, (ht.block g (Array.getElem?_eq_some_iff.1 hgg).1 (hg g ?_)).trans hgg, r⟩
    rw [hv]; rfl
end

/-- Block T is a Top of k that New made, its heap is h, in block G if there is one. -/
def TopH (w : World) (T : Nat) (G : Option Nat) (k : Nat) (h : List (Int × Int)) : Prop :=
  ∃ A c, Blk w T 54 #[.bool true, .int .i64 k, .slice A h.length c] ∧ (Value.slice A h.length c).ownBlock = G ∧ w.ownsRow (T + 1) 29 2 (.slice A h.length c) h.length (NC h)
/-- .. that keeps the first k of l. -/
def TopAt (w : World) (T : Nat) (G : Option Nat) (k : Nat) (l : List (Int × Int)) : Prop := ∃ h, TopH w T G k h ∧ Hp h ∧ h.Perm (keep k l)
section
variable {w w' : World} {T k : Nat} {G : Option Nat} {h l : List (Int × Int)} {F : List Nat}
theorem TopH.touch (hT : TopH w T G k h) (ht : Touch w w' F) (h1 : T ∉ F) (h2 : ∀ g, G = some g → g ∉ F) : TopH w' T G k h := by
  obtain ⟨A, c, hB, hG, hown⟩ := hT
  exact ⟨A, c, hB.touch ht h1, hG, own_touch hown ht (by rw [hG]; exact h2)⟩
theorem TopAt.touch (hT : TopAt w T G k l) (ht : Touch w w' F) (h1 : T ∉ F) (h2 : ∀ g, G = some g → g ∉ F) : TopAt w' T G k l := by
  obtain ⟨h, a, b⟩ := hT
  exact ⟨h, a.touch ht h1 h2, b⟩
theorem TopH.lays (hT : TopH w T G k h) (ht : Lays w w') : TopH w' T G k h := hT.touch (touch_lays ht []) (by simp) (by simp)
theorem TopAt.lays (hT : TopAt w T G k l) (ht : Lays w w') : TopAt w' T G k l := hT.touch (touch_lays ht []) (by simp) (by simp)
theorem TopH.lt (hT : TopH w T G k h) : T < w.heap.size ∧ ∀ g, G = some g → T < g ∧ g < w.heap.size := by
  obtain ⟨A, c, hB, hG, hown⟩ := hT
  exact ⟨hB.lt, fun g hg => by have := hown.lt g (hG.trans hg); omega⟩
theorem TopAt.lt (hT : TopAt w T G k l) : T < w.heap.size ∧ ∀ g, G = some g → T < g ∧ g < w.heap.size := by
  obtain ⟨h, a, _⟩ := hT
  exact a.lt
end

theorem unmade_nil (w : World) : Calls Try.prog 26 #[.pointer none] w fun e w' => e = .returned (.bool true) ∧ w = w' := by
  go_enter Try.func26, Try.ntmps26
  go_wp2
  go_ret
  exact ⟨rfl, rfl⟩
theorem unmade_made (w : World) (g : Nat) (hc : w.cell? ⟨g, 0, none⟩ = some (.bool true)) : Calls Try.prog 26 #[.pointer (some ⟨g, 0, none⟩)] w fun e w' => e = .returned (.bool false) ∧ w = w' := by
  go_enter Try.func26, Try.ntmps26
  go_wp2
  go_ret
  exact ⟨rfl, rfl⟩
theorem quiet_l {P : Program} {f : FuncId} {args : Array Value} {w : World} {n : Nat} {v : Value} (h : Calls P f args (w.drewN n) fun e w' => e = .returned v ∧ w.drewN n = w') :
    Calls P f args (w.drewN n) fun e w'' => e = .returned v ∧ ∃ m, w'' = w.drewN m :=
  h.mono fun _ _ ⟨he, hm⟩ => ⟨he, n, hm.symm⟩
theorem quiet_k {P : Program} {f : FuncId} {args : Array Value} {w : World} {n : Nat} {v : Value} (h : Calls P f args (w.drewN n) fun e w' => e = .returned v ∧ ∃ k, w' = (w.drewN n).drewN k) :
    Calls P f args (w.drewN n) fun e w'' => e = .returned v ∧ ∃ m, w'' = w.drewN m :=
  h.mono fun _ _ ⟨he, k, hm⟩ => ⟨he, n + k, by rw [hm, World.drewN_drewN]⟩
set_option maxHeartbeats 800000 in
theorem full_low (w : World) (T n k c : Nat) (A : Option Addr) (b : Bool) (h0 : w.cell? ⟨T, 0, none⟩ = some (.bool true)) (h1 : w.cell? ⟨T, 1, none⟩ = some (.int .i64 k)) (h2 : w.cell? ⟨T, 2, none⟩ = some (.slice A n c)) (hb : ((n : Int) == (k : Int)) = b) :
    Calls Try.prog 13 #[.pointer (some ⟨T, 0, none⟩)] w fun e w' => e = .returned (.bool b) ∧ ∃ q, w' = w.drewN q := by
  go_enter Try.func13, Try.ntmps13
  go_wp2
  go_quiet (first | (go_at_call 26; exact quiet_l (unmade_made _ _ h0)))
  go_wp2
  go_ret
  exact ⟨rfl, _, rfl⟩
theorem full_nil (w : World) : Calls Try.prog 13 #[.pointer none] w fun e w' => e = .returned (.bool false) ∧ ∃ q, w' = w.drewN q := by
  go_enter Try.func13, Try.ntmps13
  go_wp2
  go_quiet (first | (go_at_call 26; exact quiet_l (unmade_nil _)))
  go_wp2
  go_ret
  exact ⟨rfl, _, rfl⟩
theorem len_low (w : World) (T n c : Nat) (A : Option Addr) (h0 : w.cell? ⟨T, 0, none⟩ = some (.bool true)) (h2 : w.cell? ⟨T, 2, none⟩ = some (.slice A n c)) :
    Calls Try.prog 14 #[.pointer (some ⟨T, 0, none⟩)] w fun e w' => e = .returned (.int .i64 n) ∧ w = w' := by
  go_enter Try.func14, Try.ntmps14
  go_wp2_with (go_at_call 26; refine (unmade_made _ _ h0).mono ?_; rintro e w' ⟨rfl, rfl⟩)
  go_ret
  exact ⟨rfl, rfl⟩
theorem len_nil (w : World) : Calls Try.prog 14 #[.pointer none] w fun e w' => e = .returned (.int .i64 0) ∧ w = w' := by
  go_enter Try.func14, Try.ntmps14
  go_wp2_with (go_at_call 26; refine (unmade_nil _).mono ?_; rintro e w' ⟨rfl, rfl⟩)
  go_ret
  exact ⟨rfl, rfl⟩
theorem drewN_alloc (w : World) (o : Obj) (q : Nat) : (w.alloc o).drewN q = (w.drewN q).alloc o := rfl
theorem lays_drewN (w : World) (q : Nat) : Lays w (w.drewN q) := ⟨q, #[], by rw [grow_empty]⟩
theorem lays_alloc (w : World) (o : Obj) : Lays w (w.alloc o) := ⟨0, #[o], by rw [alloc_eq_grow]; rfl⟩
set_option maxHeartbeats 800000 in
theorem worst_nil (w : World) : Calls Try.prog 11 #[.pointer none] w fun e w' => e = .returned (.tuple #[.agg #[.int .i64 0, .int .i64 0], .bool false]) ∧ Lays w w' := by
  go_enter Try.func11, Try.ntmps11
  go_wp2_with fail
  refine (full_nil _).mono ?_
  rintro e w' ⟨rfl, q, rfl⟩
  obtain ⟨w0, hw0, hs⟩ : ∃ w0, w0 = w.drewN q ∧ w0.heap.size = w.heap.size := ⟨_, rfl, rfl⟩
  have HW := hid hw0
  have HL : Hid (Lays w w0) := hid (by rw [hw0]; exact lays_drewN w q)
  rw [drewN_alloc, ← hw0, ← hs]
  clear hw0 hs
  go_wp2
  go_returns
  exact ⟨rfl, HL.out.trans (lays_alloc _ _)⟩
theorem TopH.cells {w : World} {T k : Nat} {G : Option Nat} {h : List (Int × Int)} (hT : TopH w T G k h) : ∃ A c, w.cell? ⟨T, 0, none⟩ = some (.bool true) ∧ w.cell? ⟨T, 1, none⟩ = some (.int .i64 k) ∧ w.cell? ⟨T, 2, none⟩ = some (.slice A h.length c) ∧ w.frozen? ⟨T, 2, none⟩ = false ∧ T < w.heap.size := by
  obtain ⟨A, c, hB, _⟩ := hT
  exact ⟨A, c, hB.cell 0, hB.cell 1, hB.cell 2, hB.frozen 2, hB.lt⟩
theorem full_at (w : World) (T k : Nat) (G : Option Nat) (h : List (Int × Int)) (b : Bool) (hT : TopH w T G k h) (hb : ((h.length : Int) == (k : Int)) = b) :
    Calls Try.prog 13 #[.pointer (some ⟨T, 0, none⟩)] w fun e w' => e = .returned (.bool b) ∧ ∃ q, w' = w.drewN q := by
  obtain ⟨A, c, c0, c1, c2, _⟩ := hT.cells
  exact full_low w T _ k c A b c0 c1 c2 hb
set_option maxHeartbeats 800000 in
/-- Not k of them, or of k 0: nothing. -/
theorem worst_no (w : World) (T k : Nat) (G : Option Nat) (h : List (Int × Int)) (hT : TopH w T G k h) (hk : h.length ≠ k ∨ k = 0) :
    Calls Try.prog 11 #[.pointer (some ⟨T, 0, none⟩)] w fun e w' => e = .returned (.tuple #[.agg #[.int .i64 0, .int .i64 0], .bool false]) ∧ Lays w w' := by
  by_cases hne : h.length = k
  · obtain rfl : k = 0 := by omega
    go_enter Try.func11, Try.ntmps11
    go_wp2_with fail
    refine (full_at _ T 0 G h true (hT.lays (lays_alloc _ _)) (by simp [hne])).mono ?_
    rintro e w' ⟨rfl, q, rfl⟩
    obtain ⟨w0, hw0, hs⟩ : ∃ w0, w0 = w.drewN q ∧ w0.heap.size = w.heap.size := ⟨_, rfl, rfl⟩
    have HL : Hid (Lays w w0) := hid (by rw [hw0]; exact lays_drewN w q)
    obtain ⟨A, c, _, c1, _⟩ := (hT.lays (HL.out.trans (lays_alloc w0 (.cells #[.int .i64 0, .int .i64 0] 29)))).cells
    rw [drewN_alloc, ← hw0, ← hs]
    clear hw0 hs hk hne
    go_wp2
    go_returns
    exact ⟨rfl, HL.out.trans (lays_alloc _ _)⟩
  · go_enter Try.func11, Try.ntmps11
    go_wp2_with fail
    refine (full_at _ T k G h false (hT.lays (lays_alloc _ _)) (by simp; omega)).mono ?_
    rintro e w' ⟨rfl, q, rfl⟩
    obtain ⟨w0, hw0, hs⟩ : ∃ w0, w0 = w.drewN q ∧ w0.heap.size = w.heap.size := ⟨_, rfl, rfl⟩
    have HL : Hid (Lays w w0) := hid (by rw [hw0]; exact lays_drewN w q)
    rw [drewN_alloc, ← hw0, ← hs]
    clear hw0 hs hk hne
    go_wp2
    go_returns
    exact ⟨rfl, HL.out.trans (lays_alloc _ _)⟩
set_option maxHeartbeats 800000 in
/-- Of k, the first of the heap. -/
theorem worst_yes (w : World) (T k : Nat) (G : Option Nat) (h : List (Int × Int)) (hT : TopH w T G k h) (hk : h.length = k) (h0 : 0 < k) :
    Calls Try.prog 11 #[.pointer (some ⟨T, 0, none⟩)] w fun e w' => e = .returned (.tuple #[.agg #[.int .i64 (h.getD 0 (0, 0)).1, .int .i64 (h.getD 0 (0, 0)).2], .bool true]) ∧ Lays w w' := by
  obtain ⟨⟨p1, p2⟩, HP⟩ : ∃ p, Hid (h.getD 0 (0, 0) = p) := ⟨_, hid rfl⟩
  rw [HP.out]
  go_enter Try.func11, Try.ntmps11
  go_wp2_with fail
  refine (full_at _ T k G h true (hT.lays (lays_alloc _ _)) (by simp [hk])).mono ?_
  rintro e w' ⟨rfl, q, rfl⟩
  obtain ⟨w0, hw0, hs⟩ : ∃ w0, w0 = w.drewN q ∧ w0.heap.size = w.heap.size := ⟨_, rfl, rfl⟩
  have HL : Hid (Lays w w0) := hid (by rw [hw0]; exact lays_drewN w q)
  obtain ⟨A, c, hB, hG, hown⟩ := (hT.lays (HL.out.trans (lays_alloc w0 (.cells #[.int .i64 0, .int .i64 0] 29))))
  obtain ⟨_, ⟨_, h2⟩ | ⟨g, cap, e2, _, hh⟩⟩ := heap_of_own hown
  · subst h2; simp at hk; omega
  injection e2 with e2 _ e3
  subst e2 e3
  have c1 := hB.cell 1
  have c2 := hB.cell 2
  obtain ⟨d0, d1⟩ := hh.cell (j := 0) (by omega)
  simp only [Nat.zero_mul, Nat.zero_add] at d0 d1
  rw [HP.out] at d0 d1
  have hlen : 0 < h.length := by omega
  have hkz : ((k : Int) == 0) = false := by simp; omega
  simp at c1 c2
  rw [drewN_alloc, ← hw0, ← hs]
  clear hw0 hs
  go_wp2
  go_returns
  exact ⟨rfl, HL.out.trans (lays_alloc _ _)⟩

/-- What a call that keeps one does to a Top: where its heap lies now, and what was written. -/
def Moved (w w' : World) (T : Nat) (G G' : Option Nat) : Prop := (G' = G ∨ ∃ g, G' = some g ∧ w.heap.size ≤ g) ∧ Touch w w' (T :: G.toList)
theorem own_shape2 {w : World} {base n : Nat} {e : TypeId} {v : Value} {xs : List Value} (h : w.ownsRow base e 2 v n xs) : ∃ A c, v = .slice A n c := by
  rcases h.2 with ⟨rfl, rfl⟩ | ⟨g, cap, cur, rfl, _⟩
  · exact ⟨none, 0, rfl⟩
  · exact ⟨_, cap, rfl⟩
end Go.Proofs.Ytdknjeikhdodeaa
