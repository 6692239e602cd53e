/-
  A disk that a law made: its blocks are new; what calls leave of it, and of another one beside it; literal slices that are handed over.
-/
import Derived.Test.YtkadljomimpnjaaLight6
namespace Go.Proofs.Ytkadljomimpnjaa
open Go.RowKit Go.Maps Dsk

structure Live (w W : World) (d : Nat) (F : List Nat) (D : Dk) (k : Nat) : Prop where
  at_ : DAt W d F D
  fit : Fit D k
  new : ∀ b ∈ F, w.heap.size ≤ b
  below : Below w.heap.size w W
/-- What an operation wrote, and which blocks the disk has then. -/
structure Beside (W W' : World) (F F' : List Nat) : Prop where
  touch : Touch W W' F
  blocks : ∀ b ∈ F', b ∈ F ∨ W.heap.size ≤ b
section
variable {w W W' : World} {d c : Nat} {F F' G : List Nat} {D E : Dk} {k k2 : Nat} {r : Int × Dk} {e : Ending}
theorem Live.lt (L : Live w W d F D k) : ∀ b ∈ F, b < W.heap.size := L.at_.lt
theorem Live.then (L : Live w W d F D k) (hb : Below W.heap.size W W') : Live w W' d F D k := ⟨L.at_.below hb, L.fit, L.new, L.below.trans (hb.mono L.below.size)⟩
theorem Live.mono (L : Live w W d F D k) (h : k ≤ k2) : Live w W d F D k2 := ⟨L.at_, L.fit.mono h, L.new, L.below⟩
theorem Live.draws (L : Live w W d F D k) (n : Nat) : Live w (W.drewN n) d F D k := L.then (below_drewN (Below.refl _ _) n)
/-- What an operation leaves of the disk. -/
def Op (w W : World) (d : Nat) (F : List Nat) (r : Int × Dk) (k : Nat) (e : Ending) (W' : World) : Prop :=
  e = .returned (.int .i64 r.1) ∧ ∃ F', Live w W' d F' r.2 k ∧ Beside W W' F F'
theorem Live.did (L : Live w W d F D k) (h : Did0 W d F r e W') (hf : Fit r.2 k2) : Op w W d F r k2 e W' := by
  obtain ⟨he, F', hd, ht, hF⟩ := h
  refine ⟨he, F', ⟨hd, hf, fun b hb => ?_, ?_⟩, ht, hF⟩
  · rcases hF b hb with h | h
    · exact L.new b h
    · exact Nat.le_trans L.below.size h
  · exact L.below.trans (ht.below L.below.size L.new)
theorem Live.beside (L : Live w W c G E k2) (B : Beside W W' F F') (hb : Below w.heap.size w W') (hap : ∀ b ∈ F, b ∉ G) : Live w W' c G E k2 ∧ ∀ b ∈ F', b ∉ G := by
  refine ⟨⟨L.at_.touch B.touch (fun b hb hm => hap b hm hb), L.fit, L.new, hb⟩, fun b hb' hm => ?_⟩
  rcases B.blocks b hb' with h | h
  · exact hap b h hm
  · have := L.lt b hm; omega
theorem Live.append (L : Live w W d F D k) (hk : k < 100000) (n : Nm) (hl : n.length ≤ 1000) (H : Nat) (A : Option Addr) (len cap : Nat) (b : List UInt8) (harg : Arg W F H A len cap (U b)) :
    Calls Try.prog 11 #[ptr d, S n, .slice A len cap] W (Op w W d F (dAppend D n b) (k + 1)) :=
  (at_append L.at_ L.fit hk n hl H A len cap b harg).mono fun _ _ h => L.did h (act_fit L.fit (.app n b) trivial)
theorem Live.sync (L : Live w W d F D k) (n : Nm) (hl : n.length ≤ 1000) : Calls Try.prog 12 #[ptr d, S n] W (Op w W d F (dSync D n) (k + 1)) :=
  (at_sync L.at_ L.fit n hl).mono fun _ _ h => L.did h (act_fit L.fit (.syn n) trivial)
theorem Live.delete (L : Live w W d F D k) (n : Nm) (hl : n.length ≤ 1000) : Calls Try.prog 32 #[ptr d, S n] W (Op w W d F (dDelete D n) (k + 1)) :=
  (at_delete L.at_ L.fit n hl).mono fun _ _ h => L.did h (act_fit L.fit (.rem n) trivial)
theorem Live.cut (L : Live w W d F D k) (n : Nm) (j : Int) (hl : n.length ≤ 1000) : Calls Try.prog 17 #[ptr d, S n, .int .i64 j] W (Op w W d F (dCut D n j) (k + 1)) :=
  (at_cut L.at_ L.fit n j hl).mono fun _ _ h => L.did h (act_fit L.fit (.cut n j) trivial)
theorem Live.rename (L : Live w W d F D k) (hk : k < 100000) (n m : Nm) (hl : n.length ≤ 1000) (hm : m.length ≤ 1000) : Calls Try.prog 16 #[ptr d, S n, S m] W (Op w W d F (dRename D n m) (k + 1)) :=
  (at_rename L.at_ L.fit hk n m hl hm).mono fun _ _ h => L.did h (act_fit L.fit (.ren n m) trivial)
theorem Live.fuse (L : Live w W d F D k) (j : Int) (hj : j ≤ 9223372036854775807) : Calls Try.prog 10 #[ptr d, .int .i64 j] W (Op w W d F (dFuse D j) (k + 1)) :=
  (at_fuse L.at_ j).mono fun _ _ h => L.did h (act_fit L.fit (.fus j) hj)
theorem Live.crash (L : Live w W d F D k) (hk : k < 100000) (H : Nat) (A : Option Addr) (len cap : Nat) (l : List Int) (harg : Arg W F H A len cap (I l)) (hwf : ∀ x ∈ l, (Lit.int .i64 x).wf = true) :
    Calls Try.prog 15 #[ptr d, .slice A len cap] W (Op w W d F (dCrash D l) (k + 1)) :=
  (at_crash L.at_ L.fit hk H A len cap l harg hwf).mono fun _ _ h => L.did h (act_fit L.fit (.cra l) trivial)
theorem Live.act (L : Live w W d F D k) (hk : k < 100000) (a : Ar) (H : Nat) (hH : H ≤ W.heap.size) (ha : Fine W H a) (hbl : a.bl ≤ 120 ∧ a.kl ≤ 120) :
    Calls Try.prog 26 #[ptr d, .agg a.cells.toArray] W (Op w W d F (Dsk.act D (acOf a)) (k + 1)) :=
  (done_act L.at_ L.fit hk a H hH ha hbl.1 hbl.2).mono fun _ _ h => L.did h (act_fit L.fit (acOf a) (ac_ok a))
theorem arg_nil {xs : List Value} (hx : xs = []) : Arg W F 0 none 0 0 xs := by subst hx; exact ⟨0, Row.empty, Nat.zero_le _, fun _ _ => .inr (Nat.zero_le _), fun _ => rfl, Nat.le_refl _, Nat.zero_le _⟩
theorem arg_lit (t : TypeId) (xs : List Value) (cs : Array Value) (n : Nat) (hc : cs = xs.toArray) (hn : xs.length = n) (hm : n ≤ 1000000) (hF : ∀ b ∈ F, b < W.heap.size) : Arg (W.alloc (.cells cs t)) F (W.heap.size + 1) (some ⟨W.heap.size, 0, none⟩) n n xs := by
  subst hc hn
  have h := own_arg (own_lit W t xs (by unfold maxLen; omega)) hF
  have e : (W.alloc (.cells xs.toArray t)).heap.size = W.heap.size + 1 := by simp
  rw [e] at h
  exact h
end
end Go.Proofs.Ytkadljomimpnjaa
