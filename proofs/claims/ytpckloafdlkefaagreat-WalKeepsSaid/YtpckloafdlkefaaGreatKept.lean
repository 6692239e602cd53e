/-
  What WalKeeps holds in memory: the row of records that are there for sure, the body that is under way; what a fuse and a crash leave of a log.
-/
import Derived.Test.YtpckloafdlkefaaGreatWalB
import Derived.Test.YtpckloafdlkefaaGreatKeepsWal
namespace Go.Proofs.YtpckloafdlkefaaGreat
set_option maxRecDepth 40000
open Go.RowKit Go.Joins Go.Maps Dsk Regs

/-- Blocks [lo, hi) are none of E. -/
def Apt (E : List Nat) (lo hi : Nat) : Prop := ∀ e ∈ E, e < lo ∨ hi ≤ e
theorem Apt.grow {E E' : List Nat} {lo hi z : Nat} (h : Apt E lo hi) (hz : hi ≤ z) (hE : ∀ e ∈ E', e ∈ E ∨ z ≤ e) : Apt E' lo hi := fun e he => (hE e he).elim (h e) (fun h => .inr (Nat.le_trans hz h))
/-- A record's body that lies apart from the blocks E. -/
def Saf (W : World) (E : List Nat) (x : RP) : Prop := ∃ lo hi, Bod W lo hi x ∧ hi ≤ W.heap.size ∧ Apt E lo hi
theorem Saf.step {W W' : World} {E E' F : List Nat} {x : RP} (h : Saf W E x) (ht : Touch W W' F) (hF : ∀ i ∈ F, i ∈ E) (hE : ∀ e ∈ E', e ∈ E ∨ W.heap.size ≤ e) : Saf W' E' x := by
  obtain ⟨lo, hi, hb, h1, h2⟩ := h
  exact ⟨lo, hi, ⟨hb.1.touch ht h1 (fun i hi => h2 i (hF i hi)), hb.2⟩, Nat.le_trans h1 ht.size, h2.grow h1 hE⟩
/-- A row of records of the law's own; G are the blocks of the log and its disk. -/
structure Kept (B : Nat) (W : World) (G : List Nat) (v : Value) (xs : List RP) : Prop where
  own : W.ownsRow B 44 2 v xs.length (RCs xs)
  off : ∀ e, v.ownBlock = some e → e ∉ G
  bod : ∀ x ∈ xs, Saf W (v.ownBlock.toList ++ G) x
theorem Kept.nil (B : Nat) (W : World) (G : List Nat) : Kept B W G (.slice none 0 0) [] := ⟨World.ownsRow_nil _ _ _ _, (fun e he => by cases he), fun x hx => by cases hx⟩
theorem Kept.step {B : Nat} {W W' : World} {G G' F : List Nat} {v : Value} {xs : List RP} (K : Kept B W G v xs) (ht : Touch W W' F) (hF : ∀ i ∈ F, i ∈ G) (hG : ∀ e ∈ G', e ∈ G ∨ W.heap.size ≤ e) : Kept B W' G' v xs := by
  refine ⟨own_touched K.own ht (fun e he hm => K.off e he (hF e hm)), fun e he hm => ?_, fun x hx => (K.bod x hx).step ht (fun i hi => List.mem_append_right _ (hF i hi)) (fun e he => ?_)⟩
  · rcases hG e hm with h | h
    · exact K.off e he h
    · have := (K.own.lt e he).2; omega
  · rcases List.mem_append.1 he with he | he
    · exact .inl (List.mem_append_left _ he)
    · exact (hG e he).imp (fun h => List.mem_append_right _ h) id
theorem Kept.then {B : Nat} {W W' : World} {G : List Nat} {v : Value} {xs : List RP} (K : Kept B W G v xs) (hb : Below W.heap.size W W') : Kept B W' G v xs := K.step (touch_below hb []) (fun _ h => by cases h) (fun _ h => .inl h)
theorem Kept.rl {B : Nat} {W : World} {G : List Nat} {v : Value} {xs : List RP} (K : Kept B W G v xs) : RL W 0 W.heap.size v xs :=
  rl_own (ownsRow_le K.own (Nat.zero_le _)) (fun x hx => by obtain ⟨lo, hi, hb, h1, _⟩ := K.bod x hx; exact hb.wide (Nat.zero_le _) h1)
/-- A record more. -/
theorem Kept.add {B : Nat} {W W' : World} {G : List Nat} {v v' : Value} {xs : List RP} {y : RP} (K : Kept B W G v xs) (hy : Saf W (v.ownBlock.toList ++ G) y) (hG : ∀ e ∈ G, e < W.heap.size)
    (own : W'.ownsRow B 44 2 v' (xs.length + 1) (RCs (xs ++ [y]))) (grow : W.grownBy W' v.ownBlock) (at' : v'.ownBlock = v.ownBlock ∨ v'.ownBlock = some W.heap.size) : Kept B W' G v' (xs ++ [y]) := by
  have ht : Touch W W' v.ownBlock.toList := touch_grown grow (fun g hg => by rw [hg]; simp)
  have ho : ∀ e, v'.ownBlock = some e → v.ownBlock = some e ∨ e = W.heap.size := fun e he => by
    rcases at' with h | h
    · exact .inl (h ▸ he)
    · rw [h] at he; injection he with he; exact .inr he.symm
  refine ⟨by rw [List.length_append]; exact own, fun e he hm => ?_, fun x hx => ?_⟩
  · rcases ho e he with h | h
    · exact K.off e h hm
    · have := hG e hm; omega
  · have hs : Saf W (v.ownBlock.toList ++ G) x := by
      rcases List.mem_append.1 hx with h | h
      · exact K.bod x h
      · rw [List.mem_singleton] at h; rw [h]; exact hy
    refine hs.step ht (fun i hi => List.mem_append_left _ hi) (fun e he => ?_)
    rcases List.mem_append.1 he with he | he
    · rcases ho e (by simpa using he) with h | h
      · exact .inl (List.mem_append_left _ (by simpa using h))
      · exact .inr (by omega)
    · exact .inl (List.mem_append_right _ he)
/-- The body under way, behind a byte. -/
def Und (W : World) (E : List Nat) (un : Option (List UInt8)) (u : Value) : Prop :=
  (un = none ∧ u = .slice none 0 0) ∨ ∃ b A n c lo hi, un = some b ∧ u = .slice A n c ∧ Row W lo hi A n (U (1 :: b)) ∧ n ≤ c ∧ c ≤ maxLen ∧ hi ≤ W.heap.size ∧ Apt E lo hi
theorem Und.step {W W' : World} {E E' F : List Nat} {un : Option (List UInt8)} {u : Value} (h : Und W E un u) (ht : Touch W W' F) (hF : ∀ i ∈ F, i ∈ E) (hE : ∀ e ∈ E', e ∈ E ∨ W.heap.size ≤ e) : Und W' E' un u := by
  rcases h with h | ⟨b, A, n, c, lo, hi, h1, h2, h3, h4, h5, h6, h7⟩
  · exact .inl h
  · exact .inr ⟨b, A, n, c, lo, hi, h1, h2, h3.touch ht h6 (fun i hi => h7 i (hF i hi)), h4, h5, Nat.le_trans h6 ht.size, h7.grow h6 hE⟩
/-- What lies behind the first byte. -/
theorem Und.rest {W : World} {E : List Nat} {b : List UInt8} {A : Option Addr} {n c : Nat} (h : Und W E (some b) (.slice A n c)) : ∃ bb off, A = some ⟨bb, off, none⟩ ∧ 1 ≤ n ∧ n ≤ c ∧ c ≤ maxLen ∧ Row W 0 W.heap.size (if c = 1 then A else A.map (·.add 1)) (n - 1) (U b) := by
  rcases h with ⟨h, _⟩ | ⟨b', A', n', c', lo, hi, h1, h2, h3, h4, h5, h6, h7⟩
  · cases h
  · injection h1 with h1
    injection h2 with e1 e2 e3
    subst h1 e1 e2 e3
    have hl := h3.len
    rw [U_len, List.length_cons] at hl
    obtain ⟨bb, off, e, _⟩ := h3.2 (by omega)
    have hd := h3.drop (k := 1) (cap := c) (by omega) h4
    rw [U_drop] at hd
    exact ⟨bb, off, e, by omega, h4, h5, hd.wide (Nat.zero_le _) h6⟩
section
variable {w W W' : World} {g d : Nat} {F : List Nat} {s : WS} {k : Nat}
theorem LLog.oper (L : LLog w W g d F s k) {r : Int × Dk} {e : Ending} {k2 : Nat} (h : Did0 W d F r e W') (hf : Fit r.2 k2) : e = .returned (.int .i64 r.1) ∧ LNext w W g d F ⟨r.2, s.nx, s.br⟩ k2 W' := by
  obtain ⟨he, F', hd, ht, hF⟩ := h
  refine ⟨he, L.did (s2 := ⟨r.2, s.nx, s.br⟩) ⟨F', ⟨Blk.touch L.log.blk ht L.log.off, hd, fun hm => ?_⟩, ht.mono (fun i _ hi => List.mem_cons_of_mem _ hi), hF⟩ hf⟩
  rcases hF g hm with h | h
  · exact L.log.off h
  · have := Blk.lt L.log.blk; omega
theorem LLog.fuse (L : LLog w W g d F s k) (j : Int) (hj : j ≤ 9223372036854775807) :
    Calls Tryz.prog 15 #[ptr d, .int .i64 j] W fun e W' => e = .returned (.int .i64 (dFuse s.D j).1) ∧ LNext w W g d F ⟨(dFuse s.D j).2, s.nx, s.br⟩ (k + 1) W' :=
  (at_fuse L.log.at_ j).mono fun _ _ h => L.oper h (act_fit L.fit (.fus j) hj)
theorem LLog.crash (L : LLog w W g d F s k) (hk : k < 100000) (H : Nat) (A : Option Addr) (len cap : Nat) (l : List Int) (harg : Arg W F H A len cap (I l)) (hwf : ∀ x ∈ l, (Lit.int .i64 x).wf = true) :
    Calls Tryz.prog 16 #[ptr d, .slice A len cap] W fun e W' => e = .returned (.int .i64 (dCrash s.D l).1) ∧ LNext w W g d F ⟨(dCrash s.D l).2, s.nx, s.br⟩ (k + 1) W' :=
  (at_crash L.log.at_ L.fit hk H A len cap l harg hwf).mono fun _ _ h => L.oper h (act_fit L.fit (.cra l) trivial)
theorem LNext.kept {B : Nat} {v : Value} {xs : List RP} {s2 : WS} {k2 : Nat} (K : Kept B W (g :: F) v xs) (h : LNext w W g d F s2 k2 W') : ∃ F', LLog w W' g d F' s2 k2 ∧ Kept B W' (g :: F') v xs ∧ ∀ un u, Und W (v.ownBlock.toList ++ g :: F) un u → Und W' (v.ownBlock.toList ++ g :: F') un u := by
  obtain ⟨F', hL, hT, hF⟩ := h
  have hG : ∀ e ∈ g :: F', e ∈ g :: F ∨ W.heap.size ≤ e := fun e he => by
    rcases List.mem_cons.1 he with h | h
    · exact .inl (h ▸ List.mem_cons_self)
    · exact (hF e h).imp (fun h => List.mem_cons_of_mem _ h) id
  refine ⟨F', hL, K.step hT (fun _ h => h) hG, fun un u hu => hu.step hT (fun i hi => List.mem_append_right _ hi) (fun e he => ?_)⟩
  rcases List.mem_append.1 he with he | he
  · exact .inl (List.mem_append_left _ he)
  · exact (hG e he).imp (fun h => List.mem_append_right _ h) id
end
/-- What the law knows between two acts. -/
structure KS (w W : World) (g d : Nat) (F : List Nat) (s : WS) (k : Nat) (hv : List Rec) (un : Option (List UInt8)) (v : Value) (xs : List RP) (u : Value) : Prop where
  log : LLog w W g d F s (4 * k + 1)
  holds : Holds hv un s
  kept : Kept w.heap.size W (g :: F) v xs
  recs : xs.map RP.r = hv
  und : Und W (v.ownBlock.toList ++ g :: F) un u
  few : hv.length ≤ k
  low : ∀ r ∈ hv, r.2.length ≤ 100
  und_low : ∀ b, un = some b → b.length ≤ 100
  next : s.nx ≤ k + 1
theorem log_len_le {rs : List Rec} (h : ∀ r ∈ rs, r.2.length ≤ 100) : (logB rs).length ≤ 116 * rs.length := by
  induction rs with
  | nil => simp [logB, flat]
  | cons r l ih =>
    have e : logB (r :: l) = logB [r] ++ logB l := by rw [← logB_append]; rfl
    have h1 := ih (fun q hq => h q (List.mem_cons_of_mem _ hq))
    have h2 := h r List.mem_cons_self
    rw [e, List.length_append, logB_one, frm_len, pay_len, List.length_cons]
    omega
theorem holds_len {hv : List Rec} {un : Option (List UInt8)} {s : WS} (h : Holds hv un s) (hl : ∀ r ∈ hv, r.2.length ≤ 100) (hu : ∀ b, un = some b → b.length ≤ 100) : (Dsk.file s.D logN).b.length ≤ 116 * hv.length + 116 := by
  have h0 := log_len_le hl
  rcases h.file with ⟨h1, _⟩ | ⟨f, h1, _, h3⟩
  · unfold Dsk.file
    rw [h1, get_nil]
    simp
  · unfold Dsk.file
    rw [h1, get_one]
    simp only [Option.getD_some]
    rcases h3 with h3 | ⟨b, hb, _, h3⟩
    · rw [h3]; omega
    · have h4 := hu b hb
      rw [h3, List.length_append, frm_len, pay_len]
      simp only
      omega
theorem chain_by {nx : Option Nat} {rs : List Rec} (h : Chain nx rs) {k : Nat} {p q : Rec} (hp : rs[k]? = some p) (hq : rs[k + 1]? = some q) : q.1 = p.1 + 1 := by
  induction rs generalizing nx k with
  | nil => cases hp
  | cons r l ih =>
    cases k with
    | succ k => exact ih h.2.2.2 (by simpa using hp) (by simpa using hq)
    | zero =>
      rw [List.getElem?_cons_zero] at hp
      injection hp with hp
      subst hp
      cases l with
      | nil => simp at hq
      | cons x l =>
        rw [List.getElem?_cons_succ, List.getElem?_cons_zero] at hq
        injection hq with hq
        subst hq
        rcases h.2.2.2.2.2.1 with h1 | h1
        · cases h1
        · injection h1 with h1; exact h1.symm
theorem nextOf_le {hv : List Rec} {un : Option (List UInt8)} {s : WS} (h : Holds hv un s) : nextOf hv ≤ s.nx := by
  unfold nextOf
  rcases h.next with h1 | h1
  · rw [h1]; exact h.low
  · rw [h1]; exact Nat.le_refl _
theorem wReset_nx (s : WS) : (wReset s).2.nx = s.nx := by
  unfold wReset
  split
  · rfl
  · split <;> rfl
section
variable {w W W' : World} {g d : Nat} {F : List Nat} {s : WS} {k : Nat} {hv : List Rec} {un : Option (List UInt8)} {v u : Value} {xs : List RP}
theorem LLog.more {k2 : Nat} (L : LLog w W g d F s k) (h : k ≤ k2) : LLog w W g d F s k2 := ⟨L.log, L.fit.mono h, L.new, L.newg, L.below⟩
theorem KS.then (K : KS w W g d F s k hv un v xs u) (hb : Below W.heap.size W W') : KS w W' g d F s k hv un v xs u :=
  ⟨K.log.then hb, K.holds, K.kept.then hb, K.recs, K.und.step (touch_below hb []) (fun _ h => by cases h) (fun _ h => .inl h), K.few, K.low, K.und_low, K.next⟩
theorem KS.pass (K : KS w W g d F s k hv un v xs u) : KS w W g d F s (k + 1) hv un v xs u :=
  ⟨K.log.more (by omega), K.holds, K.kept, K.recs, K.und, by have := K.few; omega, K.low, K.und_low, by have := K.next; omega⟩
theorem KS.lt (K : KS w W g d F s k hv un v xs u) : ∀ e ∈ g :: F, e < W.heap.size := fun e he => by
  rcases List.mem_cons.1 he with h | h
  · rw [h]; exact Blk.lt K.log.log.blk
  · exact K.log.log.at_.lt e h
theorem KS.fused (K : KS w W g d F s k hv un v xs u) {j : Int} (h : LNext w W g d F ⟨(dFuse s.D j).2, s.nx, s.br⟩ (4 * k + 1 + 1) W') : ∃ F', KS w W' g d F' ⟨(dFuse s.D j).2, s.nx, s.br⟩ (k + 1) hv un v xs u := by
  obtain ⟨F', hL, hK, hU⟩ := h.kept K.kept
  exact ⟨F', hL.more (by omega), holds_fuse K.holds j, hK, K.recs, hU _ _ K.und, by have := K.few; omega, K.low, K.und_low, by have := K.next; show s.nx ≤ _; omega⟩
theorem KS.idle (K : KS w W g d F s k hv un v xs u) (hb : s.br = false) : un = none ∧ u = .slice none 0 0 := by
  have h := (K.holds.up hb).2
  subst h
  rcases K.und with h | ⟨b, A, n, c, lo, hi, h, _⟩
  · exact h
  · cases h
theorem KS.reset0 (K : KS w W g d F s k hv un v xs u) (hb : s.br = false) (h : LNext w W g d F (wReset s).2 (4 * k + 1 + 1) W') (h0 : (wReset s).1 = 0) : ∃ F', KS w W' g d F' (wReset s).2 (k + 1) [] none (.slice none 0 0) [] u := by
  obtain ⟨F', hL, hK, hU⟩ := h.kept K.kept
  obtain ⟨rfl, rfl⟩ := K.idle hb
  exact ⟨F', hL.more (by omega), (holds_reset K.holds hb).1 h0, Kept.nil _ _ _, rfl, .inl ⟨rfl, rfl⟩, Nat.zero_le _, (fun r hr => by cases hr), (fun b hb => by cases hb), by rw [wReset_nx]; have := K.next; omega⟩
theorem KS.reset1 (K : KS w W g d F s k hv un v xs u) (hb : s.br = false) (h : LNext w W g d F (wReset s).2 (4 * k + 1 + 1) W') (h0 : (wReset s).1 ≠ 0) : ∃ F', KS w W' g d F' (wReset s).2 (k + 1) hv none v xs u := by
  obtain ⟨F', hL, hK, hU⟩ := h.kept K.kept
  obtain ⟨rfl, rfl⟩ := K.idle hb
  exact ⟨F', hL.more (by omega), ((holds_reset K.holds hb).2 h0).2, hK, K.recs, .inl ⟨rfl, rfl⟩, by have := K.few; omega, K.low, (fun b hb => by cases hb), by rw [wReset_nx]; have := K.next; omega⟩
/-- An Append that answered OK; the record is put down then. -/
theorem KS.app0 (K : KS w W g d F s k hv un v xs u) (hb : s.br = false) {b : List UInt8} (hl : b.length ≤ 100) (h : LNext w W g d F (wApp s b).2.2 (4 * k + 1 + 2) W') (h0 : (wApp s b).1 = 0) (hk : k ≤ 1000) :
    (wApp s b).2.1 = s.nx ∧ ∃ F', LLog w W' g d F' (wApp s b).2.2 (4 * (k + 1) + 1) ∧ Kept w.heap.size W' (g :: F') v xs ∧ (∀ e ∈ g :: F', e < W'.heap.size) ∧
      ∀ W2 v' y, LLog w W2 g d F' (wApp s b).2.2 (4 * (k + 1) + 1) → Kept w.heap.size W2 (g :: F') v' (xs ++ [y]) → y.r = (s.nx, b) → KS w W2 g d F' (wApp s b).2.2 (k + 1) (hv ++ [(s.nx, b)]) none v' (xs ++ [y]) u := by
  obtain ⟨F', hL, hK, hU⟩ := h.kept K.kept
  obtain ⟨rfl, rfl⟩ := K.idle hb
  rcases holds_append K.holds hb (by have := K.next; omega) b (by omega) with ⟨_, e2, e3, _, e5⟩ | ⟨e1, _⟩ | ⟨e1, _⟩
  · refine ⟨e2, F', hL.more (by omega), hK, fun e he => ?_, fun W2 v' y L2 K2 hy => ⟨L2, e5, K2, by rw [List.map_append, K.recs]; simp [hy], .inl ⟨rfl, rfl⟩, by rw [List.length_append]; have := K.few; simp; omega, fun r hr => ?_, (fun b hb => by cases hb), by rw [e3]; have := K.next; omega⟩⟩
    · rcases List.mem_cons.1 he with h | h
      · rw [h]; exact Blk.lt hL.log.blk
      · exact hL.log.at_.lt e h
    · rcases List.mem_append.1 hr with hr | hr
      · exact K.low r hr
      · rw [List.mem_singleton] at hr; rw [hr]; exact hl
  · rw [h0] at e1; cases e1
  · rw [h0] at e1; cases e1
/-- An Append that was refused, or broke the log. -/
theorem KS.app1 (K : KS w W g d F s k hv un v xs u) (hb : s.br = false) {b : List UInt8} (hl : b.length ≤ 100) (h : LNext w W g d F (wApp s b).2.2 (4 * k + 1 + 2) W') (h0 : (wApp s b).1 ≠ 0) (hk : k ≤ 1000) :
    ∃ F', ((wApp s b).2.2.br = false ∧ KS w W' g d F' (wApp s b).2.2 (k + 1) hv none v xs u) ∨ ((wApp s b).2.2.br = true ∧ LLog w W' g d F' (wApp s b).2.2 (4 * (k + 1) + 1) ∧ (∀ e ∈ v.ownBlock.toList ++ g :: F', e < W'.heap.size) ∧
      ∀ W2 u', Below W'.heap.size W' W2 → Und W2 (v.ownBlock.toList ++ g :: F') (some b) u' → KS w W2 g d F' (wApp s b).2.2 (k + 1) hv (some b) v xs u') := by
  obtain ⟨F', hL, hK, hU⟩ := h.kept K.kept
  obtain ⟨rfl, rfl⟩ := K.idle hb
  have hlt : ∀ e ∈ v.ownBlock.toList ++ g :: F', e < W'.heap.size := fun e he => by
    rcases List.mem_append.1 he with h | h
    · exact (hK.own.lt e (by simpa using h)).2
    · rcases List.mem_cons.1 h with h | h
      · rw [h]; exact Blk.lt hL.log.blk
      · exact hL.log.at_.lt e h
  rcases holds_append K.holds hb (by have := K.next; omega) b (by omega) with ⟨e1, _⟩ | ⟨_, e2⟩ | ⟨_, e2, e3, e4⟩
  · exact absurd e1 h0
  · refine ⟨F', .inl ⟨by rw [e2]; exact hb, ?_⟩⟩
    have hL' := hL.more (k2 := 4 * (k + 1) + 1) (by omega)
    rw [e2] at hL' ⊢
    exact ⟨hL', K.holds, hK, K.recs, .inl ⟨rfl, rfl⟩, by have := K.few; omega, K.low, (fun b hb => by cases hb), by have := K.next; omega⟩
  · refine ⟨F', .inr ⟨e2, hL.more (by omega), hlt, fun W2 u' hb2 hu => ⟨(hL.more (by omega)).then hb2, e4, hK.then hb2, K.recs, hu, by have := K.few; omega, K.low, fun c hc => ?_, by rw [e3]; have := K.next; omega⟩⟩⟩
    injection hc with hc
    subst hc
    exact hl
theorem LLog.aside {E : List Nat} (L : LLog w W g d F s k) (ht : Touch W W' E) (hE : ∀ e ∈ E, e ∉ g :: F ∧ w.heap.size ≤ e) : LLog w W' g d F s k :=
  ⟨⟨Blk.touch L.log.blk ht (fun h => (hE g h).1 List.mem_cons_self), L.log.at_.touch ht (fun b hb hm => (hE b hm).1 (List.mem_cons_of_mem _ hb)), L.log.off⟩, L.fit, L.new, L.newg, L.below.trans (ht.below L.below.size (fun e he => (hE e he).2))⟩
end
/-- The same append, as one step of a region that draws its order. -/
theorem step_append_rec (w : World) {ops : Array Oper} {o : Oper} {a : Act} {K : Act → World → Prop} {Q : Exit → Act → World → Prop} {E : Prop} (hgd : o.guard = none) (s x : Operand) (t : TypeId)
    (ho : o.op = .call { callee := .builtin .append, args := #[s, x], argTypes := #[t, t] }) (base : Nat) (ht : Tryz.prog.underlying t = some (.slice 44)) (v : Value) (n : Nat) (l : List RP) (hs : a.eval s = v) (hown : w.ownsRow base 44 2 v n (RCs l))
    (g c : Nat) (hx : a.eval x = .slice (some ⟨g, 0, none⟩) 1 c) (y : RP) (hr : ∀ j u, (RCs [y])[j]? = some u → w.cell? ⟨g, j, none⟩ = some u) (h63 : n + 1 ≤ 1000000000) (hbase : base ≤ w.heap.size)
    (h : ∀ v' w', w'.ownsRow base 44 2 v' (n + 1) (RCs (l ++ [y])) → w.grownBy w' v.ownBlock → (v'.ownBlock = v.ownBlock ∨ v'.ownBlock = some w.heap.size) → K (a.put o.dst v') w') :
    if Region.wanted o (yielded ops a.tmps) = true then Oper.wp Tryz.prog o a w K Q else E := by
  obtain ⟨i, hi, hz, hsize, hby⟩ := info_parts info_rec
  have hw : Region.wanted o (yielded ops a.tmps) = true := by simp [Region.wanted, hgd]
  rw [if_pos hw]
  obtain ⟨v', w', hr, h2, h3, _, h5⟩ := run_append_own_at (P := Tryz.prog) w base t o.type 44 i _ 2 32 ht hi hz hsize hby rfl (by decide) v n (RCs l) hown ⟨g, 0, none⟩ 1 c (RCs [y]) rfl (fun j u hu => by rw [addr_add, Nat.zero_add]; exact hr j u hu) (RCs_one _) (by unfold maxLen; omega) (by omega) hbase
  rw [← RCs_append] at h2
  unfold Oper.wp execOp
  simp only [ho, resolve, invoke, builtin, Sem.run_bind, Sem.run_pure, Result.andThen_ok, List.map_toArray, List.map_cons, List.map_nil, hs, hx, hr]
  exact h v' w' h2 h3 h5
/-- What Open made of a disk behind a crash, whatever is written beside it later. -/
theorem ks_born {w w7 w8 W : World} {g2 d : Nat} {F7 F8 E : List Nat} {s' : WS} {k m8 : Nat} {m : List Rec} {v2 : Value} {us : List RP} (L : LLog w w8 g2 d F8 s' (4 * (k + 1) + 1)) (how : OpenOwn w7 w8 m8 v2 us) (hm8 : m8 ≤ g2) (h7 : w.heap.size ≤ w7.heap.size)
    (hF7 : ∀ b ∈ F7, b < w7.heap.size) (hF8 : ∀ b ∈ F8, b ∈ F7 ∨ m8 ≤ b) (holds : Holds m none s') (recs : us.map RP.r = m) (few : m.length ≤ k + 1) (low : ∀ r ∈ m, r.2.length ≤ 100) (next : s'.nx ≤ k + 1 + 1)
    (ht : Touch w8 W E) (hE : ∀ e ∈ E, e < w7.heap.size ∧ w.heap.size ≤ e ∧ e ∉ g2 :: F8) : KS w W g2 d F8 s' (k + 1) m none v2 us (.slice none 0 0) := by
  have hm : m8 ≤ w8.heap.size := by have := Blk.lt L.log.blk; omega
  have how2 := how.touch ht hm (fun i hi => .inl (hE i hi).1)
  obtain ⟨h1, b, h2, h3, h4⟩ := how2
  refine ⟨L.aside ht (fun e he => ⟨(hE e he).2.2, (hE e he).2.1⟩), holds, ⟨ownsRow_le h1 h7, fun e he hmem => ?_, fun x hx => ⟨w7.heap.size, b, h3 x hx, by have := ht.size; omega, fun e he => ?_⟩⟩, recs, .inl ⟨rfl, rfl⟩, few, low, (fun b hb => by cases hb), next⟩
  · have a1 := h4 e he
    have a2 := (h1.lt e he).1
    rcases List.mem_cons.1 hmem with h | h
    · omega
    · rcases hF8 e h with h | h
      · have := hF7 e h; omega
      · omega
  · rcases List.mem_append.1 he with he | he
    · exact .inr (h4 e (by simpa using he)).1
    · rcases List.mem_cons.1 he with h | h
      · right; omega
      · rcases hF8 e h with h | h
        · exact .inl (hF7 e h)
        · right; omega
/-- How many records, and how great the next one's Seq, behind a crash. -/
theorem ks_after {w W : World} {g d : Nat} {F : List Nat} {s : WS} {k : Nat} {hv m : List Rec} {un : Option (List UInt8)} {v u : Value} {xs : List RP} (K : KS w W g d F s k hv un v xs u) (hm : m = hv ∨ ∃ b, un = some b ∧ m = hv ++ [(s.nx, b)]) :
    m.length ≤ k + 1 ∧ (∀ r ∈ m, r.2.length ≤ 100) ∧ nextOf m ≤ k + 1 + 1 := by
  have h1 := K.few
  have h2 := nextOf_le K.holds
  have h3 := K.next
  rcases hm with rfl | ⟨b, hb, rfl⟩
  · exact ⟨by omega, K.low, by omega⟩
  · refine ⟨by rw [List.length_append]; simp; omega, fun r hr => ?_, by rw [nextOf_snoc]; show s.nx + 1 ≤ _; omega⟩
    rcases List.mem_append.1 hr with hr | hr
    · exact K.low r hr
    · rw [List.mem_singleton] at hr; rw [hr]; exact K.und_low b hb
/-- The three ways in which what Open reads may stand to what is known. -/
theorem ks_three {W : World} {E : List Nat} {hv m : List Rec} {un : Option (List UInt8)} {u : Value} {nx : Nat} (hu : Und W E un u) (hm : m = hv ∨ ∃ b, un = some b ∧ m = hv ++ [(nx, b)]) :
    (u = .slice none 0 0 ∧ m = hv) ∨ (∃ bb off n c, u = .slice (some ⟨bb, off, none⟩) n c ∧ m = hv) ∨ (∃ b bb off n c, u = .slice (some ⟨bb, off, none⟩) n c ∧ m = hv ++ [(nx, b)] ∧ 1 ≤ n ∧ n ≤ c ∧ c ≤ maxLen ∧ Row W 0 W.heap.size (if c = 1 then some ⟨bb, off, none⟩ else some ⟨bb, off + 1, none⟩) (n - 1) (U b)) := by
  rcases hu with ⟨h1, h2⟩ | ⟨b, A, n, c, lo, hi, h1, h2, h3⟩
  · refine .inl ⟨h2, ?_⟩
    rcases hm with h | ⟨b, hb, _⟩
    · exact h
    · rw [h1] at hb; cases hb
  · have hu2 : Und W E (some b) (.slice A n c) := .inr ⟨b, A, n, c, lo, hi, rfl, rfl, h3⟩
    obtain ⟨bb, off, rfl, a1, a2, a3, a4⟩ := hu2.rest
    rcases hm with h | ⟨b', hb, h⟩
    · exact .inr (.inl ⟨bb, off, n, c, h2, h⟩)
    · rw [h1] at hb
      injection hb with hb
      subst hb
      rw [Option.map_some, addr_add] at a4
      exact .inr (.inr ⟨b, bb, off, n, c, h2, h, a1, a2, a3, a4⟩)
end Go.Proofs.YtpckloafdlkefaaGreat
