/-
  What is taken away and added again is there; a vector's bytes are read again: the arithmetic, and the walk of VecSums.
-/
import Derived.Test.YtcaleaecjoafhaaLives3
import Derived.Test.YtcaleaecjoafhaaSames
import Derived.Test.YtcaleaecjoafhaaRead
namespace Go.Proofs.Ytcaleaecjoafhaa
open Go.RowKit

theorem sgn_back {x : Int} (h1 : -32768 ≤ x) (h2 : x ≤ 32767) : sgn (num (putB (IntKind.u64.wrap x) 2)) 2 = x := by
  rw [num_putB, IntKind.wrap_u64]
  unfold sgn
  rw [if_neg (by omega), if_neg (by omega)]
  simp only [show (256 : Int) ^ (2 : Int).toNat = 65536 by decide, show (256 : Nat) ^ 2 = 65536 by decide]
  split <;> omega
theorem rds_bts (l : List Int) (h : ∀ x ∈ l, -32768 ≤ x ∧ x ≤ 32767) : rds (bts l) = l := by
  induction l with
  | nil => rfl
  | cons x l ih =>
    obtain ⟨h1, h2⟩ := h x List.mem_cons_self
    have e : putB (IntKind.u64.wrap x) 2 = [byteAt (IntKind.u64.wrap x) 0, byteAt (IntKind.u64.wrap x) 1] := by simp [putB, List.range_succ]
    have hb := sgn_back h1 h2
    rw [e] at hb
    have hc : bts (x :: l) = byteAt (IntKind.u64.wrap x) 0 :: byteAt (IntKind.u64.wrap x) 1 :: bts l := by
      simp only [bts, List.flatMap_cons, e]
      rfl
    rw [hc, rds, hb, ih fun y hy => h y (List.mem_cons_of_mem _ hy)]
theorem rdV_bts {l : List Int} (h : ∀ x ∈ l, -32768 ≤ x ∧ x ≤ 32767) (hl : l.length ≤ 1024) : rdE (bts l) = 0 ∧ rdV (bts l) = l := by
  have e : rdE (bts l) = 0 := by
    unfold rdE
    rw [bts_len, if_neg (by omega), if_neg (by omega)]
  exact ⟨e, by unfold rdV; rw [if_pos e, rds_bts l h]⟩
theorem mix_back {a b : List Int} (h : a.length = b.length) : mix 1 (mix (-1) a b) b = a := by
  induction a generalizing b with
  | nil => cases b <;> rfl
  | cons x a ih =>
    cases b with
    | nil => simp at h
    | cons y b =>
      have := ih (b := b) (by simpa using h)
      simp only [mix, List.zipWith_cons_cons] at this ⊢
      rw [this, show x + -1 * y + 1 * y = x by omega]
theorem sq2_nought {a b : List Int} (h : a.length = b.length) : sq2 (mix (-1) a b) (List.replicate a.length 0) = sq2 a b := by
  induction a generalizing b with
  | nil => cases b <;> rfl
  | cons x a ih =>
    cases b with
    | nil => simp at h
    | cons y b =>
      have := ih (b := b) (by simpa using h)
      simp only [mix, List.zipWith_cons_cons, List.length_cons, List.replicate_succ, sq2] at this ⊢
      rw [this, show x + -1 * y - 0 = x - y by omega]
theorem cw_nought {n : Nat} (h1 : 1 ≤ n) (h2 : n ≤ 1024) : cw (List.replicate n 0) = 0 :=
  cw_mk (by simpa using h1) (by simpa using h2) fun x hx => by
    obtain ⟨_, rfl⟩ := List.mem_replicate.1 hx
    omega
theorem sums_facts {a b : List Int} (h : er (-1) a b = 0) : cp a b = 0 ∧ (mx (-1) a b).length = a.length ∧ er 1 (mx (-1) a b) b = 0 ∧ mx 1 (mx (-1) a b) b = a ∧
    cp (mx (-1) a b) (List.replicate a.length 0) = 0 ∧ dd (mx (-1) a b) (List.replicate a.length 0) = dd a b := by
  have e : mx (-1) a b = mix (-1) a b := by rw [mx, if_pos h]
  have hcp : cp a b = 0 := by
    unfold er at h
    split at h
    · assumption
    · rename_i hc; exact absurd h hc
  have hcw : cw (mix (-1) a b) = 0 := by
    unfold er at h
    rwa [if_pos hcp] at h
  obtain ⟨c1, c2, c3⟩ := cp_zero hcp
  obtain ⟨l1, l2, _⟩ := cw_zero c1
  have hl := mix_len (-1) c3
  rw [e]
  have q : cp (mix (-1) a b) b = 0 := cp_mk hcw c2 (by omega)
  have q2 : er 1 (mix (-1) a b) b = 0 := by rw [er, if_pos q, mix_back c3]; exact c1
  have q3 : cp (mix (-1) a b) (List.replicate a.length 0) = 0 := cp_mk hcw (cw_nought l1 l2) (by simp [hl])
  exact ⟨hcp, hl, q2, by rw [mx, if_pos q2, mix_back c3], q3, by rw [dd_ok q3, dd_ok hcp, sq2_nought c3]⟩
theorem mx_none {t : Int} {a b : List Int} (h : ¬ er t a b = 0) : mx t a b = [] := by rw [mx, if_neg h]

set_option maxRecDepth 100000 in
set_option maxHeartbeats 3200000 in
theorem vecSums_walk (A B C : Option Addr) (n m k c d g : Nat) (a b l : List Int) (w : World) (hA : Row w 0 w.heap.size A n (IK .i32 a)) (hB : Row w 0 w.heap.size B m (IK .i32 b)) (hC : Row w 0 w.heap.size C k (IK .i16 l))
    (hl : ∀ x ∈ l, -32768 ≤ x ∧ x ≤ 32767) (hn : n ≤ 9223372036854775807) (hm : m ≤ 9223372036854775807) (hk : k ≤ 9223372036854775807) :
    Calls Try.prog 8 #[.slice A n c, .slice B m d, .slice C k g] w fun e w' => e = .returned (.bool true) ∧ Below w.heap.size w w' := by
  have HLA : Hid (a.length = n) := by have := hA.len; rwa [IK_len] at this
  have HLC : Hid (l.length = k) := by have := hC.len; rwa [IK_len] at this
  have HLL := hid hl
  clear hl
  go_enter Try.func8, Try.ntmps8
  go_wp2_with fail
  refine (lives_any w).mono ?_
  rintro e w1 ⟨rfl, hb⟩
  by_cases h1 : 1100 < n
  · go_wp2
    go_ret
    exact ⟨rfl, hb⟩
  by_cases h2 : 1100 < m
  · go_wp2
    go_ret
    exact ⟨rfl, hb⟩
  by_cases h3 : 1024 < k
  · go_wp2
    go_ret
    exact ⟨rfl, hb⟩
  have s1 := hb.size
  go_wp2_with fail
  refine (bytes_any C k g _ _ l w1 (hC.below hb (Nat.le_refl _)) s1 (by omega)).mono ?_
  rintro e w2 ⟨A2, n2, c2, rfl, l2, z2, own2, hb2⟩
  have hb2' := hb.trans (hb2.mono s1)
  have s2 := hb2'.size
  have L2 : n2 ≤ 3000 := by rw [← l2.out, bts_len, HLC.out]; omega
  have r2 := Row.of_own own2
  clear own2 hb2
  obtain ⟨e1, e2⟩ := rdV_bts HLL.out (by rw [HLC.out]; omega)
  have E1 := hid e1
  have E2 := hid e2
  clear e1 e2
  go_wp2_with fail
  refine (read_any A2 n2 c2 _ _ (bts l) w2 r2 z2.out (Nat.le_refl _) (by omega)).mono ?_
  rw [E1.out, E2.out]
  rintro e w3 ⟨A3, n3, c3, rfl, l3, z3, own3, hb3⟩
  have hb3' := hb2'.trans (hb3.mono s2)
  have s3 := hb3'.size
  have r3 := Row.of_own own3
  have L3 : n3 ≤ 1024 := by rw [← l3.out, HLC.out]; omega
  clear own3 hb3 r2
  go_wp2_with fail
  refine (same16 A3 C n3 k c3 g _ _ _ _ l l w3 r3 (hC.below hb3' (Nat.le_refl _)) (by omega)).mono ?_
  rintro e w4 ⟨rfl, j, rfl⟩
  rw [decide_eq_true (rfl : l = l)]
  have hb4 : Below w.heap.size w (w3.drewN j) := below_drewN hb3' j
  generalize w3.drewN j = w4 at *
  have s4 := hb4.size
  clear r3 hb3' hb2' hb s1 s2 s3
  go_wp2_with fail
  refine (sub_any A B n m c d _ _ _ _ a b w4 (hA.below hb4 (Nat.le_refl _)) (hB.below hb4 (Nat.le_refl _)) s4 s4 hn hm).mono ?_
  rintro e w5 ⟨A5, n5, c5, rfl, l5, z5, own5, hb5⟩
  have hb5' := hb4.trans (hb5.mono s4)
  have s5 := hb5'.size
  have r5 := Row.of_own own5
  clear own5
  by_cases f1 : er (-1) a b = 0
  · obtain ⟨p1, p2, p3, p4, p5, p6⟩ := sums_facts f1
    have P1 := hid p1
    have P3 := hid p3
    have P4 := hid p4
    have P5 := hid p5
    have P6 := hid p6
    have hn5 : n5 = n := by rw [← l5.out, p2, HLA.out]
    subst hn5
    rw [f1]
    clear p1 p2 p3 p4 p5 p6 f1
    have hm1 : n5 ≤ 1100 := by omega
    go_wp2_with fail
    refine (add_any A5 B n5 m c5 d _ _ _ _ (mx (-1) a b) b w5 r5 (hB.below hb5' (Nat.le_refl _)) (Nat.le_refl _) s5 (by omega) hm).mono ?_
    rw [P3.out, P4.out]
    rintro e w6 ⟨A6, n6, c6, rfl, l6, z6, own6, hb6⟩
    have hb6' := hb5'.trans (hb6.mono s5)
    have s6 := hb6'.size
    have r6 := Row.of_own own6
    have r5' := r5.below hb6 (Nat.le_refl _)
    have hn6 : n6 ≤ 1100 := by rw [← l6.out, HLA.out]; exact hm1
    have s56 := hb6.size
    clear own6 r5
    go_wp2_with fail
    refine (dist_any A B n5 m c d _ _ _ _ a b w6 (hA.below hb6' (Nat.le_refl _)) (hB.below hb6' (Nat.le_refl _)) s6 s6 hn hm).mono ?_
    rw [P1.out]
    rintro e w7 ⟨rfl, hb7⟩
    have hb7' := hb6'.trans (hb7.mono s6)
    have s7 := hb7'.size
    have s67 := hb7.size
    have hqm := fun W => make_row .i32 27 21 4 n5 W Try.underlying27 info32 (by omega) (by omega)
    obtain ⟨w8, hw8⟩ : ∃ w8, w8 = w7.alloc (.cells (IK .i32 (List.replicate n5 0)).toArray 21) := ⟨_, rfl⟩
    have hb78 : Below w7.heap.size w7 w8 := by rw [hw8]; exact (Below.refl _ _).alloc (Nat.le_refl _) _
    have hb8' := hb7'.trans (hb78.mono s7)
    have s8 := hb8'.size
    have s78 := hb78.size
    have r8 : Row w8 w7.heap.size w8.heap.size (some ⟨w7.heap.size, 0, none⟩) n5 (IK .i32 (List.replicate n5 0)) := by
      have := rowk_lit_at .i32 w7 21 (List.replicate n5 0) _ n5 w7.heap.size rfl (by simp) rfl
      rw [← hw8] at this
      exact this.wide (Nat.le_refl _) (by rw [hw8]; simp)
    have r5a : Row w8 w4.heap.size w5.heap.size A5 n5 (IK .i32 (mx (-1) a b)) := (r5'.below hb7 s56).below hb78 (by omega)
    have r6a := (r6.below hb7 (Nat.le_refl _)).below hb78 s67
    have HD := hid (dist_any A5 (some ⟨w7.heap.size, 0, none⟩) n5 n5 c5 n5 _ _ _ _ (mx (-1) a b) (List.replicate n5 0) w8 r5a r8 (by omega) (Nat.le_refl _) (by omega) (by omega))
    have e0 : List.replicate n5 (0 : Int) = List.replicate a.length 0 := by rw [HLA.out]
    rw [e0, P5.out, P6.out, hw8] at HD
    have q2 : (dd a b == dd a b) = true := by simp
    generalize dd a b = x at *
    clear r5' r6 hb6 hb7 hb78 r8 r5a e0
    go_wp2_with fail
    refine HD.out.mono ?_
    rw [← hw8]
    rintro e w9 ⟨rfl, hb9⟩
    have hb9' := hb8'.trans (hb9.mono s8)
    have r6b := r6a.below hb9 (by omega)
    clear hb9 r6a
    go_wp2_with fail
    refine (same32 A6 A n6 n5 c6 c _ _ _ _ a a w9 r6b (hA.below hb9' (Nat.le_refl _)) (by omega)).mono ?_
    rintro e wa ⟨rfl, j2, rfl⟩
    rw [decide_eq_true (rfl : a = a)]
    go_wp2
    go_ret
    exact ⟨rfl, below_drewN hb9' _⟩
  · have q1 : (er (-1) a b != 0) = true := by simpa using f1
    have hn5 : n5 = 0 := by rw [← l5.out, mx_none f1]; rfl
    subst hn5
    clear f1
    go_wp2
    go_ret
    exact ⟨rfl, hb5'⟩
end Go.Proofs.Ytcaleaecjoafhaa
