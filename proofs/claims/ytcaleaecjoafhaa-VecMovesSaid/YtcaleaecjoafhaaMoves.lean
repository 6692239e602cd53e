/-
  A distance does not change if both are moved by the same, or turned about: the arithmetic, and the walk of VecMoves.
-/
import Derived.Test.YtcaleaecjoafhaaLives3
import Derived.Test.YtcaleaecjoafhaaOwn32
import Derived.Test.YtcaleaecjoafhaaWhole
import Derived.Deep.RegionLaw
import Derived.Deep.RegionHeld3
namespace Go.Proofs.Ytcaleaecjoafhaa
open Go.RowKit

theorem sq2_append {a b a' b' : List Int} (h : a.length = b.length) : sq2 (a ++ a') (b ++ b') = sq2 a b + sq2 a' b' := by
  induction a generalizing b with
  | nil =>
    cases b with
    | nil => simp [sq2]
    | cons y b => simp at h
  | cons x a ih =>
    cases b with
    | nil => simp at h
    | cons y b =>
      simp only [List.cons_append, sq2, ih (b := b) (by simpa using h)]
      omega
theorem sq2_rot {a b : List Int} (h : a.length = b.length) (k : Nat) : sq2 (a.drop k ++ a.take k) (b.drop k ++ b.take k) = sq2 a b := by
  have e1 : sq2 (a.take k ++ a.drop k) (b.take k ++ b.drop k) = sq2 (a.take k) (b.take k) + sq2 (a.drop k) (b.drop k) := sq2_append (by simp [h])
  rw [sq2_append (by simp [h])]
  rw [List.take_append_drop, List.take_append_drop] at e1
  omega
theorem cw_rot {a : List Int} (h : cw a = 0) (k : Nat) : cw (a.drop k ++ a.take k) = 0 := by
  obtain ⟨h1, h2, h3⟩ := cw_zero h
  have hl : (a.drop k ++ a.take k).length = a.length := by
    rw [List.length_append, List.length_drop, List.length_take]
    omega
  refine cw_mk (by omega) (by omega) fun x hx => ?_
  rw [List.mem_append] at hx
  rcases hx with hx | hx
  · exact h3 x (List.mem_of_mem_drop hx)
  · exact h3 x (List.mem_of_mem_take hx)
theorem cp_rot {a b : List Int} (h : cp a b = 0) (k : Nat) : cp (a.drop k ++ a.take k) (b.drop k ++ b.take k) = 0 := by
  obtain ⟨h1, h2, h3⟩ := cp_zero h
  exact cp_mk (cw_rot h1 k) (cw_rot h2 k) (by simp [h3])
theorem dd_rot {a b : List Int} (h : cp a b = 0) (k : Nat) : dd (a.drop k ++ a.take k) (b.drop k ++ b.take k) = dd a b := by
  rw [dd_ok h, dd_ok (cp_rot h k), sq2_rot (cp_zero h).2.2]
theorem er_zero {t : Int} {a b : List Int} (h : er t a b = 0) : cp a b = 0 ∧ cw (mix t a b) = 0 := by
  unfold er at h
  split at h
  · rename_i hc; exact ⟨hc, h⟩
  · rename_i hc; exact absurd h hc
theorem sq2_mix (t : Int) {a b c : List Int} (h1 : a.length = b.length) (h2 : a.length = c.length) : sq2 (mix t a c) (mix t b c) = sq2 a b := by
  induction a generalizing b c with
  | nil =>
    cases b with
    | nil => cases c <;> rfl
    | cons y b => simp at h1
  | cons x a ih =>
    cases b with
    | nil => simp at h1
    | cons y b =>
      cases c with
      | nil => simp at h2
      | cons z c =>
        have := ih (b := b) (c := c) (by simpa using h1) (by simpa using h2)
        simp only [mix, List.zipWith_cons_cons, sq2] at this ⊢
        rw [this, show x + t * z - (y + t * z) = x - y by omega]
theorem dd_mix {t : Int} {a b c : List Int} (h0 : cp a b = 0) (h1 : er t a c = 0) (h2 : er t b c = 0) : cp (mx t a c) (mx t b c) = 0 ∧ dd (mx t a c) (mx t b c) = dd a b := by
  obtain ⟨p1, p2⟩ := er_zero h1
  obtain ⟨q1, q2⟩ := er_zero h2
  have e1 : mx t a c = mix t a c := by rw [mx, if_pos h1]
  have e2 : mx t b c = mix t b c := by rw [mx, if_pos h2]
  have hl := (cp_zero h0).2.2
  have hc := (cp_zero p1).2.2
  have hcp : cp (mix t a c) (mix t b c) = 0 := cp_mk p2 q2 (by rw [mix_len t hc, mix_len t (cp_zero q1).2.2, hl])
  rw [e1, e2]
  exact ⟨hcp, by rw [dd_ok hcp, dd_ok h0, sq2_mix t hl hc]⟩

theorem below_undrew {w w' : World} (h : Below w.drew.heap.size w.drew w') : Below w.heap.size w w' := ⟨h.os, h.tape, h.output, h.size, h.block⟩

set_option maxRecDepth 100000 in
set_option maxHeartbeats 3200000 in
theorem vecMoves_walk (A B C : Option Addr) (n m k c d g : Nat) (a b l : List Int) (turn : Int) (w : World) (hA : Row w 0 w.heap.size A n (IK .i32 a)) (hB : Row w 0 w.heap.size B m (IK .i32 b)) (hC : Row w 0 w.heap.size C k (IK .i32 l))
    (hAc : A = none → c = 0) (hBc : B = none → d = 0) (hnc : n ≤ c) (hmd : m ≤ d) (hc : c ≤ 9223372036854775807) (hd : d ≤ 9223372036854775807) (hk : k ≤ 9223372036854775807) :
    Calls Try.prog 9 #[.slice A n c, .slice B m d, .slice C k g, .int .i64 turn] w fun e w' => e = .returned (.bool true) ∧ Below w.heap.size w w' := by
  obtain ⟨i0, hi, hz0, hz1, hz2⟩ := info_parts info32
  have HA : Hid (a.length = n) := by have := hA.len; rwa [IK_len] at this
  have HB : Hid (b.length = m) := by have := hB.len; rwa [IK_len] at this
  have HAc := hid hAc
  have HBc := hid hBc
  clear hAc hBc
  go_enter Try.func9, Try.ntmps9
  go_wp2_with fail
  refine (lives_any w).mono ?_
  rintro e w1 ⟨rfl, hb⟩
  by_cases h1 : 1100 < n
  · go_wp2
    go_ret
    exact ⟨rfl, hb⟩
  by_cases h2 : 1100 < m
  · go_wp2
    go_ret
    exact ⟨rfl, hb⟩
  by_cases h3 : 1100 < k
  · go_wp2
    go_ret
    exact ⟨rfl, hb⟩
  have s1 := hb.size
  go_wp2_with fail
  refine (dist_any A B n m c d _ _ _ _ a b w1 (hA.below hb (Nat.le_refl _)) (hB.below hb (Nat.le_refl _)) s1 s1 (by omega) (by omega)).mono ?_
  rintro e w2 ⟨rfl, hb2⟩
  have hb2' := hb.trans (hb2.mono s1)
  have s2 := hb2'.size
  clear hb2
  go_wp2_with fail
  refine (add_any A C n k c g _ _ _ _ a l w2 (hA.below hb2' (Nat.le_refl _)) (hC.below hb2' (Nat.le_refl _)) s2 s2 (by omega) hk).mono ?_
  rintro e w3 ⟨A3, n3, c3, rfl, l3, z3, own3, hb3⟩
  have r3 := Row.of_own own3
  have hb3' := hb2'.trans (hb3.mono s2)
  have s3 := hb3'.size
  clear own3
  go_wp2_with fail
  refine (add_any B C m k d g _ _ _ _ b l w3 (hB.below hb3' (Nat.le_refl _)) (hC.below hb3' (Nat.le_refl _)) s3 s3 (by omega) hk).mono ?_
  rintro e w4 ⟨A4, n4, c4, rfl, l4, z4, own4, hb4⟩
  have r4 := Row.of_own own4
  have r3' := r3.below hb4 (Nat.le_refl _)
  have hb4' := hb3'.trans (hb4.mono s3)
  have s4 := hb4'.size
  have s34 := hb4.size
  have L3 : Hid (n3 ≤ 1100) := hid (by
    rw [← l3.out, mx]
    split
    · simp only [mix, List.length_zipWith]; have := HA.out; omega
    · simp)
  have L4 : Hid (n4 ≤ 1100) := hid (by
    rw [← l4.out, mx]
    split
    · simp only [mix, List.length_zipWith]; have := HB.out; omega
    · simp)
  clear own4 hb4 r3 hb hb2' hb3 hb3' s1 s2
  by_cases e1 : cp a b = 0
  · obtain ⟨x1, x2, x3⟩ := cp_zero e1
    obtain ⟨y1, y2, _⟩ := cw_zero x1
    have hmn : m = n := by rw [← HA.out, ← HB.out, x3]
    have hn1 : 1 ≤ n := by rw [← HA.out]; exact y1
    subst hmn
    have E1 := hid e1
    rw [e1]
    clear x1 x2 x3 y1 y2
    obtain ⟨kk, hkk⟩ : ∃ kk : Nat, turn % (m : Int) = kk := ⟨(turn % (m : Int)).toNat, by have := Int.emod_nonneg turn (show (m : Int) ≠ 0 by omega); omega⟩
    have hkm : kk < m := by have := Int.emod_lt_of_pos turn (show (0 : Int) < m by omega); omega
    have q0 : ((m : Int) == 0) = false := by simp; omega
    go_wp2_with fail
    refine (pickn_any turn m w4 (by omega) (by omega)).mono ?_
    rintro e w5 ⟨rfl, rfl⟩
    rw [hkk]
    have hA4 := hA.below hb4' (Nat.le_refl _)
    have hB4 := hB.below hb4' (Nat.le_refl _)
    have hAd : Row w4 0 w.heap.size (if c = kk then A else Option.map (fun x => x.add kk) A) (m - kk) (IK .i32 (a.drop kk)) := by
      have := hA4.drop (k := kk) (cap := c) (by omega) hnc
      rwa [IK, ← List.map_drop] at this
    have hBd : Row w4 0 w.heap.size (Option.map (fun x => x.add kk) B) (m - kk) (IK .i32 (b.drop kk)) := by
      have := hB4.drop (k := kk) (cap := d) (by omega) hmd
      rwa [IK, ← List.map_drop, if_neg (by omega)] at this
    have hAt : Row w4 0 w.heap.size A kk (IK .i32 (a.take kk)) := by
      have := hA4.take (k := kk) (by omega)
      rwa [IK, ← List.map_take] at this
    have hBt : Row w4 0 w.heap.size B kk (IK .i32 (b.take kk)) := by
      have := hB4.take (k := kk) (by omega)
      rwa [IK, ← List.map_take] at this
    have HAd : Hid ((if c = kk then A else Option.map (fun x => x.add kk) A) = none → c - kk = 0) := hid (by
      intro h
      split at h
      · omega
      · have := HAc.out (by simpa using h); omega)
    have HBd : Hid (Option.map (fun x => x.add kk) B = none → d - kk = 0) := hid (by
      intro h
      have := HBc.out (by simpa using h)
      omega)
    clear hA hB hC hA4 hB4
    go_wp2
    have g0 : (0 : Int) ≤ (kk : Int) := by omega
    have g1 : (kk : Int) ≤ (m : Int) := by omega
    have g2 : (m : Int) ≤ (c : Int) := by omega
    have g3 : (m : Int) ≤ (d : Int) := by omega
    have g4 : (kk : Int) ≤ (c : Int) := by omega
    have g5 : (kk : Int) ≤ (d : Int) := by omega
    have g6 : IntKind.i64.wrap (kk : Int) = (kk : Int) := IntWalk.i64_in _ (by omega)
    have g7 : IntKind.i64.wrap (m : Int) = (m : Int) := IntWalk.i64_in _ (by omega)
    have g8 : IntKind.i64.wrap (c : Int) = (c : Int) := IntWalk.i64_in _ (by omega)
    have g9 : IntKind.i64.wrap (d : Int) = (d : Int) := IntWalk.i64_in _ (by omega)
    have n1 : kk ≤ m := by omega
    have n2 : kk ≤ c := by omega
    have n3' : kk ≤ d := by omega
    have hmk : Hid (m - kk + kk = m) := hid (by omega)
    have o1 : m - kk + kk ≤ maxLen := by unfold maxLen; omega
    have o2 : (m - kk + kk) * 4 ≤ 140737488355328 := by omega
    have ha1 : Hid ((a.drop kk).length = m - kk) := hid (by rw [List.length_drop, HA.out])
    have hb1 : Hid ((b.drop kk).length = m - kk) := hid (by rw [List.length_drop, HB.out])
    go_region_held3 (fun _ => True) (exact trivial)
      (first
        | (go_at_call 19; refine (own32_any (if c = kk then A else Option.map (fun x => x.add kk) A) (m - kk) (c - kk) 0 w.heap.size (a.drop kk) _ (by exact hAd) HAd.out (by exact s4) (by omega)).mono ?_; rintro e w6 ⟨A6, n6, c6, rfl, l6, z6, own6, hb6⟩; obtain rfl : n6 = m - kk := l6.out.symm.trans ha1.out; have hb6 := below_undrew hb6)
        | (refine step_append_row _ rfl (.tmp 74) (.tmp 77) 27 rfl w4.heap.size 21 i0 (.int .i32 0) 4 Try.underlying27 hi hz0 hz1 hz2 rfl (.slice A6 (m - kk) c6) (m - kk) (IK .i32 (a.drop kk)) rfl (by exact own6) 0 w.heap.size A kk c rfl HAc.out (IK .i32 (a.take kk)) (hAt.below hb6 s4) (IK_one _ _) o1 o2 hb6.size ?_; intro v7 w7 own7 grow7 at7; have hb7 := hb6.grown grow7 hb6.size (fun g hg => (own6.lt g hg).1); rw [hmk.out] at own7; obtain ⟨A7, c7, rfl, _, _⟩ := own_shape' own7)
        | (go_at_call 19; refine (own32_any (Option.map (fun x => x.add kk) B) (m - kk) (d - kk) 0 w.heap.size (b.drop kk) w7 (hBd.below hb7 s4) HBd.out (Nat.le_trans s4 hb7.size) (by omega)).mono ?_; rintro e w8 ⟨A8, n8, c8, rfl, l8, z8, own8, hb8⟩; obtain rfl : n8 = m - kk := l8.out.symm.trans hb1.out)
        | (refine step_append_row _ rfl (.tmp 82) (.tmp 85) 27 rfl w7.heap.size 21 i0 (.int .i32 0) 4 Try.underlying27 hi hz0 hz1 hz2 rfl (.slice A8 (m - kk) c8) (m - kk) (IK .i32 (b.drop kk)) rfl (by exact own8) 0 w.heap.size B kk d rfl HBc.out (IK .i32 (b.take kk)) ((hBt.below hb7 s4).below hb8 (Nat.le_trans s4 hb7.size)) (IK_one _ _) o1 o2 hb8.size ?_; intro v9 w9 own9 grow9 at9; have hb9 := hb8.grown grow9 hb8.size (fun g hg => (own8.lt g hg).1); rw [hmk.out] at own9; obtain ⟨A9, c9, rfl, _, _⟩ := own_shape' own9)
        | (go_at_call 16; refine (dist_any A7 A9 m m c7 c9 w4.heap.size w7.heap.size w7.heap.size w9.heap.size (a.drop kk ++ a.take kk) (b.drop kk ++ b.take kk) w9 (by rw [IK_append]; exact (Row.of_own own7).below hb9 (Nat.le_refl _)) (by rw [IK_append]; exact Row.of_own own9) hb9.size (Nat.le_refl _) (by omega) (by omega)).mono ?_; rintro e wa ⟨rfl, hba⟩))
    rw [dd_rot E1.out, cp_rot E1.out]
    have hb7' := hb4'.trans (hb7.mono s4)
    have hb9' := hb7'.trans (hb9.mono hb7'.size)
    have hba' := hb9'.trans (hba.mono hb9'.size)
    have r3a : Row wa w2.heap.size w3.heap.size A3 n3 (IK .i32 (mx 1 a l)) := ((r3'.below hb7 s34).below hb9 (Nat.le_trans s34 hb7.size)).below hba (Nat.le_trans (Nat.le_trans s34 hb7.size) hb9.size)
    have r4a : Row wa w3.heap.size w4.heap.size A4 n4 (IK .i32 (mx 1 b l)) := ((r4.below hb7 (Nat.le_refl _)).below hb9 hb7.size).below hba (Nat.le_trans hb7.size hb9.size)
    have sA : w4.heap.size ≤ wa.heap.size := Nat.le_trans hb7.size (Nat.le_trans hb9.size hba.size)
    clear own6 own7 own8 own9 grow7 grow9 at7 at9 hb6 hb7 hb8 hb9 hba hb7' hb9' hb4' r3' r4 hAd hBd hAt hBt s4 z6 z8 l6 l8 ha1 hb1
    have q1 : (dd a b != dd a b) = false := by simp
    have q2 : (dd a b == dd a b) = true := by simp
    by_cases f1 : er 1 a l = 0
    · by_cases f2 : er 1 b l = 0
      · obtain ⟨p1, p2⟩ := dd_mix E1.out f1 f2
        rw [f1, f2]
        have P1 := hid p1
        have P2 := hid p2
        clear f1 f2 p1 p2
        generalize dd a b = x at *
        go_wp2_with fail
        refine (dist_any A3 A4 n3 n4 c3 c4 _ _ _ _ _ _ wa r3a r4a (Nat.le_trans s34 sA) sA (by have := L3.out; omega) (by have := L4.out; omega)).mono ?_
        rintro e wb ⟨rfl, hbb⟩
        rw [P1.out, P2.out]
        go_wp2
        go_ret
        exact ⟨rfl, hba'.trans (hbb.mono hba'.size)⟩
      · have q3 : (er 1 b l != 0) = true := by simpa using f2
        rw [f1]
        clear f1 f2
        generalize dd a b = x at *
        go_wp2
        go_ret
        exact ⟨rfl, hba'⟩
    · have q3 : (er 1 a l != 0) = true := by simpa using f1
      clear f1
      generalize dd a b = x at *
      go_wp2
      go_ret
      exact ⟨rfl, hba'⟩
  · have q1 : (cp a b != 0) = true := by simpa using e1
    rw [dd_no e1]
    clear e1
    go_wp2
    go_ret
    exact ⟨rfl, hb4'⟩
end Go.Proofs.Ytcaleaecjoafhaa
