/-
  Contracts of vec.joined, Sub and Add, whatever vectors come in.
-/
import Derived.Test.YtcaleaecjoafhaaDist
import Derived.StillTailTactics
namespace Go.Proofs.Ytcaleaecjoafhaa
open Go.RowKit

theorem region_tail {P : Program} {id : Nat} {Q : Exit → Act → World → Prop} {a : Act} {w : World} {l : List Oper} (n : Nat) (hm : P.follows .mixedOrders = true) (hB : Region.lexTailB .any l.toArray n = true)
    (h : ∀ wd, wd = w.drew → wpStill P l.toArray wd (fun a' => wpList P l.toArray Q (l.drop n) a' wd) (l.take n) a) : (Code.region id l.toArray true).wp P Q a w :=
  wp_region_still_tail n hm hB (h _ rfl)

theorem info32 : (Try.prog.info? 21).map (fun i => (i.zero, i.size, i.bytes)) = some (some (.int .i32 0), 1, 4) := by kernel_rfl
theorem info16 : (Try.prog.info? 22).map (fun i => (i.zero, i.size, i.bytes)) = some (some (.int .i16 0), 1, 2) := by kernel_rfl
theorem info8 : (Try.prog.info? 5).map (fun i => (i.zero, i.size, i.bytes)) = some (some (.int .u8 0), 1, 1) := by kernel_rfl
theorem made_nought (K : IntKind) (n : Nat) : madeCells #[.int K 0] n = (IK K (List.replicate n 0)).toArray := by
  apply Array.ext
  · simp [madeCells, IK]
  · intro i h1 h2
    simp [madeCells, IK, Nat.mod_one]
theorem make_row (K : IntKind) (t e : TypeId) (b n : Nat) (W : World) (ht : Try.prog.underlying t = some (.slice e)) (hi : (Try.prog.info? e).map (fun i => (i.zero, i.size, i.bytes)) = some (some (.int K 0), 1, b)) (hb : b ≤ 8) (hn : n ≤ 1000000) :
    (Instr.makeSlice t (.int .i64 n) (.int .i64 n)).run Try.prog W = .ok (.slice (some ⟨W.heap.size, 0, none⟩) n n) (W.alloc (.cells (IK K (List.replicate n 0)).toArray e)) := by
  obtain ⟨i0, hi, hz0, hz1, hz2⟩ := info_parts hi
  have hb2 : (i0.bytes : Int) * (n : Int) ≤ 281474976710656 := by
    rw [hz2]
    have h1 : (b : Int) * (n : Int) ≤ 8 * n := Int.mul_le_mul_of_nonneg_right (by omega) (by omega)
    omega
  have h := run_make (P := Try.prog) W t e i0 (.int K 0) ht hi hz0 .i64 .i64 n n (by omega) (Int.le_refl _) hb2 (by omega)
  rw [h, hz1, Nat.mul_one, Int.toNat_natCast]
  congr 2
  congr 1
  exact made_nought K n

set_option maxHeartbeats 1600000 in
theorem joinStep (fj g gb gv h0 b off n d k : Nat) (t x y : Int) (cs : Array Value) (w : World)
    (hent : ∀ args W, (callFunc fj args).run Try.prog W = .ok (.enter fj args) W)
    (hj : ∀ W, Calls Try.prog fj #[.int .i32 x, .int .i32 y] W fun e w' => e = .returned (.int .i32 (x + t * y)) ∧ w' = W)
    (k1 : w.cell? ⟨g, 0, none⟩ = some (.func (.func fj) #[] #[])) (k2 : w.cell? ⟨gb, 0, none⟩ = some (.slice (some ⟨b, off, none⟩) n d)) (k3 : w.cell? ⟨gv, 0, none⟩ = some (.slice (some ⟨h0, 0, none⟩) n n))
    (k4 : Blk w h0 21 cs) (hcs : cs.size = n) (hgv : gv ≠ h0) (hk : k < n)
    (hy : w.cell? ⟨b, off + k, none⟩ = some (.int .i32 y)) :
    Calls Try.prog 60 #[.int .i64 k, .int .i32 x, .pointer (some ⟨g, 0, none⟩), .pointer (some ⟨gb, 0, none⟩), .pointer (some ⟨gv, 0, none⟩)] w fun e w' =>
      e = .returned (.bool (wd (x + t * y))) ∧ ∃ q, w' = (w.setCell ⟨h0, k, none⟩ (.int .i32 (x + t * y))).drewN q := by
  have HJ := hid hj
  clear hj
  obtain ⟨z, hz⟩ : ∃ z, x + t * y = z := ⟨_, rfl⟩
  rw [hz] at HJ ⊢
  clear hz
  have hvc : ∃ u, w.cell? ⟨h0, k, none⟩ = some u := ⟨cs[k], by rw [k4.cell k]; exact Array.getElem?_eq_getElem (by omega)⟩
  obtain ⟨u0, hu0⟩ := hvc
  have hfz := k4.frozen k
  go_enter Try.func60, Try.ntmps60
  go_wp2
  refine region_tail 10 (by kernel_rfl) (by kernel_rfl) ?_
  intro w2 hw2
  have k1' : w2.cell? ⟨g, 0, none⟩ = some (.func (.func fj) #[] #[]) := by rw [hw2]; exact k1
  have k2' : w2.cell? ⟨gb, 0, none⟩ = some (.slice (some ⟨b, off, none⟩) n d) := by rw [hw2]; exact k2
  have k3' : w2.cell? ⟨gv, 0, none⟩ = some (.slice (some ⟨h0, 0, none⟩) n n) := by rw [hw2]; exact k3
  have hy' : w2.cell? ⟨b, off + k, none⟩ = some (.int .i32 y) := by rw [hw2]; exact hy
  have hu' : w2.cell? ⟨h0, k, none⟩ = some u0 := by rw [hw2]; exact hu0
  have hf' : w2.frozen? ⟨h0, k, none⟩ = false := by rw [hw2]; exact hfz
  have HW := hid hw2
  clear k1 k2 k3 hy hu0 hfz hw2
  simp only [List.take_succ_cons, List.take_zero, List.drop_succ_cons, List.drop_zero]
  repeat still_step
  still_call (HJ.out w2)
  repeat still_step
  refine wpStill_nil ?_
  go_wp2_with fail
  refine (mayBe_any k z _).mono ?_
  rintro e w3 ⟨rfl, rfl⟩
  go_wp2
  go_ret
  exact ⟨rfl, 1, by rw [HW.out]; rfl⟩

theorem drewN_set (w : World) (p : Addr) (u : Value) (q : Nat) : (w.setCell p u).drewN q = (w.drewN q).setCell p u := rfl
theorem mix_take (t : Int) {a b : List Int} {k : Nat} (ha : k < a.length) (hb : k < b.length) : (mix t a b).take (k + 1) = (mix t a b).take k ++ [a[k] + t * b[k]] := by
  have hl : k < (mix t a b).length := by simp [mix]; omega
  rw [List.take_succ_eq_append_getElem hl, mix_get t hl ha hb]
theorem fill_step (K : IntKind) (m : List Int) (n k : Nat) (z : Int) (hm : m.length = k) (hk : k < n) :
    (IK K (m ++ List.replicate (n - k) 0)).toArray.setIfInBounds k (.int K z) = (IK K ((m ++ [z]) ++ List.replicate (n - (k + 1)) 0)).toArray := by
  obtain ⟨j, hj⟩ : ∃ j, n - k = j + 1 := ⟨n - k - 1, by omega⟩
  rw [hj, show n - (k + 1) = j by omega, List.replicate_succ]
  simp only [IK, List.map_append, List.map_cons, List.map_nil]
  subst hm
  simp
theorem er_far {t : Int} {a b : List Int} (h : cp a b = 0) (h2 : ¬ (mix t a b).all wd = true) : er t a b = 11 := by
  obtain ⟨c1, c2, c3⟩ := cp_zero h
  obtain ⟨a1, a2, _⟩ := cw_zero c1
  rw [er, if_pos h]
  exact cw_far (by rw [mix_len t c3]; exact ⟨a1, a2⟩) h2
theorem er_ok {t : Int} {a b : List Int} (h : cp a b = 0) (h2 : (mix t a b).all wd = true) : er t a b = 0 := by
  obtain ⟨c1, c2, c3⟩ := cp_zero h
  obtain ⟨a1, a2, _⟩ := cw_zero c1
  rw [er, if_pos h]
  exact cw_ok (by rw [mix_len t c3]; exact ⟨a1, a2⟩) h2
theorem er_no {t : Int} {a b : List Int} (h : ¬ cp a b = 0) : er t a b = cp a b := by rw [er, if_neg h]
/-- A slice of numbers in memory of the call's own, with an error; nothing that was there has changed. -/
def Owns (K : IntKind) (et : TypeId) (w : World) (l : List Int) (er : Int) (e : Ending) (w' : World) : Prop :=
  ∃ A n c, e = .returned (.tuple #[.slice A n c, .int .i64 er]) ∧ Hid (l.length = n) ∧ Hid (A = none → c = 0) ∧ w'.ownsRow w.heap.size et 1 (.slice A n c) n (IK K l) ∧ Below w.heap.size w w'
theorem owns_blk {K : IntKind} {et : TypeId} {w : World} {base g n : Nat} {l : List Int} (h : Blk w g et (IK K l).toArray) (hl : l.length = n) (hg : base ≤ g) (hm : n ≤ maxLen) : w.ownsRow base et 1 (.slice (some ⟨g, 0, none⟩) n n) n (IK K l) := by
  subst hl
  exact ⟨by simp [IK], .inr ⟨g, l.length, (IK K l).toArray, rfl, hg, h, Nat.le_refl _, hm, by simp [IK], by simp [IK, List.take_of_length_le]⟩⟩

set_option maxHeartbeats 1600000 in
theorem joined_any (fj : Nat) (t : Int) (A B : Option Addr) (n m c d lo up lo' up' : Nat) (a b : List Int) (w : World) (hR : Row w lo up A n (IK .i32 a)) (hR' : Row w lo' up' B m (IK .i32 b)) (hup : up ≤ w.heap.size) (hup' : up' ≤ w.heap.size) (hn : n ≤ 9223372036854775807) (hm : m ≤ 9223372036854775807)
    (hent : ∀ args W, (callFunc fj args).run Try.prog W = .ok (.enter fj args) W)
    (hj : ∀ x y W, -131072 ≤ x → x ≤ 131072 → -131072 ≤ y → y ≤ 131072 → Calls Try.prog fj #[.int .i32 x, .int .i32 y] W fun e w' => e = .returned (.int .i32 (x + t * y)) ∧ w' = W) :
    Calls Try.prog 41 #[.slice A n c, .slice B m d, .func (.func fj) #[] #[]] w (Owns .i32 21 w (mx t a b) (er t a b)) := by
  have hl := hR.len
  have hl' := hR'.len
  rw [IK_len] at hl hl'
  have HA := hid hl
  have HB := hid hl'
  clear hl hl'
  obtain ⟨w2, hw2⟩ : ∃ w2, w2 = (w.alloc (.cells #[.slice B m d] 27)).alloc (.cells #[.func (.func fj) #[] #[]] 59) := ⟨_, rfl⟩
  have hsz : w2.heap.size = w.heap.size + 2 := by rw [hw2]; simp
  have hb0 : Below w.heap.size w w2 := by rw [hw2]; exact ((Below.refl _ _).alloc (Nat.le_refl _) _).alloc (by simp) _
  have b1 : Blk w2 w.heap.size 27 #[.slice B m d] := by rw [hw2]; exact (Blk.new _ _ _).alloc _
  have b2 : Blk w2 (w.heap.size + 1) 59 #[.func (.func fj) #[] #[]] := by
    have := Blk.new (w.alloc (.cells #[.slice B m d] 27)) 59 #[.func (.func fj) #[] #[]]
    rw [hw2]
    simpa using this
  have W1 := hid (checkPair_any A B n m c d lo up lo' up' a b w2 (hR.below hb0 hup) (hR'.below hb0 hup') hn hm)
  by_cases h0 : cp a b = 0
  · obtain ⟨c1, c2, c3⟩ := cp_zero h0
    obtain ⟨a1, a2, a3⟩ := cw_zero c1
    obtain ⟨_, _, b3⟩ := cw_zero c2
    have HK1 : Hid ((mix t a b).all wd = true → er t a b = 0) := hid (er_ok h0)
    have HK2 : Hid (¬ (mix t a b).all wd = true → er t a b = 11) := hid (er_far h0)
    have HML : Hid ((mix t a b).length = n) := hid (by rw [mix_len t c3]; exact HA.out)
    rw [h0] at W1
    have hmn : m = n := by rw [← HA.out, ← HB.out, c3]
    subst hmn
    have hm1 : m ≤ 1024 := by rw [← HA.out]; exact a2
    have hqm := fun W => make_row .i32 27 21 4 m W Try.underlying27 info32 (by omega) (by omega)
    obtain ⟨w4, hw4⟩ : ∃ w4, w4 = (w2.alloc (.cells (IK .i32 (List.replicate m 0)).toArray 21)).alloc (.cells #[.slice (some ⟨w.heap.size + 2, 0, none⟩) m m] 27) := ⟨_, rfl⟩
    have HT := hid (through32 60 #[.pointer (some ⟨w.heap.size + 1, 0, none⟩), .pointer (some ⟨w.heap.size, 0, none⟩), .pointer (some ⟨w.heap.size + 3, 0, none⟩)] A m c a w4
      (fun k wr => Blk wr w.heap.size 27 #[.slice B m d] ∧ Blk wr (w.heap.size + 1) 59 #[.func (.func fj) #[] #[]] ∧ Blk wr (w.heap.size + 2) 21 (IK .i32 ((mix t a b).take k ++ List.replicate (m - k) 0)).toArray ∧
        Blk wr (w.heap.size + 3) 27 #[.slice (some ⟨w.heap.size + 2, 0, none⟩) m m] ∧ Below w.heap.size w wr ∧ (∀ x ∈ (mix t a b).take k, wd x = true))
      (fun wr => Below w.heap.size w wr ∧ ¬ (mix t a b).all wd = true) (enters_of Try.func60 (by kernel_rfl) rfl) hn HA.out
      (fun k wr _ h => ⟨lo, up, hR.below h.2.2.2.2.1 hup⟩)
      (by
        rintro k hk wr ⟨k1, k2, k3, k4, k5, k6⟩
        have hkb : k < b.length := by omega
        have hkm : k < m := by rw [← HA.out]; exact hk
        have hR2 := hR'.below k5 hup'
        obtain ⟨q, off, rfl, _, _, hy⟩ := cells_at hR2 hkb
        have hxa := a3 _ (List.getElem_mem hk)
        have hyb := b3 _ (List.getElem_mem hkb)
        have hml : ((mix t a b).take k).length = k := by rw [List.length_take, HML.out]; omega
        refine (joinStep fj (w.heap.size + 1) w.heap.size (w.heap.size + 3) (w.heap.size + 2) q off m d k t a[k] b[k] _ wr hent (fun W => hj _ _ W hxa.1 hxa.2 hyb.1 hyb.2) (k2.cell 0) (k1.cell 0) (k4.cell 0) k3 (by rw [List.size_toArray, IK_len, List.length_append, hml, List.length_replicate]; omega) (by omega) hkm hy).mono ?_
        rintro e w' ⟨rfl, q', rfl⟩
        have k3' := k3.set k (.int .i32 (a[k] + t * b[k]))
        rw [fill_step .i32 _ m k _ hml hkm, ← mix_take t hk hkb] at k3'
        by_cases hwd : wd (a[k] + t * b[k]) = true
        · refine .inl ⟨by rw [hwd], (k1.far (by simp) _).drewN _, (k2.far (by simp) _).drewN _, k3'.drewN _, (k4.far (by simp) _).drewN _, below_drewN (k5.setCell (by simp) _) _, ?_⟩
          intro x hx
          rw [mix_take t hk hkb, List.mem_append, List.mem_singleton] at hx
          rcases hx with hx | rfl
          · exact k6 x hx
          · exact hwd
        · refine .inr ⟨by rw [show wd (a[k] + t * b[k]) = false by simpa using hwd], below_drewN (k5.setCell (by simp) _) _, fun hall => hwd ?_⟩
          have hlm : k < (mix t a b).length := by rw [HML.out]; exact hkm
          have := List.all_eq_true.1 hall _ (List.getElem_mem hlm)
          rwa [mix_get t hlm hk hkb] at this)
      (by
        rw [hw4]
        refine ⟨(b1.alloc _).alloc _, (b2.alloc _).alloc _, ?_, ?_, (hb0.alloc (by omega) _).alloc (by simp; omega) _, by simp⟩
        · have := (Blk.new w2 21 (IK .i32 (List.replicate m 0)).toArray).alloc (.cells #[.slice (some ⟨w.heap.size + 2, 0, none⟩) m m] 27)
          rw [hsz] at this
          simpa using this
        · have := Blk.new (w2.alloc (.cells (IK .i32 (List.replicate m 0)).toArray 21)) 27 #[.slice (some ⟨w.heap.size + 2, 0, none⟩) m m]
          rw [show (w2.alloc (.cells (IK .i32 (List.replicate m 0)).toArray 21)).heap.size = w.heap.size + 3 by simp [hsz]] at this
          exact this))
    clear h0 c1 c2 c3 a1 a2 a3 b3 hj
    rw [hw4, hw2] at HT
    rw [hw2] at W1
    clear hw4 hw2 b1 b2
    go_enter Try.func41, Try.ntmps41
    go_wp2_with fail
    refine W1.out.mono ?_
    rintro e w1 ⟨rfl, rfl⟩
    go_wp2_with fail
    refine HT.out.mono ?_
    rintro e w5 (⟨rfl, _, _, k3, k4, k5, k6⟩ | ⟨rfl, k5, k6⟩)
    · have hall : (mix t a b).all wd = true := List.all_eq_true.2 (by rwa [List.take_of_length_le (by rw [HML.out]; exact Nat.le_refl _)] at k6)
      rw [List.take_of_length_le (by rw [HML.out]; exact Nat.le_refl _), Nat.sub_self, List.replicate_zero, List.append_nil] at k3
      have HE := hid (HK1.out hall)
      have HX : Hid (mx t a b = mix t a b) := hid (by rw [mx, if_pos HE.out])
      have hc : w5.cell? ⟨w.heap.size + 3, 0, none⟩ = some (.slice (some ⟨w.heap.size + 2, 0, none⟩) m m) := k4.cell 0
      clear k4 k6 hall HK1 HK2
      go_wp2
      go_ret2
      rw [HE.out, HX.out]
      exact ⟨_, _, _, rfl, HML, hid (fun h => by cases h), owns_blk k3 HML.out (by omega) (by unfold maxLen; omega), k5⟩
    · have HE := hid (HK2.out k6)
      have HX : Hid (mx t a b = []) := hid (by rw [mx, if_neg (by rw [HE.out]; decide)])
      clear k6 HK1 HK2
      go_wp2
      go_ret2
      rw [HE.out, HX.out]
      exact ⟨none, 0, 0, rfl, hid rfl, hid (fun _ => rfl), World.ownsRow_nil _ _ _ _, k5⟩
  · have HE : Hid (er t a b = cp a b) := hid (er_no h0)
    have hb : (cp a b != 0) = true := by simpa using h0
    have HX : Hid (mx t a b = []) := hid (by rw [mx, if_neg (by rw [HE.out]; exact h0)])
    clear h0
    rw [hw2] at W1 hb0
    clear hw2 b1 b2
    go_enter Try.func41, Try.ntmps41
    go_wp2_with fail
    refine W1.out.mono ?_
    rintro e w1 ⟨rfl, rfl⟩
    go_wp2
    go_ret2
    rw [HE.out, HX.out]
    exact ⟨none, 0, 0, rfl, hid rfl, hid (fun _ => rfl), World.ownsRow_nil _ _ _ _, hb0⟩

theorem sub1_any (x y : Int) (W : World) (h1 : -131072 ≤ x) (h2 : x ≤ 131072) (h3 : -131072 ≤ y) (h4 : y ≤ 131072) :
    Calls Try.prog 52 #[.int .i32 x, .int .i32 y] W fun e w' => e = .returned (.int .i32 (x + -1 * y)) ∧ w' = W := by
  have HE : Hid (x + -1 * y = x - y) := hid (by omega)
  rw [HE.out]
  go_enter Try.func52, Try.ntmps52
  go_wp2
  go_ret
  exact ⟨rfl, rfl⟩
theorem add1_any (x y : Int) (W : World) (h1 : -131072 ≤ x) (h2 : x ≤ 131072) (h3 : -131072 ≤ y) (h4 : y ≤ 131072) :
    Calls Try.prog 42 #[.int .i32 x, .int .i32 y] W fun e w' => e = .returned (.int .i32 (x + 1 * y)) ∧ w' = W := by
  have HE : Hid (x + 1 * y = x + y) := hid (by omega)
  rw [HE.out]
  go_enter Try.func42, Try.ntmps42
  go_wp2
  go_ret
  exact ⟨rfl, rfl⟩
theorem sub_any (A B : Option Addr) (n m c d lo up lo' up' : Nat) (a b : List Int) (w : World) (hR : Row w lo up A n (IK .i32 a)) (hR' : Row w lo' up' B m (IK .i32 b)) (hup : up ≤ w.heap.size) (hup' : up' ≤ w.heap.size) (hn : n ≤ 9223372036854775807) (hm : m ≤ 9223372036854775807) : Calls Try.prog 18 #[.slice A n c, .slice B m d] w (Owns .i32 21 w (mx (-1) a b) (er (-1) a b)) := by
  have HJ := hid (joined_any 52 (-1) A B n m c d lo up lo' up' a b w hR hR' hup hup' hn hm (enters_of Try.func52 (by kernel_rfl) rfl) (fun x y W h1 h2 h3 h4 => sub1_any x y W h1 h2 h3 h4))
  go_enter Try.func18, Try.ntmps18
  go_wp2_with fail
  refine HJ.out.mono ?_
  rintro e w1 ⟨A', n', c', rfl, h1, h2, h3, h4⟩
  go_wp2
  go_ret2
  exact ⟨A', n', c', rfl, h1, h2, h3, h4⟩
theorem add_any (A B : Option Addr) (n m c d lo up lo' up' : Nat) (a b : List Int) (w : World) (hR : Row w lo up A n (IK .i32 a)) (hR' : Row w lo' up' B m (IK .i32 b)) (hup : up ≤ w.heap.size) (hup' : up' ≤ w.heap.size) (hn : n ≤ 9223372036854775807) (hm : m ≤ 9223372036854775807) : Calls Try.prog 11 #[.slice A n c, .slice B m d] w (Owns .i32 21 w (mx 1 a b) (er 1 a b)) := by
  have HJ := hid (joined_any 42 1 A B n m c d lo up lo' up' a b w hR hR' hup hup' hn hm (enters_of Try.func42 (by kernel_rfl) rfl) (fun x y W h1 h2 h3 h4 => add1_any x y W h1 h2 h3 h4))
  go_enter Try.func11, Try.ntmps11
  go_wp2_with fail
  refine HJ.out.mono ?_
  rintro e w1 ⟨A', n', c', rfl, h1, h2, h3, h4⟩
  go_wp2
  go_ret2
  exact ⟨A', n', c', rfl, h1, h2, h3, h4⟩
end Go.Proofs.Ytcaleaecjoafhaa
