/-
  The contract of draw's Distinct: of a copy that is sorted and made compact the length is the list's just if no number is there twice.
-/
import Derived.Test.YtjnbdlbgfgdopaaSortsLaid
import Derived.Test.YtjnbdlbgfgdopaaPicks
import Derived.Sort.OwnSortedInts
import Derived.Lib.OwnBridge
namespace Go.Proofs.Ytjnbdlbgfgdopaa
set_option maxRecDepth 40000
set_option linter.unusedVariables false
open Go.RowKit Go.Shelf Go.Sort

theorem kept_all (zs : List Int) : (Lib.compact zs).length = zs.length ↔ ∀ j, j < zs.length → Lib.keeps zs.toArray j = true := by
  unfold Lib.compact Lib.compactUpTo
  rw [List.length_map]
  constructor
  · intro h j hj
    have h2 : ((List.range zs.length).filter (Lib.keeps zs.toArray)).length = (List.range zs.length).length := by rw [h, List.length_range]
    have h3 := (List.length_filter_eq_length_iff).1 h2
    exact h3 j (List.mem_range.2 hj)
  · intro h
    rw [List.filter_eq_self.2 (fun j hj => h j (List.mem_range.1 hj)), List.length_range]
theorem sorted_nodup {s : List Int} (hs : s.Pairwise (fun a b => a ≤ b)) : (∀ j, j < s.length → Lib.keeps s.toArray j = true) ↔ s.Nodup := by
  rw [List.pairwise_iff_getElem] at hs
  rw [List.nodup_iff_pairwise_ne, List.pairwise_iff_getElem]
  constructor
  · intro h i j hi hj hlt
    have h1 := h j hj
    simp only [Lib.keeps, decide_eq_true_eq] at h1
    rcases h1 with h1 | h1
    · omega
    · have e1 : s.toArray[j]! = s[j] := by simp [hj]
      have e2 : s.toArray[j - 1]! = s[j - 1] := by simp [show j - 1 < s.length by omega]
      rw [e1, e2] at h1
      have h2 := hs (j - 1) j (by omega) hj (by omega)
      by_cases e : i = j - 1
      · subst e; omega
      · have h3 := hs i (j - 1) hi (by omega) (by omega)
        omega
  · intro h j hj
    simp only [Lib.keeps, decide_eq_true_eq]
    by_cases h0 : j = 0
    · exact .inl h0
    · refine .inr ?_
      have e1 : s.toArray[j]! = s[j] := by simp [hj]
      have e2 : s.toArray[j - 1]! = s[j - 1] := by simp [show j - 1 < s.length by omega]
      rw [e1, e2]
      exact fun e => h (j - 1) j (by omega) hj (by omega) e.symm
theorem sorted_ms (l : List Int) : (l.mergeSort fun x y => decide (x ≤ y)).Pairwise (fun a b => a ≤ b) := by
  have h := List.pairwise_mergeSort (le := fun x y : Int => decide (x ≤ y)) (by intro a b c h1 h2; simp at *; omega) (by intro a b; simp; omega) l
  exact h.imp (by intro a b h; simpa using h)
theorem distinct_iff (l : List Int) : (Lib.compact (l.mergeSort fun x y => decide (x ≤ y))).length = l.length ↔ l.Nodup := by
  have hp := List.mergeSort_perm l (fun x y => decide (x ≤ y))
  rw [← hp.nodup_iff, ← sorted_nodup (sorted_ms l), ← kept_all, hp.length_eq]
theorem compact_le (zs : List Int) : (Lib.compact zs).length ≤ zs.length := by
  unfold Lib.compact Lib.compactUpTo
  rw [List.length_map]
  exact Nat.le_trans (List.length_filter_le _ _) (by rw [List.length_range]; exact Nat.le_refl _)
theorem nodup_nil {l : List Int} (h : l.length = 0) : decide l.Nodup = true := by
  rw [List.eq_nil_of_length_eq_zero h]; simp
set_option maxHeartbeats 800000 in
theorem distinct_any (A : Option Addr) (n c lo up : Nat) (l : List Int) (w : World) (h : Row w lo up A n (IK .i64 l)) (hn : n ≤ 1000000) :
    Calls Try.prog 13 #[.slice A n c] w fun e w' => e = .returned (.bool (decide l.Nodup)) ∧ Below w.heap.size w w' := by
  have hl : l.length = n := by have := h.len; rwa [IK_len] at this
  by_cases h0 : n = 0
  · subst h0
    have HN := hid (nodup_nil hl)
    clear hl h
    have cs := fun p cap W => AnyM.slices_Sort_int_none sortI p cap W
    have cs : ∀ p cap W, Calls Try.prog 23 #[.slice p 0 cap] W fun e w' => e = .returned (.tuple #[]) ∧ w' = W := cs
    have cc : ∀ p cap W, Calls Try.prog 24 #[.slice p 0 cap] W fun e w' => e = .returned (.slice p 0 cap) ∧ w' = W := fun p cap W => AnyG.slices_Compact_int_empty compactI p cap W
    cases A with
    | none =>
      have cn : Calls Try.prog 22 #[.slice none 0 c] w fun e w' => e = .returned (.slice none 0 0) ∧ w' = w := AnyG.slices_Clone_int_nil cloneI 0 c w
      go_enter Try.func13, Try.ntmps13
      go_wp2_with fail
      refine cn.mono ?_
      rintro e w' ⟨rfl, rfl⟩
      go_wp2_with fail
      refine (cs _ _ _).mono ?_
      rintro e w' ⟨rfl, rfl⟩
      go_wp2_with fail
      refine (cc _ _ _).mono ?_
      rintro e w' ⟨rfl, rfl⟩
      go_wp2
      go_ret
      exact ⟨by rw [HN.out]; rfl, Below.refl _ _⟩
    | some a =>
      have cn : Calls Try.prog 22 #[.slice (some a) 0 c] w fun e w' => ∃ v', e = .returned v' ∧ w'.ownsRow w.heap.size 3 1 v' 0 [] ∧ v' ≠ .slice none 0 0 ∧ Below w.heap.size w w' := AnyG.slices_Clone_int_zero cloneI a c w
      go_enter Try.func13, Try.ntmps13
      go_wp2_with fail
      refine cn.mono ?_
      rintro e w1 ⟨v', rfl, own1, _, hb1⟩
      obtain ⟨A1, c1, rfl, _, _⟩ := own_shape own1
      have HB := hid hb1
      clear own1 hb1
      go_wp2_with fail
      refine (cs _ _ _).mono ?_
      rintro e w' ⟨rfl, rfl⟩
      go_wp2_with fail
      refine (cc _ _ _).mono ?_
      rintro e w' ⟨rfl, rfl⟩
      go_wp2
      go_ret
      exact ⟨by rw [HN.out]; rfl, HB.out⟩
  · obtain ⟨b, off, rfl, _, _, hc⟩ := h.2 (by omega)
    have cn : Calls Try.prog 22 #[.slice (some ⟨b, off, none⟩) n c] w fun e w' => ∃ v', e = .returned v' ∧ w'.ownsRow w.heap.size 3 1 v' n ((l.take n).map (Value.int .i64)) ∧ v' ≠ .slice none 0 0 ∧ Below w.heap.size w w' :=
      AnyG.slices_Clone_int cloneI b off n c l w (by omega) (by omega) (fun j hj => by
        refine hc j _ ?_
        unfold IK
        rw [List.getElem?_map, List.getElem?_eq_getElem hj, List.getD_eq_getElem?_getD, List.getElem?_eq_getElem hj]
        rfl)
    rw [List.take_of_length_le (by omega)] at cn
    have HD := hid (distinct_iff l)
    have hms : (l.mergeSort fun x y => decide (x ≤ y)).length = n := by rw [(List.mergeSort_perm l _).length_eq, hl]
    have HM := hid hms
    have HL := hid hl
    clear h hc hl hms
    go_enter Try.func13, Try.ntmps13
    go_wp2_with fail
    refine cn.mono ?_
    rintro e w1 ⟨v', rfl, own1, hv, hb1⟩
    obtain ⟨g, cap, rfl, hg, hg2, hnc, hcm, _, hH⟩ := Lib.holds_of_ownsRow own1 hv
    have cs := AnyM.slices_Sort_int sortI g 0 cap l w1 hH hg2 (by rw [HL.out]; omega)
    rw [HL.out] at cs
    have cs : Calls Try.prog 23 #[.slice (some ⟨g, 0, none⟩) n cap] w1 fun e w' => e = .returned (.tuple #[]) ∧ ∃ q os, w' = grow (putRow (Value.int .i64) (Sort.ahead w1 q) g 0 (l.mergeSort fun x y => decide (x ≤ y)).toArray) os := cs
    have HB1 := hid hb1
    have HH := hid hH
    have HM1 := hid (And.intro hg hg2)
    clear own1 hv hb1 hH hg hg2 cn
    go_wp2_with fail
    refine cs.mono ?_
    rintro e w2 ⟨rfl, q, os, hw2⟩
    have hg2 := HM1.out.2
    have hH2 : Holds (Value.int .i64) w2 g 0 (l.mergeSort fun x y => decide (x ≤ y)).toArray := by
      have h0 : Holds (Value.int .i64) (putRow (Value.int .i64) (Sort.ahead w1 q) g 0 (l.mergeSort fun x y => decide (x ≤ y)).toArray) g 0 (l.mergeSort fun x y => decide (x ≤ y)).toArray :=
        holds_putRow _ (Sort.ahead w1 q) g 0 l.toArray _ HH.out (by simp only [List.size_toArray]; rw [HM.out, HL.out])
      have hsz : g < (putRow (Value.int .i64) (Sort.ahead w1 q) g 0 (l.mergeSort fun x y => decide (x ≤ y)).toArray).heap.size := by rw [size_putRow]; exact hg2
      rw [hw2]
      exact fun j hj => ⟨(cell?_grow _ _ _ hsz).trans (h0 j hj).1, (frozen?_grow _ _ _ hsz).trans (h0 j hj).2⟩
    have hb2 : Below w.heap.size w w2 := by
      rw [hw2]
      exact HB1.out.grown (grownBy_sortedI _) HB1.out.size (fun k hk => by injection hk with hk; rw [← hk]; exact HM1.out.1)
    generalize hms2 : (l.mergeSort fun x y => decide (x ≤ y)) = s at hH2 HM HD
    have cc := AnyG.slices_Compact_int compactI g 0 cap s w2 hH2 (by rw [HM.out]; omega) (by rw [HM.out]; omega)
    rw [HM.out] at cc
    have hcl := compact_le s
    generalize Lib.compact s = z at *
    have cc : Calls Try.prog 24 #[.slice (some ⟨g, 0, none⟩) n cap] w2 fun e w' => e = .returned (.slice (some ⟨g, 0, none⟩) z.length cap) ∧ ∃ q, w' = putRow (Value.int .i64) (Sort.ahead w2 q) g 0 (z ++ List.replicate (n - z.length) 0).toArray := cc
    have HE : Hid (((z.length : Int) == (n : Int)) = decide l.Nodup) := by
      refine hid ?_
      by_cases e : l.Nodup
      · have := HD.out.2 e
        rw [HL.out] at this
        rw [this, decide_eq_true e]; simp
      · have : z.length ≠ n := fun h => e (HD.out.1 (by rw [HL.out]; exact h))
        rw [decide_eq_false e]; simp; omega
    have HB2 := hid hb2
    rw [HM.out] at hcl
    generalize z.length = k at *
    clear hw2 hH2 hb2 HH cs HD
    go_wp2_with fail
    refine cc.mono ?_
    rintro e w3 ⟨rfl, q3, rfl⟩
    go_wp2
    go_ret
    exact ⟨by rw [HE.out]; rfl, Lib.below_putRow HB2.out HM1.out.1⟩
end Go.Proofs.Ytjnbdlbgfgdopaa
