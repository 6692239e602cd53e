/-
  rank's heap: one more is put into it.
-/
import Derived.Test.YtdknjeikhdodeaaTop
namespace Go.Proofs.Ytdknjeikhdodeaa
open Go.RowKit Go.Sort

theorem wrap_i64 {x : Int} (h : -9223372036854775808 ≤ x) (h2 : x ≤ 9223372036854775807) : IntKind.i64.wrap x = x := by
  simp [IntKind.wrap, IntKind.bits, IntKind.signed]
  omega
set_option maxHeartbeats 1600000 in
theorem push_any (w : World) (T k : Nat) (G : Option Nat) (h : List (Int × Int)) (x : Int × Int) (hT : TopH w T G k h) (hh : Hp h) (hn : h.length ≤ 60000000) :
    Calls Try.prog 27 #[.pointer (some ⟨T, 2, none⟩), .agg #[.int .i64 x.1, .int .i64 x.2]] w fun e w' => ∃ h' G', e = .returned (.tuple #[]) ∧ TopH w' T G' k h' ∧ Hp h' ∧ h'.Perm (h ++ [x]) ∧ Moved w w' T G G' := by
  obtain ⟨A, c, hB, hG, hown⟩ := hT
  obtain ⟨x1, x2⟩ := x
  have hTl := hB.lt
  have hc : w.cell? ⟨T, 2, none⟩ = some (.slice A h.length c) := hB.cell 2
  have hf := hB.frozen 2
  have hTG : some T ≠ (Value.slice A h.length c).ownBlock := by
    intro e
    have := hown.lt T e.symm
    omega
  obtain ⟨n, HN⟩ : ∃ n, Hid (h.length = n) := ⟨_, hid rfl⟩
  rw [HN.out] at hc hown hn hG hB hTG
  go_enter Try.func27, Try.ntmps27
  go_wp2
  have hl0 := lays_alloc w (.cells #[.int .i64 x1, .int .i64 x2] 29)
  have e0 := cell_new w 29 #[.int .i64 x1, .int .i64 x2] 0 w.heap.size rfl
  have e1 := cell_new w 29 #[.int .i64 x1, .int .i64 x2] 1 w.heap.size rfl
  simp only [List.getElem?_toArray, List.getElem?_cons_zero, List.getElem?_cons_succ] at e0 e1
  have hsz : w.heap.size < (w.alloc (.cells #[.int .i64 x1, .int .i64 x2] 29)).heap.size := by simp
  obtain ⟨B, hBe⟩ : ∃ B, w.heap.size = B := ⟨_, rfl⟩
  have HL0 := hid hl0
  have HBE := hid hBe
  rw [hBe] at e0 e1 hsz ⊢
  clear hBe hl0
  generalize w.alloc (.cells #[.int .i64 x1, .int .i64 x2] 29) = wa at HL0 e0 e1 hsz ⊢
  have hTa : T < wa.heap.size := by have := HBE.out; omega
  have kB := hB.touch (touch_lays HL0.out []) (by simp)
  have kown := own_touch hown (touch_lays HL0.out []) (by simp)
  have hcT : wa.cell? ⟨T, 2, none⟩ = some (.slice A n c) := kB.cell 2
  have OWN : ∀ o, (wa.alloc o).ownsRow (T + 1) 29 2 (.slice A n c) n (NC h) := fun o => own_touch kown (touch_lays (lays_alloc wa o) []) (by simp)
  have NEW : Nears (wa.alloc (.cells #[.int .i64 x1, .int .i64 x2] 29)) wa.heap.size (wa.heap.size + 1) (some ⟨wa.heap.size, 0, none⟩) 1 [(x1, x2)] :=
    ⟨rfl, fun _ => ⟨_, 0, rfl, Nat.le_refl _, Nat.lt_succ_self _, fun j hj => by
      obtain rfl : j = 0 := by simpa using hj
      exact ⟨(cell_new _ _ _ _ _ rfl).trans rfl, (cell_new _ _ _ _ _ rfl).trans rfl⟩⟩⟩
  have KB : ∀ o, Blk (wa.alloc o) T 54 #[.bool true, .int .i64 k, .slice A n c] := fun o => kB.alloc o
  have hbase : ∀ o, T + 1 ≤ (wa.alloc o).heap.size := fun o => by simp; omega
  have h63 : n + 1 ≤ 8000000000 := by omega
  have hnn : (some (⟨wa.heap.size, 0, none⟩ : Addr)) = none → 1 = 0 := fun e => by cases e
  clear hc hf hown hB
  go_region_law (first
    | (refine step_append_pairs _ rfl (.tmp 7) (.tmp 9) 52 rfl (T + 1) Try.underlying52 (.slice A n c) n h rfl (by exact OWN _) wa.heap.size (wa.heap.size + 1) (some ⟨wa.heap.size, 0, none⟩) 1 1 rfl hnn [(x1, x2)] (by exact NEW) h63 (by exact hbase _) ?_; intro v7 w7 own7 grow7 at7; obtain ⟨A7, c7, rfl⟩ := own_shape2 own7; have k7 : Blk w7 T 54 #[.bool true, .int .i64 k, .slice A n c] := Blk.grown (by exact KB _) grow7 hTG; have hf7 := k7.frozen 2; have hc7 : w7.cell? ⟨T, 2, none⟩ = some (.slice A n c) := k7.cell 2))
  all_goals
    have HA := hid at7
    have HN7 := hid grow7
    clear at7 grow7
    obtain ⟨hl7, ⟨hv, _⟩ | ⟨g7, cap7, e7, hg7, hh7⟩⟩ := heap_of_own own7
    · injection hv with _ hv
      omega
    injection e7 with e7 _ e8
    subst e7 e8
    have k8 := k7.set 2 (.slice (some ⟨g7, 0, none⟩) (n + 1) c7)
    have hs7 := Touch.refl w7 [T]
    have t8 : w7.grownBy (w7.setCell ⟨T, 2, none⟩ (.slice (some ⟨g7, 0, none⟩) (n + 1) c7)) (some T) := only_set (World.grownBy.refl _ _) _ _
    have hh8 : HeapAt (w7.setCell ⟨T, 2, none⟩ (.slice (some ⟨g7, 0, none⟩) (n + 1) c7)) g7 c7 (h ++ [(x1, x2)]) := by
      obtain ⟨cs, q1, q2⟩ := hh7
      exact ⟨cs, q1.grown t8 (by intro e; injection e with e; omega), q2⟩
    have T8 := hid t8
    clear t8 hs7 hh7 k7 hf7 hc7 own7
    generalize w7.setCell ⟨T, 2, none⟩ (.slice (some ⟨g7, 0, none⟩) (n + 1) c7) = w8 at k8 hh8 T8 ⊢
    have hc8 : w8.cell? ⟨T, 2, none⟩ = some (.slice (some ⟨g7, 0, none⟩) (n + 1) c7) := k8.cell 2
    have hTl8 := k8.lt
    have hneg : some T ≠ some g7 := by intro e; injection e with e; omega
    have hup : Hid (HpUp (h ++ [(x1, x2)]) n) := by have := hp_snoc hh (x1, x2); rw [HN.out] at this; exact hid this
    have hwr : IntKind.i64.wrap (n : Int) = (n : Int) := wrap_i64 (by omega) (by omega)
    go_wp2
    go_region_held3 (fun w' => w'.cell? ⟨T, 2, none⟩ = some (.slice (some ⟨g7, 0, none⟩) (n + 1) c7)) (first | exact hc8 | exact (gr9.cell_far _ hTl8 hneg).trans hc8)
      (first | (go_at_call 33; refine (siftUp_any g7 c7 n (n + 1) (h ++ [(x1, x2)]) _ (by exact hh8) hl7 (Nat.lt_succ_self n) (by omega) hup.out).mono ?_; rintro e w9 ⟨l', rfl, hh9, hp9, pm9, gr9⟩))
    go_end0
    have k9 := Blk.grown (w := w8.drew) k8 gr9 hneg
    have hll : l'.length = n + 1 := by rw [pm9.length_eq, hl7]
    refine ⟨l', some g7, rfl, ⟨some ⟨g7, 0, none⟩, c7, ?_, rfl, ?_⟩, hp9, pm9, ?_, ?_⟩
    · rw [hll]; exact k9
    · rw [hll]; exact own_of_heap hh9 hg7 hll
    · rcases HA.out with e | e
      · exact .inl (e.trans hG)
      · refine .inr ⟨g7, rfl, ?_⟩
        have e : g7 = wa.heap.size + 1 := by simpa [Value.ownBlock] using e
        have := HBE.out
        omega
    · have a1 : Touch w wa (T :: G.toList) := touch_lays HL0.out _
      have a2 : Touch wa w7 (T :: G.toList) := (touch_lays ((lays_alloc wa _).trans (lays_drewN _ 1)) _).trans (touch_grown HN7.out (fun g hg => by rw [hG] at hg; simp [hg]))
      have a3 : Touch w7 w8 (T :: G.toList) := touch_grown T8.out (fun g hg => by injection hg with hg; simp [hg])
      have a4 : Touch w8 w9 [g7] := touch_grown (World.grownBy.trans (only_drewN (World.grownBy.refl w8 (some g7)) 1) gr9) (fun g hg => by injection hg with hg; simp [hg])
      refine ((a1.trans a2).trans a3).then a4 fun i hi hm => ?_
      obtain rfl : i = g7 := by simpa using hm
      rcases HA.out with e | e
      · rw [hG] at e
        simp [← e, Value.ownBlock]
      · have e : i = wa.heap.size + 1 := by simpa [Value.ownBlock] using e
        have := a1.size
        omega
end Go.Proofs.Ytdknjeikhdodeaa
