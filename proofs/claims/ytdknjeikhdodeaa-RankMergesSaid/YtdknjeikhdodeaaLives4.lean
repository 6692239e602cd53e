/-
  lives of layer 4: the chapter's example; and the walks of RankNames, RankNil, RankOrder.
-/
import Derived.Test.YtdknjeikhdodeaaSameN
namespace Go.Proofs.Ytdknjeikhdodeaa
open Go.RowKit Go.Sort

theorem Moved.below {a b : World} {T B : Nat} {G G' : Option Nat} (h : Moved a b T G G') (hB : B ≤ a.heap.size) (hT : B ≤ T) (hG : ∀ g, G = some g → T < g) : Below B a b := by
  refine h.2.below hB fun i hi => ?_
  rcases List.mem_cons.1 hi with e | hm
  · omega
  · cases G with
    | none => simp at hm
    | some g => have := hG g rfl; simp at hm; omega
theorem nears_lit (w : World) (t : TypeId) (l : List (Int × Int)) (cs : Array Value) (n g : Nat) (hc : cs = (NC l).toArray) (hn : l.length = n) (hg : g = w.heap.size) : Nears (w.alloc (.cells cs t)) g (g + 1) (some ⟨g, 0, none⟩) n l := by
  subst hc hg
  refine ⟨hn, fun _ => ⟨w.heap.size, 0, rfl, Nat.le_refl _, Nat.lt_succ_self _, fun j hj => ?_⟩⟩
  rw [Nat.zero_add, cell_new w t _ _ _ rfl, cell_new w t _ _ _ rfl]
  simpa using NC_get l j hj
theorem FreshN.big {w w' : World} {l : List (Int × Int)} {A : Option Addr} {n c : Nat} (_ : FreshN w l (.returned (.slice A n c)) w') : True := trivial
set_option maxRecDepth 100000 in
set_option maxHeartbeats 1600000 in
theorem lives_any (w : World) : Calls Try.prog 12 #[] w fun e w' => e = .returned (.bool true) ∧ Below w.heap.size w w' := by
  have a1 : adds 2 [] (5, 1) = true := by decide
  have a2 : adds 2 [(5, 1)] (3, 9) = true := by decide
  have a3 : adds 2 [(5, 1), (3, 9)] (5, 0) = true := by decide
  have k3 : keep 2 [(5, 1), (3, 9), (5, 0)] = [(3, 9), (5, 0)] := by decide
  go_enter Try.func12, Try.ntmps12
  go_wp2_with fail
  refine (new_ok 2 (by decide) w).mono ?_
  rintro e w1 ⟨rfl, hT1, hl1⟩
  obtain ⟨T, hT⟩ : ∃ T, w.heap.size = T := ⟨_, rfl⟩
  have hb1 := hl1.below
  rw [hT] at hT1 hb1 ⊢
  have HT := hid hT
  clear hl1 hT
  go_wp2_with fail
  refine (add_any w1 T 2 none [] (5, 1) hT1 (by decide)).mono ?_
  rw [a1]
  rintro e w2 ⟨G2, rfl, hT2, mv2⟩
  have hb2 := hb1.trans (mv2.below (Nat.le_of_lt hT1.lt.1) (Nat.le_refl _) (fun g hg => (hT1.lt.2 g hg).1))
  clear hT1 hb1 mv2
  go_wp2_with fail
  refine (add_any w2 T 2 G2 [(5, 1)] (3, 9) hT2 (by decide)).mono ?_
  rw [a2]
  rintro e w3 ⟨G3, rfl, hT3, mv3⟩
  have hb3 := hb2.trans (mv3.below (Nat.le_of_lt hT2.lt.1) (Nat.le_refl _) (fun g hg => (hT2.lt.2 g hg).1))
  clear hT2 hb2 mv3
  go_wp2_with fail
  refine (add_any w3 T 2 G3 [(5, 1), (3, 9)] (5, 0) hT3 (by decide)).mono ?_
  rw [a3]
  rintro e w4 ⟨G4, rfl, hT4, mv4⟩
  have hb4 := hb3.trans (mv4.below (Nat.le_of_lt hT3.lt.1) (Nat.le_refl _) (fun g hg => (hT3.lt.2 g hg).1))
  clear hT3 hb3 mv4
  go_wp2_with fail
  refine (list_any w4 T 2 G4 _ hT4 (by decide)).mono ?_
  rintro e w5 ⟨A, n, c, rfl, HL, HA, hnc, hcm, hN, hb5⟩
  have H5 := hid (hb4.trans (hb5.mono (Nat.le_of_lt hT4.lt.1)))
  have hT5 := hb5.size
  have hTl := hT4.lt.1
  rw [show [((5 : Int), (1 : Int)), (3, 9)] ++ [(5, 0)] = [(5, 1), (3, 9), (5, 0)] from rfl, k3] at hN
  clear hb4 hb5 hT4
  have hn : n ≤ 7000000000 := by have := hN.1; simp at this; omega
  have hN2 : Nears (w5.alloc (.cells #[.int .i64 3, .int .i64 9, .int .i64 5, .int .i64 0] 29)) w5.heap.size (w5.heap.size + 1) (some ⟨w5.heap.size, 0, none⟩) 2 [(3, 9), (5, 0)] := nears_lit _ _ _ _ _ _ rfl rfl rfl
  have hN1 := hN.lays (lays_alloc w5 (.cells #[.int .i64 3, .int .i64 9, .int .i64 5, .int .i64 0] 29)) (Nat.le_refl _)
  go_wp2_with fail
  refine (same_yes _ _ n 2 c 2 _ _ _ _ _ _ _ hN1 hN2 hn rfl).mono ?_
  rintro e w6 ⟨rfl, q, rfl⟩
  go_wp2
  go_ret
  refine ⟨rfl, ?_⟩
  have hTT := HT.out
  rw [hTT]
  exact H5.out.trans (below_drewN ((Below.refl _ _).alloc (by omega) _) q)
end Go.Proofs.Ytdknjeikhdodeaa
