/-
  lives of layer 3: the chapter's examples; and the law over Fixed and the reference's.
-/
import Derived.Test.YtcaleaecjoafhaaDist
import Derived.Test.YtcaleaecjoafhaaRFixed
namespace Go.Proofs.Ytcaleaecjoafhaa
open Go.RowKit
open Ieee (double)

theorem rowk_lit_at (K : IntKind) (w : World) (t : TypeId) (l : List Int) (cs : Array Value) (n g : Nat) (hc : cs = (IK K l).toArray) (hn : n = l.length) (hg : g = w.heap.size) : Row (w.alloc (.cells cs t)) g (g + 1) (some ⟨g, 0, none⟩) n (IK K l) := by
  subst hc hn hg
  refine ⟨IK_len K l, fun _ => ⟨w.heap.size, 0, rfl, Nat.le_refl _, Nat.lt_succ_self _, fun j u hu => ?_⟩⟩
  have := World.news_of_block (heap_alloc_new w (.cells (IK K l).toArray t)) j u hu
  rwa [addr_add] at this
theorem fx_mk {D m : Nat} {f x er : Int} {s : Bool} {i : Int} (h0 : 0 ≤ f) (h1 : f ≤ 15) (hr : double.read D = .number s m i) (h : Told16 (sg s (rv m (i + f))) x er) : Fx D f x er :=
  .inr (.inr ⟨h0, h1, s, m, i, hr, h⟩)
theorem fx_half : Fx 4609434218613702656 0 2 0 := fx_mk (by decide) (by decide) (show double.read 4609434218613702656 = .number false 6755399441055744 (-52) by decide) (.inl ⟨by decide, by decide, by decide, rfl⟩)
theorem fx_neg : Fx 13826050856027422720 0 0 0 := fx_mk (by decide) (by decide) (show double.read 13826050856027422720 = .number true 4503599627370496 (-53) by decide) (.inl ⟨by decide, by decide, by decide, rfl⟩)
theorem fx_two : Fx 4612811918334230528 0 2 0 := fx_mk (by decide) (by decide) (show double.read 4612811918334230528 = .number false 5629499534213120 (-51) by decide) (.inl ⟨by decide, by decide, by decide, rfl⟩)
theorem fixed_lit {D : Nat} {f x er : Int} (h : Fx D f x er) (d : Int) (hd : d = (D : Int)) (w : World) :
    Calls Try.prog 10 #[.int .u64 d, .int .i64 f] w fun e w' => e = .returned (.tuple #[.int .i16 x, .int .i64 er]) ∧ w = w' := by
  subst hd
  exact fixed_at D f x er w h

set_option maxRecDepth 100000 in
set_option maxHeartbeats 800000 in
theorem lives_any (w : World) : Calls Try.prog 13 #[] w fun e w' => e = .returned (.bool true) ∧ Below w.heap.size w w' := by
  have hR1 : Row ((w.alloc (.cells #[.int .i32 1, .int .i32 2] 21)).alloc (.cells #[.int .i32 4, .int .i32 (-2)] 21)) w.heap.size (w.heap.size + 1) (some ⟨w.heap.size, 0, none⟩) 2 (IK .i32 [1, 2]) :=
    (rowk_lit_at .i32 w 21 [1, 2] _ 2 w.heap.size rfl rfl rfl).alloc (by simp) _
  have hR2 : Row ((w.alloc (.cells #[.int .i32 1, .int .i32 2] 21)).alloc (.cells #[.int .i32 4, .int .i32 (-2)] 21)) (w.heap.size + 1) (w.heap.size + 2) (some ⟨w.heap.size + 1, 0, none⟩) 2 (IK .i32 [4, -2]) :=
    rowk_lit_at .i32 _ 21 [4, -2] _ 2 (w.heap.size + 1) rfl rfl (by simp)
  have hb : Below w.heap.size w ((w.alloc (.cells #[.int .i32 1, .int .i32 2] 21)).alloc (.cells #[.int .i32 4, .int .i32 (-2)] 21)) := ((Below.refl _ _).alloc (Nat.le_refl _) _).alloc (by simp) _
  have HD := hid (dist_any _ _ 2 2 2 2 _ _ _ _ [1, 2] [4, -2] _ hR1 hR2 (by simp) (by simp) (by decide) (by decide))
  rw [show dd [1, 2] [4, -2] = 25 by decide, show cp [1, 2] [4, -2] = 0 by decide] at HD
  go_enter Try.func13, Try.ntmps13
  go_wp2_with fail
  refine HD.out.mono ?_
  rintro e w1 ⟨rfl, hb1⟩
  go_wp2_with fail
  refine (fixed_lit fx_half _ rfl _).mono ?_
  rintro e w2 ⟨rfl, rfl⟩
  go_wp2_with fail
  refine (fixed_lit fx_neg _ rfl _).mono ?_
  rintro e w2 ⟨rfl, rfl⟩
  go_wp2_with fail
  refine (fixed_lit fx_two _ rfl _).mono ?_
  rintro e w2 ⟨rfl, rfl⟩
  go_wp2
  go_ret
  exact ⟨rfl, hb.trans (hb1.mono (by simp; omega))⟩

set_option maxHeartbeats 800000 in
theorem vecFixed_walk (D : Nat) (f : Int) (w : World) (hD : D < 18446744073709551616) :
    Calls Try.prog 5 #[.int .u64 D, .int .i64 f] w fun e w' => e = .returned (.bool true) ∧ Below w.heap.size w w' := by
  obtain ⟨x, er, hx⟩ := fx_ex D f
  have HX := hid hx
  clear hx
  have q1 : (x == x) = true := by simp
  have q2 : (er == er) = true := by simp
  go_enter Try.func5, Try.ntmps5
  go_wp2_with fail
  refine (lives_any w).mono ?_
  rintro e w1 ⟨rfl, hb⟩
  go_wp2_with fail
  refine (fixed_at D f x er w1 HX.out : Calls _ _ _ _ _).mono ?_
  rintro e w2 ⟨rfl, rfl⟩
  go_wp2_with fail
  refine (rfixed_at D f x er w1 hD HX.out : Calls _ _ _ _ _).mono ?_
  rintro e w2 ⟨rfl, rfl⟩
  go_wp2
  go_ret
  exact ⟨rfl, hb⟩
end Go.Proofs.Ytcaleaecjoafhaa
