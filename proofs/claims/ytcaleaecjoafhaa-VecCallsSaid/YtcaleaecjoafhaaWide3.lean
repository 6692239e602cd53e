/-
  Contracts of vec.Wide, vec.Same and of the reference's Wide, Bytes and Read, whatever comes in.
-/
import Derived.Test.YtcaleaecjoafhaaOwn32
import Derived.Test.YtcaleaecjoafhaaNums
import Derived.Test.YtcaleaecjoafhaaRead
namespace Go.Proofs.Ytcaleaecjoafhaa
open Go.RowKit

theorem i32_of_i16 {x : Int} (h1 : -32768 ≤ x) (h2 : x ≤ 32767) : IntKind.i32.wrap x = x := by
  simp [IntKind.wrap, IntKind.bits, IntKind.signed]
  omega
theorem wideStep (g gv n k : Nat) (x : Int) (cs : Array Value) (w : World) (k1 : Blk w gv 27 #[.slice (some ⟨g, 0, none⟩) n n]) (k2 : Blk w g 21 cs) (hcs : cs.size = n) (hk : k < n) (h1 : -32768 ≤ x) (h2 : x ≤ 32767) :
    Calls Try.prog 56 #[.int .i64 k, .int .i16 x, .pointer (some ⟨gv, 0, none⟩)] w fun e w' => e = .returned (.bool true) ∧ w' = w.setCell ⟨g, k, none⟩ (.int .i32 x) := by
  have c1 : w.cell? ⟨gv, 0, none⟩ = some (.slice (some ⟨g, 0, none⟩) n n) := k1.cell 0
  have c2 : w.cell? ⟨g, k, none⟩ = some cs[k] := (k2.cell k).trans (Array.getElem?_eq_getElem (by omega))
  have f2 := k2.frozen k
  have q := i32_of_i16 h1 h2
  go_enter Try.func56, Try.ntmps56
  go_wp2
  go_ret
  exact ⟨rfl, rfl⟩
theorem wide_any (A : Option Addr) (n c lo up : Nat) (l : List Int) (w : World) (hR : Row w lo up A n (IK .i16 l)) (hl16 : ∀ x ∈ l, -32768 ≤ x ∧ x ≤ 32767) (hup : up ≤ w.heap.size) (hn : n ≤ 100000) :
    Calls Try.prog 26 #[.slice A n c] w (FreshK .i32 21 w l) := by
  have hl := hR.len
  rw [IK_len] at hl
  have HL := hid hl
  clear hl
  have hqm := fun W => make_row .i32 27 21 4 n W Try.underlying27 info32 (by omega) (by omega)
  have HT := hid (through16 56 #[.pointer (some ⟨w.heap.size + 1, 0, none⟩)] A n c l ((w.alloc (.cells (IK .i32 (List.replicate n 0)).toArray 21)).alloc (.cells #[.slice (some ⟨w.heap.size, 0, none⟩) n n] 27))
    (fun k wr => Blk wr (w.heap.size + 1) 27 #[.slice (some ⟨w.heap.size, 0, none⟩) n n] ∧ Blk wr w.heap.size 21 (IK .i32 (l.take k ++ List.replicate (n - k) 0)).toArray ∧ Below w.heap.size w wr)
    (fun _ => False) (enters_of Try.func56 (by kernel_rfl) rfl) (by omega) HL.out
    (fun k wr _ h => ⟨lo, up, hR.below h.2.2 hup⟩)
    (by
      rintro k hk wr ⟨k1, k2, k3⟩
      have hkn : k < n := by rw [← HL.out]; exact hk
      have hlk : (l.take k).length = k := by rw [List.length_take]; omega
      obtain ⟨x1, x2⟩ := hl16 _ (List.getElem_mem hk)
      refine (wideStep w.heap.size (w.heap.size + 1) n k l[k] _ wr k1 k2 (by rw [List.size_toArray, IK_len, List.length_append, hlk, List.length_replicate]; omega) hkn x1 x2).mono ?_
      rintro e w' ⟨rfl, rfl⟩
      have k2' := k2.set k (.int .i32 l[k])
      rw [fill_step .i32 _ n k _ hlk hkn, ← List.take_succ_eq_append_getElem hk] at k2'
      exact .inl ⟨rfl, k1.far (by simp) _, k2', k3.setCell (by simp) _⟩)
    (by
      refine ⟨?_, ?_, ((Below.refl _ _).alloc (Nat.le_refl _) _).alloc (by simp) _⟩
      · have := Blk.new (w.alloc (.cells (IK .i32 (List.replicate n 0)).toArray 21)) 27 #[.slice (some ⟨w.heap.size, 0, none⟩) n n]
        simpa using this
      · simpa using (Blk.new w 21 (IK .i32 (List.replicate n 0)).toArray).alloc (.cells #[.slice (some ⟨w.heap.size, 0, none⟩) n n] 27)))
  go_enter Try.func26, Try.ntmps26
  go_wp2_with fail
  refine HT.out.mono ?_
  rintro e w1 (⟨rfl, k1, k2, k3⟩ | ⟨_, hF⟩)
  · rw [List.take_of_length_le (by rw [HL.out]; exact Nat.le_refl _), Nat.sub_self, List.replicate_zero, List.append_nil] at k2
    have hc : w1.cell? ⟨w.heap.size + 1, 0, none⟩ = some (.slice (some ⟨w.heap.size, 0, none⟩) n n) := k1.cell 0
    clear k1
    go_wp2
    go_ret
    exact fresh_k HL.out (owns_blk k2 HL.out (Nat.le_refl _) (by unfold maxLen; omega)) k3
  · exact hF.elim

set_option maxHeartbeats 800000 in
theorem rwide_any (A : Option Addr) (n c lo up : Nat) (l : List Int) (w : World) (hR : Row w lo up A n (IK .i16 l)) (hl16 : ∀ x ∈ l, -32768 ≤ x ∧ x ≤ 32767) (hup : up ≤ w.heap.size) (hn : n ≤ 100000) :
    Calls Try.prog 27 #[.slice A n c] w (FreshK .i32 21 w l) := by
  obtain ⟨i0, hi, hz0, hz1, hz2⟩ := info_parts info32
  have hl := hR.len
  rw [IK_len] at hl
  have HL := hid hl
  have H16 := hid hl16
  clear hl hl16
  go_enter Try.func27, Try.ntmps27
  go_wp2
  go_loopw [3, 4] (fun v i wr => ∃ k : Nat, k ≤ n ∧ i = .int .i64 k ∧ wr.ownsRow w.heap.size 21 1 v k (IK .i32 (l.take k)) ∧ Below w.heap.size w wr) (fun _ i _ => n - (intOf i).toNat)
  case atStart => exact ⟨0, Nat.zero_le _, rfl, World.ownsRow_nil _ _ _ _, Below.refl _ _⟩
  case round =>
    obtain ⟨k, hk, rfl, hown, hb⟩ := hrel
    have hsz := hb.size
    by_cases hlt : k < n
    · have hka : k < l.length := by rw [HL.out]; exact hlt
      obtain ⟨p, off, rfl, _, _, hx⟩ := cells_at (hR.below hb hup) hka
      have HI : Hid (IK .i32 (l.take (k + 1)) = IK .i32 (l.take k) ++ [.int .i32 l[k]]) := hid (by rw [List.take_succ_eq_append_getElem hka, IK_append]; rfl)
      obtain ⟨x1, x2⟩ := H16.out l[k] (List.getElem_mem _)
      generalize l[k] = x at *
      have q := i32_of_i16 x1 x2
      go_wp2_with (at_builtin; refine wpList_append_row _ rfl (.tmp 11) (.tmp 17) 27 rfl w.heap.size 21 i0 (.int .i32 0) 4 Try.underlying27 hi hz0 hz1 hz2 rfl u3 k (IK .i32 (l.take k)) rfl (hown.alloc _) wr.heap.size (wr.heap.size + 1) (some ⟨wr.heap.size, 0, none⟩) 1 1 rfl (by intro h; cases h) [.int .i32 x] (by exact row_one _ _ _) (by intro u hu; simp at hu; subst hu; rfl) (by unfold maxLen; omega) (by omega) (by simp; omega) ?_; intro v3 w3 hown3 hgrow3 _)
      have hb3 : Below w.heap.size w w3 := (hb.alloc hsz _).grown hgrow3 (by simp; omega) (fun g hg => (hown.lt g hg).1)
      rw [← HI.out] at hown3
      clear hgrow3 hown hb
      go_wp2
      go_roundw
      case rel => exact ⟨k + 1, by omega, by go_num, hown3, hb3⟩
      case measure => simp [intOf]; omega
    · obtain rfl : k = n := by omega
      rw [List.take_of_length_le (by rw [HL.out]; exact Nat.le_refl _)] at hown
      go_wp2
      go_ret
      exact fresh_k HL.out hown hb

theorem sameStep (g b off n d k : Nat) (x y : Int) (w : World) (hc : w.cell? ⟨g, 0, none⟩ = some (.slice (some ⟨b, off, none⟩) n d)) (hk : k < n) (hy : w.cell? ⟨b, off + k, none⟩ = some (.int .i32 y)) :
    Calls Try.prog 59 #[.int .i64 k, .int .i32 x, .pointer (some ⟨g, 0, none⟩)] w fun e w' => e = .returned (.bool (x == y)) ∧ w = w' := by
  go_enter Try.func59, Try.ntmps59
  go_wp2
  go_ret
  exact ⟨rfl, rfl⟩
theorem vsame_any (A B : Option Addr) (n m c d lo up lo' up' : Nat) (a b : List Int) (w : World) (hR : Row w lo up A n (IK .i32 a)) (hR' : Row w lo' up' B m (IK .i32 b)) (hup : up ≤ w.heap.size) (hup' : up' ≤ w.heap.size) (hn : n ≤ 9223372036854775807) :
    Calls Try.prog 32 #[.slice A n c, .slice B m d] w fun e w' => e = .returned (.bool (decide (a = b))) ∧ Below w.heap.size w w' := by
  have hl := hR.len
  have hl' := hR'.len
  rw [IK_len] at hl hl'
  have HA := hid hl
  have HB := hid hl'
  have hb0 : Below w.heap.size w (w.alloc (.cells #[.slice B m d] 27)) := (Below.refl _ _).alloc (Nat.le_refl _) _
  by_cases hnm : n = m
  · subst hnm
    have hq : ((n : Int) == (n : Int)) = true := by simp
    have HT := hid (through32 59 #[.pointer (some ⟨w.heap.size, 0, none⟩)] A n c a (w.alloc (.cells #[.slice B n d] 27))
      (fun k wr => wr = w.alloc (.cells #[.slice B n d] 27) ∧ a.take k = b.take k) (fun wr => wr = w.alloc (.cells #[.slice B n d] 27) ∧ ¬ a = b) (enters_of Try.func59 (by kernel_rfl) rfl) hn HA.out
      (fun k wr _ h => ⟨lo, up, by rw [h.1]; exact hR.below hb0 hup⟩)
      (by
        rintro k hk wr ⟨rfl, ht⟩
        have hkb : k < b.length := by omega
        obtain ⟨p, off, rfl, _, _, hy⟩ := cells_at (hR'.below hb0 hup') hkb
        refine (sameStep w.heap.size p off n d k a[k] b[k] _ ((Blk.new w 27 #[.slice (some ⟨p, off, none⟩) n d]).cell 0) (by omega) hy).mono ?_
        rintro e w' ⟨rfl, rfl⟩
        by_cases he : a[k] = b[k]
        · refine .inl ⟨by rw [he]; simp, rfl, ?_⟩
          rw [List.take_succ_eq_append_getElem hk, List.take_succ_eq_append_getElem hkb, ht, he]
        · refine .inr ⟨by simp [he], rfl, fun hab => he ?_⟩
          subst hab
          rfl)
      ⟨rfl, by simp⟩)
    clear hl hl'
    go_enter Try.func32, Try.ntmps32
    go_wp2_with fail
    refine HT.out.mono ?_
    rintro e w1 (⟨rfl, rfl, ht⟩ | ⟨rfl, rfl, hne⟩)
    · have hab : a = b := by
        rw [List.take_of_length_le (by rw [HA.out]; exact Nat.le_refl _), List.take_of_length_le (by rw [HB.out]; exact Nat.le_refl _)] at ht
        exact ht
      have HD : Hid (decide (a = b) = true) := hid (decide_eq_true hab)
      clear ht hab
      go_wp2
      go_ret
      exact ⟨by rw [HD.out]; rfl, hb0⟩
    · have HD : Hid (decide (a = b) = false) := hid (decide_eq_false hne)
      clear hne
      go_wp2
      go_ret
      exact ⟨by rw [HD.out]; rfl, hb0⟩
  · have hq : ((n : Int) == (m : Int)) = false := by simp; omega
    have HD : Hid (decide (a = b) = false) := hid (decide_eq_false fun h => hnm (by rw [← hl, ← hl', h]))
    clear hl hl' hnm
    go_enter Try.func32, Try.ntmps32
    go_wp2
    go_ret
    exact ⟨by rw [HD.out]; rfl, hb0⟩
end Go.Proofs.Ytcaleaecjoafhaa
