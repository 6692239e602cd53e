/-
  Contract: Same.
-/
import Derived.Test.YtkadljomimpnjaaDiskClone
import Derived.Laws.BytesArg
namespace Go.Proofs.Ytkadljomimpnjaa
open Go.RowKit Go.Maps Go.Shelf Dsk

theorem nums_str (l : List UInt8) : strOfNums (l.map fun c => (c.toNat : Int)) = ⟨l.toArray⟩ := by
  unfold strOfNums
  congr 2
  rw [List.map_map]
  conv => rhs; rw [← List.map_id l]
  apply List.map_congr_left
  intro c _
  simp
set_option maxRecDepth 20000 in
theorem conv_own {w : World} {A : Option Addr} {cap : Nat} {l : List UInt8} (h : w.ownsRow 0 5 1 (.slice A l.length cap) l.length (U l)) : (convert 29 9 (.slice A l.length cap)).run Try.prog w = .ok (.string ⟨l.toArray⟩) w := by
  have hR := Row.of_own h
  rcases h.2 with ⟨h2, _⟩ | ⟨g, cap', cur, e1, h3, h4, h5⟩
  · injection h2 with h2 h3 h4
    subst h2
    have : l = [] := List.eq_nil_of_length_eq_zero h3
    subst this
    exact run_convert_bytes_nil (P := Try.prog) w 29 5 Try.underlying29 Try.underlying5 _ _ 9 Try.underlying9
  · injection e1 with e1 e2 e3
    subst e1
    rw [← nums_str]
    refine run_convert_bytes_arg (P := Try.prog) w 29 5 Try.underlying29 Try.underlying5 g 0 l.length cap _ (by simp) (fun i hi => ?_) 9 Try.underlying9
    obtain ⟨b, off, u, e, _, _, hu, hc⟩ := hR.at_ hi
    injection e with e
    injection e with e1 e2
    subst e1 e2
    rw [hc]
    rw [U_get l i hi] at hu
    injection hu with hu
    rw [← hu]
    simp [hi]
theorem equal_own {w : World} {A A' : Option Addr} {cap cap' : Nat} {l l' : List UInt8} (h : w.ownsRow 0 5 1 (.slice A l.length cap) l.length (U l)) (h' : w.ownsRow 0 5 1 (.slice A' l'.length cap') l'.length (U l')) :
    Calls Try.prog 62 #[.slice A l.length cap, .slice A' l'.length cap'] w fun e w' => e = .returned (.bool (decide (l = l'))) ∧ w' = w := by
  have c1 := conv_own h
  have c2 := conv_own h'
  clear h h'
  go_enter Try.func62, Try.ntmps62
  go_wp2_with fail
  go_ret
  have e : (l == l') = decide (l = l') := by by_cases e : l = l' <;> simp [e]
  exact ⟨by rw [← e]; rfl, rfl⟩
theorem quiet_w {P : Program} {f : FuncId} {args : Array Value} {w : World} {n : Nat} {v : Value} (h : Calls P f args (w.drewN n) fun e w' => e = .returned v ∧ w' = w.drewN n) :
    Calls P f args (w.drewN n) fun e w' => e = .returned v ∧ ∃ k, w' = w.drewN k := h.mono fun _ _ ⟨h1, h2⟩ => ⟨h1, n, h2⟩
set_option maxHeartbeats 1000000 in
theorem alike_any {w : World} {g g' : Nat} {h h' : Option Nat} {f f' : Fil} (hf : FileAt w g h f) (hf' : FileAt w g' h' f') : Calls Try.prog 54 #[ptr g, ptr g'] w fun e w' => e = .returned (.bool (decide (f = f'))) ∧ ∃ k, w' = w.drewN k := by
  obtain ⟨A, cap, hb, ho, _⟩ := hf
  obtain ⟨A', cap', hb', ho', _⟩ := hf'
  have c0 := hb.cell 0
  have c1 := hb.cell 1
  have d0 := hb'.cell 0
  have d1 := hb'.cell 1
  simp at c0 c1 d0 d1
  have W1 := hid (fun k => equal_own (own_drewN ho k) (own_drewN ho' k))
  have HD : Hid (decide (f = f') = (decide (f.s = f'.s) && decide (f.b = f'.b))) := hid (by
    obtain ⟨b, s⟩ := f
    obtain ⟨b', s'⟩ := f'
    by_cases h1 : s = s' <;> by_cases h2 : b = b' <;> simp [h1, h2])
  clear hb ho hb' ho'
  rw [HD.out]
  by_cases hs : f.s = f'.s
  · have he : ((f.s : Int) == (f'.s : Int)) = true := by rw [hs]; simp
    rw [decide_eq_true hs]
    clear hs HD
    generalize f.s = s at *
    generalize f'.s = s' at *
    go_enter Try.func54, Try.ntmps54
    go_wp2
    go_quiet (first | (go_at_call 62; exact quiet_w (W1.out _)))
    go_wp2
    go_ret
    exact ⟨rfl, _, rfl⟩
  · have he : ((f.s : Int) == (f'.s : Int)) = false := by simp; omega
    rw [decide_eq_false hs]
    clear hs HD
    generalize f.s = s at *
    generalize f'.s = s' at *
    go_enter Try.func54, Try.ntmps54
    go_wp2
    go_quiet (fail)
    go_wp2
    go_ret
    exact ⟨rfl, _, rfl⟩
end Go.Proofs.Ytkadljomimpnjaa
