/-
  Contracts: Read and Names.
-/
import Derived.Test.YtkadljomimpnjaaDiskCut
namespace Go.Proofs.Ytkadljomimpnjaa
open Go.RowKit Go.Maps Go.Shelf Dsk

theorem gives_own {w w0 w' : World} {t : TypeId} {A : Option Addr} {n c : Nat} {xs : List Value} (h : w'.ownsRow w0.heap.size t 1 (.slice A n c) n xs) (h0 : w.heap.size ≤ w0.heap.size) (hb : Below w.heap.size w w') : Gives w xs (.slice A n c) w' := by
  refine ⟨A, n, c, rfl, (Row.of_own h).wide h0 (Nat.le_refl _), ?_, ?_, ?_, hb⟩
  · obtain ⟨A', c', e, h1, _⟩ := own_shape h
    injection e with e1 _ e3
    subst e1 e3
    exact h1
  · exact own_cap h
  · rcases h.2 with ⟨e, _⟩ | ⟨g, cap', cur, e1, _, _, _, h6, _⟩
    · injection e with _ _ e; omega
    · injection e1 with _ _ e3; omega
theorem gives_nil (w w' : World) (hb : Below w.heap.size w w') : Gives w [] (.slice none 0 0) w' :=
  ⟨none, 0, 0, rfl, Row.empty, fun _ => rfl, Nat.le_refl _, Nat.zero_le _, hb⟩
section
variable {w : World} {d M : Nat} {Dm : DataW Unit} {gb : Nm → Nat} {hb : Nm → Option Nat} {F : List Nat} {D : Dk}
set_option maxHeartbeats 2000000 in
set_option maxRecDepth 20000 in
theorem read_m (h : DM w d M Dm gb hb F D) (hw : Whole D) (n : Nm) (hl : n.length ≤ 1000) :
    Calls Try.prog 13 #[ptr d, S n] w fun e w' => ∃ v, e = .returned (.tuple #[v, .int .i64 (ready D n)]) ∧ Gives w (U (dRead D n)) v w' := by
  have W1 := hid (find_nil h n hl)
  have HD := hid h
  have HW := hid hw
  generalize hs : S n = s at *
  clear h hw hs
  go_enter Try.func13, Try.ntmps13
  go_wp2_with fail
  refine W1.out.mono ?_
  rintro e w1 ⟨rfl, hb1⟩
  have HB1 := hid hb1
  clear hb1
  by_cases h0 : ready D n = 0
  · obtain ⟨_, _, f, hf, hfile⟩ := ready_zero h0
    have hrd : dRead D n = f.b := by unfold dRead; rw [if_pos h0, hfile]
    obtain ⟨A, cap, hblk, hown, _⟩ := ((HD.out.below HB1.out).at_ n f hf).2
    have hA : A = none → cap = 0 := by
      obtain ⟨A', c', e, h1, _⟩ := own_shape hown
      injection e with e1 _ e3
      subst e1 e3
      exact h1
    have hroom := file_room HW.out hf
    have W2 := hid (clone_any A f.b.length cap 0 w1.heap.size f.b w1 (Row.of_own hown) hA (Nat.le_refl _) (by omega))
    have c0 := hblk.cell 0
    simp at c0
    have HR0 := hid h0
    have HRD := hid hrd
    rw [h0]
    have e1 : fptr (gb n) 0 = ptr (gb n) := rfl
    rw [e1]
    clear h0 hrd hfile hf hblk hown hroom e1 hA
    generalize f.b.length = m at *
    go_wp2_with fail
    refine W2.out.mono ?_
    rintro e w2 ⟨A2, n2, c2, rfl, _, _, hown2, hb2⟩
    go_wp2_with fail
    go_ret2
    rw [HR0.out, HRD.out]
    exact ⟨_, rfl, gives_own hown2 HB1.out.size (HB1.out.trans (hb2.mono HB1.out.size))⟩
  · have hrd : dRead D n = [] := by unfold dRead; rw [if_neg h0]
    have HRD := hid hrd
    clear hrd
    rcases ready_ne h0 with hr | hr | hr
    · rw [hr]
      have e1 : fptr (gb n) 9 = .pointer none := rfl
      rw [e1]
      have HR := hid hr
      clear h0 hr e1
      go_wp2_with fail
      go_ret2
      rw [HR.out, HRD.out]
      exact ⟨_, rfl, gives_nil w w1 HB1.out⟩
    · rw [hr]
      have e1 : fptr (gb n) 2 = .pointer none := rfl
      rw [e1]
      have HR := hid hr
      clear h0 hr e1
      go_wp2_with fail
      go_ret2
      rw [HR.out, HRD.out]
      exact ⟨_, rfl, gives_nil w w1 HB1.out⟩
    · rw [hr]
      have e1 : fptr (gb n) 6 = .pointer none := rfl
      rw [e1]
      have HR := hid hr
      clear h0 hr e1
      go_wp2_with fail
      go_ret2
      rw [HR.out, HRD.out]
      exact ⟨_, rfl, gives_nil w w1 HB1.out⟩
end
end Go.Proofs.Ytkadljomimpnjaa
