/-
  Contracts: how many bytes are used (a range over the map, in whatever order), reading a file.
-/
import Derived.Test.YtkadljomimpnjaaDiskFind
namespace Go.Proofs.Ytkadljomimpnjaa
open Go.RowKit Go.Maps Go.Shelf Dsk

/-- The bytes of those files that a range is through with. -/
def usedBy (left : Lit → Bool) : Fs → Nat
  | [] => 0
  | (n, f) :: r => (if left (.string n) then 0 else f.b.length) + usedBy left r
theorem usedBy_le (left : Lit → Bool) (fs : Fs) : usedBy left fs ≤ used fs := by
  induction fs with
  | nil => exact Nat.le_refl _
  | cons x r ih => obtain ⟨n, f⟩ := x; simp only [usedBy, used]; split <;> omega
theorem usedBy_all {left : Lit → Bool} {fs : Fs} (h : ∀ kl, left kl = false) : usedBy left fs = used fs := by
  induction fs with
  | nil => rfl
  | cons x r ih => obtain ⟨n, f⟩ := x; simp only [usedBy, used, h]; rw [ih]; simp
theorem usedBy_none {left : Lit → Bool} {fs : Fs} (h : ∀ n f, (n, f) ∈ fs → left (.string n) = true) : usedBy left fs = 0 := by
  induction fs with
  | nil => rfl
  | cons x r ih =>
    obtain ⟨n, f⟩ := x
    simp only [usedBy]
    rw [h n f List.mem_cons_self, ih fun m g hm => h m g (List.mem_cons_of_mem _ hm)]
    rfl
theorem same_key (n m : Nm) : (Lit.string m).sameKey (.string n) = decide (m = n) := by
  by_cases h : m = n
  · subst h; simp [Lit.sameKey]
  · rw [sameKey_ne (nm_ne h)]; simp [h]
theorem usedBy_far {left : Lit → Bool} {fs : Fs} {n : Nm} (h : ∀ x ∈ fs, x.1 ≠ n) : usedBy (fun z => left z && !z.sameKey (.string n)) fs = usedBy left fs := by
  induction fs with
  | nil => rfl
  | cons x r ih =>
    obtain ⟨m, f⟩ := x
    have hm : m ≠ n := h (m, f) List.mem_cons_self
    simp only [usedBy, same_key, decide_eq_false hm, Bool.not_false, Bool.and_true]
    rw [← ih fun y hy => h y (List.mem_cons_of_mem _ hy)]
theorem usedBy_step {left : Lit → Bool} {fs : Fs} (hr : Rises fs) {n : Nm} {f : Fil} (hn : Dsk.get fs n = some f) (hl : left (.string n) = true) : usedBy (fun z => left z && !z.sameKey (.string n)) fs = usedBy left fs + f.b.length := by
  induction fs with
  | nil => cases hn
  | cons x r ih =>
    obtain ⟨m, g⟩ := x
    simp only [Dsk.get] at hn
    by_cases e : m = n
    · subst e
      rw [if_pos rfl] at hn
      injection hn with hn
      subst hn
      have h2 := usedBy_far (left := left) (fs := r) (n := m) (fun y hy e => by have := hr.1 y hy; rw [e, nlt_irrefl] at this; cases this)
      simp only [usedBy]
      rw [h2]
      simp [same_key, hl]
      omega
    · rw [if_neg e] at hn
      simp only [usedBy]
      rw [ih hr.2 hn]
      simp only [same_key, decide_eq_false e, Bool.not_false, Bool.and_true]
      omega
def mkP (o : Option Nat) : Value := .pointer (o.map fun g => ⟨g, 0, none⟩)
theorem inv_key : ∀ key kl, keyOf Try.prog 9 key = some kl → ∃ n : Nm, key = S n := fun key kl h => by
  obtain ⟨x, rfl, _, _⟩ := keyOf_str Try.underlying9 h
  exact ⟨x, rfl⟩
theorem key_lit {n : Nm} {kl : Lit} (h : keyOf Try.prog 9 (S n) = some kl) : kl = .string n := by
  obtain ⟨x, e, rfl, _⟩ := keyOf_str Try.underlying9 h
  have : n = x := by simpa [S] using e
  rw [this]
theorem inv_ptr : ∀ v y, ptrElem v = some y → ∃ c, v = mkP c := fun v y h => by
  rcases ptr_inv h with ⟨rfl, _⟩ | ⟨g, rfl, _⟩
  · exact ⟨none, rfl⟩
  · exact ⟨some g, rfl⟩
section
variable {w : World} {d M : Nat} {Dm : DataW Unit} {gb : Nm → Nat} {hb : Nm → Option Nat} {F : List Nat} {D : Dk}
/-- What comes next of a range over the files. -/
theorem came (h : DM w d M Dm gb hb F D) {n : Nm} {c : Option Nat} {kl : Lit} {y : DataW Unit × List MemPlace} (hk : keyOf Try.prog 9 (S n) = some kl) (hh : Maps.has Dm kl = true) (hy : ptrElem (mkP c) = some y) (hat : ∀ zd, Dm.atKey kl zd = y.1) :
    kl = .string n ∧ ∃ f, get D.fs n = some f ∧ mkP c = ptr (gb n) := by
  obtain rfl := key_lit hk
  refine ⟨rfl, ?_⟩
  rw [h.has] at hh
  obtain ⟨f, hf⟩ := Option.isSome_iff_exists.1 hh
  refine ⟨f, hf, ?_⟩
  have h1 := (h.at_ n f hf).1 (.lit (.int .i64 0))
  rw [hat] at h1
  obtain ⟨y1, y2⟩ := y
  simp only at h1
  subst h1
  exact ptr_is hy
set_option maxHeartbeats 1000000 in
set_option maxRecDepth 20000 in
theorem used_m (h : DM w d M Dm gb hb F D) (hw : Whole D) : Calls Try.prog 20 #[ptr d] w fun e w' => e = .returned (.int .i64 (Dsk.used D.fs : Int)) ∧ Below w.heap.size w w' := by
  have W1 := hid (unmade_any h)
  have hc := h.blk.cell 0
  simp at hc
  have HD := hid h
  have HW := hid hw
  have hown := h.map
  clear h hw
  go_enter Try.func20, Try.ntmps20
  go_wp2_with fail
  refine W1.out.mono ?_
  rintro e w1 ⟨rfl, rfl⟩
  go_wp2_with (first | (at_range; refine wpList_range_own _ rfl _ 59 rfl 9 64 keyedS Try.underlying59 _ M D.fs.length _ rfl hown ?_; intro w0 hrg0 hg0 hs0) | go_in)
  go_frame
  go_loopw [3, 5] (fun x _ wr => ∃ (left : Lit → Bool) (cnt : Nat), wr.ranges Try.prog 9 ptrElem M w1.heap.size D.fs.length Dm left cnt ∧ Below w1.heap.size w1 wr ∧ (∀ kl, left kl = true → Maps.has Dm kl = true) ∧ x = .int .i64 (usedBy left D.fs : Int)) (fun _ _ wr => wr.rangeLeft M w1.heap.size)
  case atStart =>
    refine ⟨_, _, hrg0, below_of_only hg0 (Nat.le_refl _) (fun g hg => by cases hg), fun _ h => h, ?_⟩
    rw [usedBy_none]
    · rfl
    · intro n f hm
      rw [HD.out.has, get_of_mem HW.out.rises hm]; rfl
  case round =>
    obtain ⟨left, cnt, hrg, hbl, hlh, rfl⟩ := hrel
    have HL := hid hlh
    have HB := hid hbl
    clear hlh hbl
    have HU := hid (usedBy_le left D.fs)
    go_wp2_with (first | (at_next; refine wpList_next_ranges _ rfl _ rfl 9 keyedS ptrElem S mkP inv_key inv_ptr M w1.heap.size D.fs.length Dm left cnt rfl hrg ?_ ?_) | go_in)
    · intro _ hl0
      go_wp2
      go_ret
      exact ⟨by rw [usedBy_all hl0]; rfl, HB.out⟩
    · intro n c kl y1 y2 w2 cnt2 hkey hlk hy hat hrg2 hlt hg2 hs2 hen
      have HD2 := HD.out.below HB.out
      obtain ⟨hkl, f, hf, hcp⟩ := came HD2 hkey (HL.out kl hlk) hy hat
      subst hkl
      rw [hcp] at hen ⊢
      have hb2 : Below w1.heap.size w1 w2 := HB.out.grown hg2 (by have := HB.out.size; omega) (fun g hg => by injection hg with hg; omega)
      obtain ⟨A, cap, hblk, hrow, _⟩ := ((HD.out.below hb2).at_ n f hf).2
      have hcell := hblk.cell 0
      simp at hcell
      have HS := hid (usedBy_step HW.out.rises hf hlk)
      have HU2 := hid (usedBy_le (fun z => left z && !z.sameKey (.string n)) D.fs)
      have hroom := HW.out.room
      have htop := HW.out.top
      have hsum : IntKind.i64.wrap ((usedBy left D.fs : Int) + (f.b.length : Int)) = (usedBy left D.fs : Int) + (f.b.length : Int) := by
        have h1 := HS.out
        have h2 := HU2.out
        simp [IntKind.wrap, IntKind.bits, IntKind.signed]; omega
      have HRG := hid hrg2
      have HEQ : Hid (w2.rangeLeft M w1.heap.size < wr.rangeLeft M w1.heap.size) := hid (by rw [hrg2.left_eq, hrg.left_eq]; omega)
      clear hrg2 hrg hroom htop hrow hblk hat hy hkey
      generalize f.b.length = fl at *
      generalize gb n = g at *
      go_wp2
      go_roundw
      case rel => exact ⟨_, _, HRG.out, hb2, fun kl h => HL.out kl (by simp at h; exact h.1), by rw [HS.out]; simp⟩
      case measure => exact HEQ.out
end
end Go.Proofs.Ytkadljomimpnjaa
