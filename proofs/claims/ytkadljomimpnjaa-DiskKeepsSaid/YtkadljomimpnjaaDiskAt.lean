/-
  A disk in memory without its ghosts, and every call's contract over it; how far a disk grows by acts.
-/
import Derived.Test.YtkadljomimpnjaaDiskReads
import Derived.Test.YtkadljomimpnjaaDiskUsed
import Derived.Test.YtkadljomimpnjaaDiskOps
import Derived.Test.YtkadljomimpnjaaDiskSync
import Derived.Test.YtkadljomimpnjaaDiskDel
import Derived.Test.YtkadljomimpnjaaDiskCut
import Derived.Test.YtkadljomimpnjaaDiskRead
import Derived.Test.YtkadljomimpnjaaDiskNames
import Derived.Test.YtkadljomimpnjaaDiskRename
import Derived.Test.YtkadljomimpnjaaDiskCrash
import Derived.Test.YtkadljomimpnjaaDiskClone
import Derived.Test.YtkadljomimpnjaaDiskEqual
namespace Go.Proofs.Ytkadljomimpnjaa
open Go.RowKit Go.Maps Dsk

/-- A whole disk with at most k files, and a fuse of 64 bits. -/
structure Fit (D : Dk) (k : Nat) : Prop where
  whole : Whole D
  len : D.fs.length ≤ k
  fuse : D.fuse ≤ 9223372036854775807
theorem Fit.mono {D : Dk} {k k' : Nat} (h : Fit D k) (hk : k ≤ k') : Fit D k' := ⟨h.whole, Nat.le_trans h.len hk, h.fuse⟩

theorem put_len (fs : Fs) (n : Nm) (f : Fil) : (put fs n f).length ≤ fs.length + 1 := by
  induction fs with
  | nil => simp [put]
  | cons x r ih =>
    obtain ⟨m, g⟩ := x
    simp only [put]
    split
    · simp
    · split
      · simp
      · simp; omega
theorem del_len (fs : Fs) (n : Nm) : (del fs n).length ≤ fs.length := by
  induction fs with
  | nil => simp [del]
  | cons x r ih =>
    obtain ⟨m, g⟩ := x
    simp only [del]
    split
    · simp
    · simp; omega
theorem crash_len (fs : Fs) (l : List Int) : (crashFs fs l).length = fs.length := by
  induction fs generalizing l with
  | nil => rfl
  | cons x r ih => obtain ⟨m, g⟩ := x; simp [crashFs, ih]
theorem burn_len {D : Dk} {fs : Fs} {k : Nat} (h : D.fs.length ≤ k) (h2 : fs.length ≤ k) : (burn D fs).2.fs.length ≤ k := by
  unfold burn; split
  · exact h
  · exact h2
theorem burn_fuse {D : Dk} {fs : Fs} (h : D.fuse ≤ 9223372036854775807) : (burn D fs).2.fuse ≤ 9223372036854775807 := by
  unfold burn; split
  · exact h
  · show (if 0 < D.fuse then D.fuse - 1 else D.fuse) ≤ _
    split <;> omega
def AcOk : Ac → Prop
  | .fus k => k ≤ 9223372036854775807
  | _ => True
theorem act_fit {D : Dk} {k : Nat} (h : Fit D k) (a : Ac) (ha : AcOk a) : Fit (act D a).2 (k + 1) := by
  refine ⟨act_whole h.whole a, ?_, ?_⟩
  · have hl : D.fs.length ≤ k + 1 := by have := h.len; omega
    have hp : ∀ n f, (put D.fs n f).length ≤ k + 1 := fun n f => by have := put_len D.fs n f; have := h.len; omega
    cases a with
    | app n b => simp only [act, dAppend]; split <;> (try split) <;> (try split) <;> first | exact hl | exact burn_len hl (hp _ _)
    | syn n => simp only [act, dSync]; split <;> first | exact hl | exact burn_len hl (hp _ _)
    | ren n m =>
      simp only [act, dRename]
      split <;> (try split) <;> (try split) <;> (try split) <;> (try split) <;> first
        | exact hl
        | exact burn_len hl hl
        | exact burn_len hl (by have := put_len (del D.fs n) m (file D n); have := del_len D.fs n; have := h.len; omega)
    | rem n => simp only [act, dDelete]; split <;> first | exact hl | exact burn_len hl (by have := del_len D.fs n; omega)
    | cut n k => simp only [act, dCut]; split <;> (try split) <;> first | exact hl | exact burn_len hl (hp _ _)
    | fus k => simp only [act, dFuse]; split <;> exact hl
    | cra l => simp only [act, dCrash]; split <;> first | exact hl | (show (crashFs D.fs l).length ≤ _; rw [crash_len]; exact hl)
  · have hl := h.fuse
    cases a with
    | app n b => simp only [act, dAppend]; split <;> (try split) <;> (try split) <;> first | exact hl | exact burn_fuse hl
    | syn n => simp only [act, dSync]; split <;> first | exact hl | exact burn_fuse hl
    | ren n m => simp only [act, dRename]; split <;> (try split) <;> (try split) <;> (try split) <;> (try split) <;> first | exact hl | exact burn_fuse hl
    | rem n => simp only [act, dDelete]; split <;> first | exact hl | exact burn_fuse hl
    | cut n k => simp only [act, dCut]; split <;> (try split) <;> first | exact hl | exact burn_fuse hl
    | fus k =>
      simp only [act, dFuse]
      split
      · exact hl
      · exact ha
    | cra l => simp only [act, dCrash]; split <;> first | exact hl | (show (-1 : Int) ≤ _; omega)

section
variable {w w' : World} {d : Nat} {F : List Nat} {D : Dk} {k : Nat}
theorem DAt.touch {G : List Nat} (h : DAt w d F D) (ht : Touch w w' G) (hF : ∀ b ∈ F, b ∉ G) : DAt w' d F D := by
  obtain ⟨M, Dm, gb, hb, h⟩ := h; exact ⟨M, Dm, gb, hb, h.touch ht hF⟩
theorem DAt.below (h : DAt w d F D) (hb : Below w.heap.size w w') : DAt w' d F D := h.touch (touch_below hb []) (fun _ _ hm => by cases hm)
theorem DAt.lt (h : DAt w d F D) : ∀ b ∈ F, b < w.heap.size := by obtain ⟨M, Dm, gb, hb, h⟩ := h; exact h.lt
theorem DAt.mem (h : DAt w d F D) : d ∈ F := by obtain ⟨M, Dm, gb, hb, h⟩ := h; exact h.mem.1

theorem at_append (h : DAt w d F D) (f : Fit D k) (hk : k < 100000) (n : Nm) (hl : n.length ≤ 1000) (H : Nat) (A : Option Addr) (len cap : Nat) (b : List UInt8) (harg : Arg w F H A len cap (U b)) :
    Calls Try.prog 11 #[ptr d, S n, .slice A len cap] w fun e w' => Did0 w d F (dAppend D n b) e w' := by
  obtain ⟨M, Dm, gb, hb, h⟩ := h; exact append_m h f.whole f.fuse n hl (by have := f.len; omega) H A len cap b harg
theorem at_sync (h : DAt w d F D) (f : Fit D k) (n : Nm) (hl : n.length ≤ 1000) : Calls Try.prog 12 #[ptr d, S n] w fun e w' => Did0 w d F (dSync D n) e w' := by
  obtain ⟨M, Dm, gb, hb, h⟩ := h; exact sync_m h f.whole f.fuse n hl
theorem at_delete (h : DAt w d F D) (f : Fit D k) (n : Nm) (hl : n.length ≤ 1000) : Calls Try.prog 32 #[ptr d, S n] w fun e w' => Did0 w d F (dDelete D n) e w' := by
  obtain ⟨M, Dm, gb, hb, h⟩ := h; exact delete_m h f.whole f.fuse n hl
theorem at_cut (h : DAt w d F D) (f : Fit D k) (n : Nm) (j : Int) (hl : n.length ≤ 1000) : Calls Try.prog 17 #[ptr d, S n, .int .i64 j] w fun e w' => Did0 w d F (dCut D n j) e w' := by
  obtain ⟨M, Dm, gb, hb, h⟩ := h; exact cut_m h f.whole f.fuse n j hl
theorem at_rename (h : DAt w d F D) (f : Fit D k) (hk : k < 100000) (n m : Nm) (hl : n.length ≤ 1000) (hm : m.length ≤ 1000) : Calls Try.prog 16 #[ptr d, S n, S m] w fun e w' => Did0 w d F (dRename D n m) e w' := by
  obtain ⟨M, Dm, gb, hb, h⟩ := h; exact rename_m h f.whole f.fuse n m hl hm (by have := f.len; omega)
theorem at_fuse (h : DAt w d F D) (j : Int) : Calls Try.prog 10 #[ptr d, .int .i64 j] w fun e w' => Did0 w d F (dFuse D j) e w' := by
  obtain ⟨M, Dm, gb, hb, h⟩ := h
  refine (fuse_m h j).mono fun e w' ⟨he, hd, ht⟩ => ⟨he, F, ⟨M, Dm, gb, hb, hd⟩, ht.mono (fun i _ hi => ?_), fun b hb => .inl hb⟩
  rw [List.mem_singleton.1 hi]; exact h.mem.1
theorem at_crash (h : DAt w d F D) (f : Fit D k) (hk : k < 100000) (H : Nat) (A : Option Addr) (len cap : Nat) (l : List Int) (harg : Arg w F H A len cap (I l)) (hwf : ∀ x ∈ l, (Lit.int .i64 x).wf = true) :
    Calls Try.prog 15 #[ptr d, .slice A len cap] w fun e w' => Did0 w d F (dCrash D l) e w' := by
  obtain ⟨M, Dm, gb, hb, h⟩ := h; exact crash_m h f.whole (by have := f.len; omega) H A len cap l harg hwf
theorem at_read (h : DAt w d F D) (f : Fit D k) (n : Nm) (hl : n.length ≤ 1000) : Calls Try.prog 13 #[ptr d, S n] w fun e w' => ∃ v, e = .returned (.tuple #[v, .int .i64 (ready D n)]) ∧ Gives w (U (dRead D n)) v w' := by
  obtain ⟨M, Dm, gb, hb, h⟩ := h; exact read_m h f.whole n hl
theorem at_names (h : DAt w d F D) (f : Fit D k) (hk : k < 100000) : Calls Try.prog 23 #[ptr d] w fun e w' => ∃ v, e = .returned v ∧ Gives w (D.fs.map fun x => S x.1) v w' := by
  obtain ⟨M, Dm, gb, hb, h⟩ := h; exact names_m h f.whole (by have := f.len; omega)
theorem at_size (h : DAt w d F D) (n : Nm) (hl : n.length ≤ 1000) : Calls Try.prog 18 #[ptr d, S n] w fun e w' => e = .returned (.int .i64 (dSize D n)) ∧ Below w.heap.size w w' := by
  obtain ⟨M, Dm, gb, hb, h⟩ := h; exact size_m h n hl
theorem at_synced (h : DAt w d F D) (n : Nm) (hl : n.length ≤ 1000) : Calls Try.prog 19 #[ptr d, S n] w fun e w' => e = .returned (.int .i64 (dSynced D n)) ∧ Below w.heap.size w w' := by
  obtain ⟨M, Dm, gb, hb, h⟩ := h; exact synced_m h n hl
theorem at_used (h : DAt w d F D) (f : Fit D k) : Calls Try.prog 20 #[ptr d] w fun e w' => e = .returned (.int .i64 (Dsk.used D.fs : Int)) ∧ Below w.heap.size w w' := by
  obtain ⟨M, Dm, gb, hb, h⟩ := h; exact used_m h f.whole
theorem at_room (h : DAt w d F D) : Calls Try.prog 21 #[ptr d] w fun e w' => e = .returned (.int .i64 D.size) ∧ Below w.heap.size w w' := by
  obtain ⟨M, Dm, gb, hb, h⟩ := h; exact room_m h
theorem at_off (h : DAt w d F D) : Calls Try.prog 14 #[ptr d] w fun e w' => e = .returned (.bool D.off) ∧ Below w.heap.size w w' := by
  obtain ⟨M, Dm, gb, hb, h⟩ := h; exact off_m h
theorem at_clone (h : DAt w d F D) (f : Fit D k) (hk : k < 100000) : Calls Try.prog 27 #[ptr d] w fun e w' => ∃ c G, e = .returned (ptr c) ∧ DAt w' c G D ∧ (∀ b ∈ G, w.heap.size ≤ b) ∧ Below w.heap.size w w' := by
  obtain ⟨M, Dm, gb, hb, h⟩ := h; exact clone_m h f.whole (by have := f.len; omega)
theorem at_same {c : Nat} {G : List Nat} {E : Dk} {k' : Nat} (h : DAt w d F D) (h2 : DAt w c G E) (f : Fit D k) (f2 : Fit E k') : Calls Try.prog 28 #[ptr d, ptr c] w fun e w' => e = .returned (.bool (decide (D = E))) ∧ Below w.heap.size w w' := by
  obtain ⟨M, Dm, gb, hb, h⟩ := h; obtain ⟨M2, Dm2, gb2, hb2, h2⟩ := h2; exact same_m h h2 f.whole f2.whole
end
end Go.Proofs.Ytkadljomimpnjaa
