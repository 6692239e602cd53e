/-
  The kit's OwnLists and the law's joined: frames, one behind the other, and where each ends.
-/
import Derived.Test.YtchimkkpjdbdpaaScanAll
namespace Go.Proofs.Ytchimkkpjdbdpaa
set_option maxRecDepth 40000
open Go.RowKit Go.Joins Regs

theorem info_int : (Try.prog.info? 3).map (fun i => (i.zero, i.size, i.bytes)) = some (some (.int .i64 0), 1, 8) := by kernel_rfl
/-- Slices of bytes of one's own. -/
def ListsPost (w : World) (ls : List (List UInt8)) (e : Ending) (w' : World) : Prop :=
  ∃ xs : List Pay, ∃ v, e = .returned v ∧ Hid (xs.map (·.p) = ls) ∧ w'.ownsRow w.heap.size 34 1 v xs.length (xs.map Pay.v) ∧ Hid (∀ x ∈ xs, Paid w.heap.size x w') ∧ Below w.heap.size w w'
/-- Where each frame ends. -/
def endsOf (ls : List (List UInt8)) (k : Nat) : List Int := (List.range k).map fun i => ((flat (ls.take (i + 1))).length : Int)
theorem endsOf_succ (ls : List (List UInt8)) (k : Nat) : endsOf ls (k + 1) = endsOf ls k ++ [((flat (ls.take (k + 1))).length : Int)] := by simp [endsOf, List.range_succ]
theorem endsOf_len (ls : List (List UInt8)) (k : Nat) : (endsOf ls k).length = k := by simp [endsOf]
theorem flat_next {ls : List (List UInt8)} {k : Nat} {l : List UInt8} (h : ls[k]? = some l) : flat (ls.take (k + 1)) = flat (ls.take k) ++ frm l := by rw [take_next h, flat_snoc]
theorem flat_short {ls : List (List UInt8)} {b : Nat} (h : ∀ l ∈ ls, l.length ≤ b) (k : Nat) : (flat (ls.take k)).length ≤ k * (b + 8) := by
  induction k with
  | zero => simp [flat]
  | succ k ih =>
    cases hx : ls[k]? with
    | none => rw [List.take_add_one, hx]; simp only [Option.toList, List.append_nil]; have := Nat.add_mul k 1 (b + 8); omega
    | some l =>
      rw [flat_next hx, List.length_append, frm_len]
      have := h l (List.mem_of_getElem? hx)
      have := Nat.add_mul k 1 (b + 8)
      omega
/-- What joined tells: the frames in memory of their own, and their ends. -/
def JoinPost (w : World) (ls : List (List UInt8)) (e : Ending) (w' : World) : Prop :=
  ∃ A n c B d, e = .returned (.tuple #[.slice A n c, .slice B ls.length d, .bool true]) ∧ Hid ((flat ls).length = n) ∧ Hid (A = none → c = 0) ∧ w'.ownsRow w.heap.size 5 1 (.slice A n c) n (U (flat ls)) ∧
    w'.ownsRow w.heap.size 3 1 (.slice B ls.length d) ls.length (I (endsOf ls ls.length)) ∧ Below w.heap.size w w'
theorem I_one (l : List Int) : ∀ u ∈ I l, u.oneCell' = true := by
  intro u hu
  simp only [I, List.mem_map] at hu
  obtain ⟨c, _, rfl⟩ := hu
  rfl
end Go.Proofs.Ytchimkkpjdbdpaa
