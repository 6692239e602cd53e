/-
  What is asked of a disk in memory, call by call: answers and what is left are those of the plain one. The laws' walks go by it.
-/
import Derived.Test.YtchimkkpjdbdpaaProg
import Derived.Test.YtchimkkpjdbdpaaTouch
import Derived.Test.YtchimkkpjdbdpaaDiskActs
namespace Go.Proofs.Ytchimkkpjdbdpaa
set_option maxRecDepth 40000
open Go.RowKit Dsk

abbrev ptr (d : Nat) : Value := .pointer (some ⟨d, 0, none⟩)
def S (n : Nm) : Value := .string ⟨n.toArray⟩

/-- Slices of bytes, texts and whole numbers that a call hands back, in memory of its own. -/
def Gives (w : World) (xs : List Value) (v : Value) (w' : World) : Prop :=
  ∃ A len cap, v = .slice A len cap ∧ Row w' w.heap.size w'.heap.size A len xs ∧ (A = none → cap = 0) ∧ len ≤ cap ∧ cap ≤ maxLen ∧ Below w.heap.size w w'

structure Kit where
  At : World → Nat → List Nat → Dk → Prop
  touch : ∀ {w w' d F D G}, At w d F D → Touch w w' G → (∀ b ∈ F, b ∉ G) → At w' d F D
  lt : ∀ {w d F D}, At w d F D → ∀ b ∈ F, b < w.heap.size

/-- What an operation on a disk leaves. -/
def Kit.Did (K : Kit) (w : World) (d : Nat) (F : List Nat) (r : Int × Dk) (e : Ending) (w' : World) : Prop :=
  e = .returned (.int .i64 r.1) ∧ ∃ F', K.At w' d F' r.2 ∧ Touch w w' F ∧ ∀ b ∈ F', b ∈ F ∨ w.heap.size ≤ b
/-- A slice that is handed over: its cells lie in blocks of [0, H), none of them the disk's. -/
def Arg (w : World) (F : List Nat) (H : Nat) (A : Option Addr) (len cap : Nat) (xs : List Value) : Prop :=
  ∃ lo, Row w lo H A len xs ∧ H ≤ w.heap.size ∧ (∀ b ∈ F, b < lo ∨ H ≤ b) ∧ (A = none → cap = 0) ∧ len ≤ cap ∧ cap ≤ maxLen

theorem Kit.below (K : Kit) {w w' : World} {d : Nat} {F : List Nat} {D : Dk} (h : K.At w d F D) (hb : Below w.heap.size w w') : K.At w' d F D :=
  K.touch h (touch_below hb []) (fun b _ hm => by cases hm)
end Go.Proofs.Ytchimkkpjdbdpaa
