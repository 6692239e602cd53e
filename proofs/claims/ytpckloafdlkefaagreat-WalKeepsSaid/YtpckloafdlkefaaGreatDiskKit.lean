/-
  What is asked of a disk in memory, call by call: answers and what is left are those of the plain one. The laws' walks go by it.
-/
import Derived.Test.YtpckloafdlkefaaGreatProg
import Derived.Test.YtpckloafdlkefaaGreatTouch
import Derived.Test.YtpckloafdlkefaaGreatDiskActs
namespace Go.Proofs.YtpckloafdlkefaaGreat
set_option maxRecDepth 40000
open Go.RowKit Dsk

abbrev ptr (d : Nat) : Value := .pointer (some ⟨d, 0, none⟩)
def S (n : Nm) : Value := .string ⟨n.toArray⟩

/-- Slices of bytes, texts and whole numbers that a call hands back, in memory of its own. -/
def Gives (w : World) (xs : List Value) (v : Value) (w' : World) : Prop :=
  ∃ A len cap, v = .slice A len cap ∧ Row w' w.heap.size w'.heap.size A len xs ∧ (A = none → cap = 0) ∧ len ≤ cap ∧ cap ≤ maxLen ∧ Below w.heap.size w w'

structure Kit where
  At : World → Nat → List Nat → Dk → Prop
  touch : ∀ {w w' d F D G}, At w d F D → Touch w w' G → (∀ b ∈ F, b ∉ G) → At w' d F D
  lt : ∀ {w d F D}, At w d F D → ∀ b ∈ F, b < w.heap.size

/-- What an operation on a disk leaves. -/
def Kit.Did (K : Kit) (w : World) (d : Nat) (F : List Nat) (r : Int × Dk) (e : Ending) (w' : World) : Prop :=
  e = .returned (.int .i64 r.1) ∧ ∃ F', K.At w' d F' r.2 ∧ Touch w w' F ∧ ∀ b ∈ F', b ∈ F ∨ w.heap.size ≤ b
/-- A slice that is handed over: its cells lie in blocks of [0, H), none of them the disk's. -/
def Arg (w : World) (F : List Nat) (H : Nat) (A : Option Addr) (len cap : Nat) (xs : List Value) : Prop :=
  ∃ lo, Row w lo H A len xs ∧ H ≤ w.heap.size ∧ (∀ b ∈ F, b < lo ∨ H ≤ b) ∧ (A = none → cap = 0) ∧ len ≤ cap ∧ cap ≤ maxLen

structure DiskKit extends Kit where
  new : ∀ (w : World) (size : Int), Calls Tryz.prog 7 #[.int .i64 size] w fun e w' => Below w.heap.size w w' ∧
    (((size < 0 ∨ 1099511627776 < size) ∧ e = .returned (.tuple #[.pointer none, .int .i64 2])) ∨
      (0 ≤ size ∧ size ≤ 1099511627776 ∧ ∃ d F, e = .returned (.tuple #[ptr d, .int .i64 0]) ∧ At w' d F ⟨size, [], -1, false⟩ ∧ ∀ b ∈ F, w.heap.size ≤ b))
  append : ∀ {w d F D}, At w d F D → Whole D → ∀ n, n.length ≤ 1000 → D.fs.length < 1000000 → ∀ H A len cap b, Arg w F H A len cap (U b) → Calls Tryz.prog 46 #[ptr d, S n, .slice A len cap] w (toKit.Did w d F (dAppend D n b))
  sync : ∀ {w d F D}, At w d F D → Whole D → ∀ n, n.length ≤ 1000 → Calls Tryz.prog 47 #[ptr d, S n] w (toKit.Did w d F (dSync D n))
  rename : ∀ {w d F D}, At w d F D → Whole D → ∀ n m, n.length ≤ 1000 → m.length ≤ 1000 → D.fs.length < 1000000 → Calls Tryz.prog 50 #[ptr d, S n, S m] w (toKit.Did w d F (dRename D n m))
  delete : ∀ {w d F D}, At w d F D → Whole D → ∀ n, n.length ≤ 1000 → Calls Tryz.prog 51 #[ptr d, S n] w (toKit.Did w d F (dDelete D n))
  cut : ∀ {w d F D}, At w d F D → Whole D → ∀ n (k : Int), n.length ≤ 1000 → (Lit.int .i64 k).wf = true → Calls Tryz.prog 33 #[ptr d, S n, .int .i64 k] w (toKit.Did w d F (dCut D n k))
  fuse : ∀ {w d F D}, At w d F D → Whole D → ∀ (k : Int), (Lit.int .i64 k).wf = true → Calls Tryz.prog 15 #[ptr d, .int .i64 k] w (toKit.Did w d F (dFuse D k))
  crash : ∀ {w d F D}, At w d F D → Whole D → ∀ H A len cap l, Arg w F H A len cap (I l) → (∀ x ∈ l, (Lit.int .i64 x).wf = true) → Calls Tryz.prog 16 #[ptr d, .slice A len cap] w (toKit.Did w d F (dCrash D l))
  read : ∀ {w d F D}, At w d F D → Whole D → ∀ n, n.length ≤ 1000 → Calls Tryz.prog 31 #[ptr d, S n] w fun e w' => ∃ v, e = .returned (.tuple #[v, .int .i64 (ready D n)]) ∧ Gives w (U (dRead D n)) v w'
  names : ∀ {w d F D}, At w d F D → Whole D → Calls Tryz.prog 44 #[ptr d] w fun e w' => ∃ v, e = .returned v ∧ Gives w (D.fs.map fun x => S x.1) v w'
  size : ∀ {w d F D}, At w d F D → Whole D → ∀ n, n.length ≤ 1000 → Calls Tryz.prog 39 #[ptr d, S n] w fun e w' => e = .returned (.int .i64 (dSize D n)) ∧ Below w.heap.size w w'
  synced : ∀ {w d F D}, At w d F D → Whole D → ∀ n, n.length ≤ 1000 → Calls Tryz.prog 68 #[ptr d, S n] w fun e w' => e = .returned (.int .i64 (dSynced D n)) ∧ Below w.heap.size w w'
  used : ∀ {w d F D}, At w d F D → Whole D → Calls Tryz.prog 62 #[ptr d] w fun e w' => e = .returned (.int .i64 (Dsk.used D.fs : Int)) ∧ Below w.heap.size w w'
  room : ∀ {w d F D}, At w d F D → Whole D → Calls Tryz.prog 64 #[ptr d] w fun e w' => e = .returned (.int .i64 D.size) ∧ Below w.heap.size w w'
  off : ∀ {w d F D}, At w d F D → Whole D → Calls Tryz.prog 65 #[ptr d] w fun e w' => e = .returned (.bool D.off) ∧ Below w.heap.size w w'
  clone : ∀ {w d F D}, At w d F D → Whole D → Calls Tryz.prog 23 #[ptr d] w fun e w' => ∃ c G, e = .returned (ptr c) ∧ At w' c G D ∧ (∀ b ∈ G, w.heap.size ≤ b) ∧ Below w.heap.size w w'
  same : ∀ {w d F D c G E}, At w d F D → At w c G E → Whole D → Whole E → Calls Tryz.prog 28 #[ptr d, ptr c] w fun e w' => e = .returned (.bool (decide (D = E))) ∧ Below w.heap.size w w'

theorem Kit.below (K : Kit) {w w' : World} {d : Nat} {F : List Nat} {D : Dk} (h : K.At w d F D) (hb : Below w.heap.size w w') : K.At w' d F D :=
  K.touch h (touch_below hb []) (fun b _ hm => by cases hm)
end Go.Proofs.YtpckloafdlkefaaGreat
