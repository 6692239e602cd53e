/-
  Plain words of DiskFuses: what an operation comes to, whatever the fuse.
-/
import Derived.Test.YtkadljomimpnjaaDoneAct
namespace Go.Proofs.Ytkadljomimpnjaa
open Dsk

def OpAc : Ac → Prop
  | .fus _ => False
  | .cra _ => False
  | _ => True
theorem act_gone {size : Int} {fs : Fs} {n : Int} {a : Ac} (ha : OpAc a) : act ⟨size, fs, n, true⟩ a = (9, ⟨size, fs, n, true⟩) := by
  cases a with
  | fus _ => cases ha
  | cra _ => cases ha
  | _ => rfl
/-- An operation has an error, and changes nothing; or it comes to the fuse. -/
def Fails (size : Int) (fs : Fs) (a : Ac) (e : Int) : Prop := e ≠ 0 ∧ ∀ n, act ⟨size, fs, n, false⟩ a = (e, ⟨size, fs, n, false⟩)
def Burns (size : Int) (fs : Fs) (a : Ac) (fs' : Fs) : Prop := ∀ n, act ⟨size, fs, n, false⟩ a = burn ⟨size, fs, n, false⟩ fs'
theorem act_way (size : Int) (fs : Fs) {a : Ac} (ha : OpAc a) : (∃ e, Fails size fs a e) ∨ ∃ fs', Burns size fs a fs' := by
  cases a with
  | fus _ => cases ha
  | cra _ => cases ha
  | app m b =>
    by_cases h1 : okN m = false
    · exact .inl ⟨2, by decide, fun n => by show dAppend _ _ _ = _; unfold dAppend; simp [h1]⟩
    · by_cases h2 : size < used fs + b.length
      · exact .inl ⟨7, by decide, fun n => by show dAppend _ _ _ = _; unfold dAppend; simp [h1, h2]⟩
      · exact .inr ⟨put fs m ⟨(file ⟨size, fs, 0, false⟩ m).b ++ b, (file ⟨size, fs, 0, false⟩ m).s⟩, fun n => by show dAppend _ _ _ = _; unfold dAppend; simp only [h1, h2, if_false]; rfl⟩
  | syn m =>
    by_cases h : ready ⟨size, fs, 0, false⟩ m = 0
    · refine .inr ⟨put fs m ⟨(file ⟨size, fs, 0, false⟩ m).b, (file ⟨size, fs, 0, false⟩ m).b.length⟩, fun n => ?_⟩
      have h' : ready ⟨size, fs, n, false⟩ m = 0 := h
      show dSync _ _ = _
      unfold dSync
      rw [if_neg (by simp [h'])]
      rfl
    · refine .inl ⟨ready ⟨size, fs, 0, false⟩ m, h, fun n => ?_⟩
      have h' : ready ⟨size, fs, n, false⟩ m ≠ 0 := h
      show dSync _ _ = _
      unfold dSync
      rw [if_pos h']
      rfl
  | ren m k =>
    by_cases h1 : okN k = false
    · exact .inl ⟨2, by decide, fun n => by show dRename _ _ _ = _; unfold dRename; simp [h1]⟩
    · by_cases h : ready ⟨size, fs, 0, false⟩ m = 0
      · by_cases h2 : (file ⟨size, fs, 0, false⟩ m).s < (file ⟨size, fs, 0, false⟩ m).b.length
        · refine .inl ⟨10, by decide, fun n => ?_⟩
          have h' : ready ⟨size, fs, n, false⟩ m = 0 := h
          have h2' : (file ⟨size, fs, n, false⟩ m).s < (file ⟨size, fs, n, false⟩ m).b.length := h2
          show dRename _ _ _ = _
          unfold dRename
          rw [if_neg (by simp), if_neg h1, if_neg (by simp [h']), if_pos h2']
        · refine .inr ⟨if m = k then fs else put (del fs m) k (file ⟨size, fs, 0, false⟩ m), fun n => ?_⟩
          have h' : ready ⟨size, fs, n, false⟩ m = 0 := h
          have h2' : ¬ (file ⟨size, fs, n, false⟩ m).s < (file ⟨size, fs, n, false⟩ m).b.length := h2
          show dRename _ _ _ = _
          unfold dRename
          rw [if_neg (by simp), if_neg h1, if_neg (by simp [h']), if_neg h2']
          rfl
      · refine .inl ⟨ready ⟨size, fs, 0, false⟩ m, h, fun n => ?_⟩
        have h' : ready ⟨size, fs, n, false⟩ m ≠ 0 := h
        show dRename _ _ _ = _
        unfold dRename
        rw [if_neg (by simp), if_neg h1, if_pos h']
        rfl
  | rem m =>
    by_cases h : ready ⟨size, fs, 0, false⟩ m = 0
    · refine .inr ⟨del fs m, fun n => ?_⟩
      have h' : ready ⟨size, fs, n, false⟩ m = 0 := h
      show dDelete _ _ = _
      unfold dDelete
      rw [if_neg (by simp [h'])]
    · refine .inl ⟨ready ⟨size, fs, 0, false⟩ m, h, fun n => ?_⟩
      have h' : ready ⟨size, fs, n, false⟩ m ≠ 0 := h
      show dDelete _ _ = _
      unfold dDelete
      rw [if_pos h']
      rfl
  | cut m k =>
    by_cases h : ready ⟨size, fs, 0, false⟩ m = 0
    · by_cases h2 : k < 0 ∨ ((file ⟨size, fs, 0, false⟩ m).b.length : Int) < k
      · refine .inl ⟨2, by decide, fun n => ?_⟩
        have h' : ready ⟨size, fs, n, false⟩ m = 0 := h
        have h2' : k < 0 ∨ ((file ⟨size, fs, n, false⟩ m).b.length : Int) < k := h2
        show dCut _ _ _ = _
        unfold dCut
        rw [if_neg (by simp [h']), if_pos h2']
      · refine .inr ⟨put fs m ⟨(file ⟨size, fs, 0, false⟩ m).b.take k.toNat, k.toNat⟩, fun n => ?_⟩
        have h' : ready ⟨size, fs, n, false⟩ m = 0 := h
        have h2' : ¬ (k < 0 ∨ ((file ⟨size, fs, n, false⟩ m).b.length : Int) < k) := h2
        show dCut _ _ _ = _
        unfold dCut
        rw [if_neg (by simp [h']), if_neg h2']
        rfl
    · refine .inl ⟨ready ⟨size, fs, 0, false⟩ m, h, fun n => ?_⟩
      have h' : ready ⟨size, fs, n, false⟩ m ≠ 0 := h
      show dCut _ _ _ = _
      unfold dCut
      rw [if_pos h']
      rfl
theorem burn_none (size : Int) (fs fs' : Fs) : burn ⟨size, fs, -1, false⟩ fs' = (0, ⟨size, fs', -1, false⟩) := rfl
theorem burn_last (size : Int) (fs fs' : Fs) : burn ⟨size, fs, ((0 : Nat) : Int), false⟩ fs' = (9, ⟨size, fs, ((0 : Nat) : Int), true⟩) := rfl
theorem burn_more (size : Int) (fs fs' : Fs) (n : Nat) : burn ⟨size, fs, ((n + 1 : Nat) : Int), false⟩ fs' = (0, ⟨size, fs', (n : Int), false⟩) := by
  unfold burn
  rw [if_neg (by show ¬ ((n + 1 : Nat) : Int) = 0; omega), if_pos (by show 0 < ((n + 1 : Nat) : Int); omega)]
  show (0, _) = (0, _)
  congr 2
  show ((n + 1 : Nat) : Int) - 1 = n
  omega
theorem ac_op {a : Ar} {q : Nat} (h : a.kind % 8 = (q : Int)) (hq : q < 6) : OpAc (acOf a) := by
  unfold acOf
  split
  · trivial
  · split
    · trivial
    · split
      · trivial
      · split
        · trivial
        · split
          · trivial
          · exfalso
            omega
theorem crash_two (size : Int) (fs : Fs) (n : Int) (o : Bool) : dCrash ⟨size, fs, n, o⟩ [0, 5] = (0, ⟨size, crashFs fs [0, 5], -1, false⟩) := rfl
theorem size_same (size : Int) (fs : Fs) (n n' : Int) (o o' : Bool) (m : Nm) : dSize ⟨size, fs, n, o⟩ m = dSize ⟨size, fs, n', o'⟩ m ∧ dSynced ⟨size, fs, n, o⟩ m = dSynced ⟨size, fs, n', o'⟩ m := ⟨rfl, rfl⟩
end Go.Proofs.Ytkadljomimpnjaa
