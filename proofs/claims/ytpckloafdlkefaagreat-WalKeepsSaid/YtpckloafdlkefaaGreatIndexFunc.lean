/-
  Contracts of the library's IndexFunc and ContainsFunc at bytes, whole numbers and texts, whatever the function is; of the program's rule for names.
-/
import Derived.Test.YtpckloafdlkefaaGreatDiskKit
import Derived.Laws.IdiomStrings
import Derived.Shelf.Abstract
import Derived.Deep.QuietTactic
import Derived.BigQuiet
namespace Go.Proofs.YtpckloafdlkefaaGreat
set_option maxRecDepth 40000
open Go.RowKit Go.Shelf Dsk

theorem any_take {xs : List Value} {k : Nat} {u : Value} {p : Value → Bool} (h : xs[k]? = some u) : (xs.take (k + 1)).any p = ((xs.take k).any p || p u) := by
  obtain ⟨hk, rfl⟩ := List.getElem?_eq_some_iff.1 h
  rw [List.take_succ_eq_append_getElem hk, List.any_append]
  simp
theorem any_of_take {xs : List Value} {k : Nat} {p : Value → Bool} (h : (xs.take k).any p = true) : xs.any p = true := by
  rw [← List.take_append_drop k xs, List.any_append, h]; rfl

set_option maxHeartbeats 800000 in
theorem index_byte (fn : Nat) (A : Option Addr) (n c lo up : Nat) (xs : List Value) (p : Value → Bool) (w : World) (hR : Row w lo up A n xs) (hup : up ≤ w.heap.size) (hm : n ≤ 9223372036854775807)
    (hent : ∀ args W, (callFunc fn args).run Tryz.prog W = .ok (.enter fn args) W)
    (hp : ∀ (k : Nat) (u : Value), xs[k]? = some u → ∀ W, Below w.heap.size w W → Calls Tryz.prog fn #[u] W fun e w' => e = .returned (.bool (p u)) ∧ Below W.heap.size W w') :
    Calls Tryz.prog 135 #[.slice A n c, .func (.func fn) #[] #[]] w fun e w' => ∃ z : Int, e = .returned (.int .i64 z) ∧ decide (0 ≤ z) = xs.any p ∧ Below w.heap.size w w' := by
  have HS := hid hp
  have HR := hid hR
  clear hp hR
  go_enter Tryz.func135, Tryz.ntmps135
  go_wp2
  go_loopw [8] (fun i wr => ∃ k : Nat, k ≤ n ∧ i = .int .i64 k ∧ Below w.heap.size w wr ∧ (xs.take k).any p = false) (fun i _ => n - (intOf i).toNat)
  case atStart => exact ⟨0, Nat.zero_le _, rfl, Below.refl _ _, rfl⟩
  case round =>
    obtain ⟨k, hk, rfl, hb, hany⟩ := hrel
    have HB := hid hb
    have HA := hid hany
    clear hb hany
    by_cases hlt : k < n
    · obtain ⟨b, off, u, rfl, _, _, hu, hc⟩ := (HR.out.below HB.out hup).at_ hlt
      have HU := hid hu
      clear hu
      have HC := hid (HS.out k u HU.out wr HB.out)
      have HT := hid (any_take (p := p) HU.out)
      generalize p u = q at HC HT
      go_wp2_with fail
      refine HC.out.mono ?_
      rintro e w1 ⟨rfl, h1⟩
      cases q with
      | true =>
        go_wp2
        go_ret
        refine ⟨_, rfl, ?_, HB.out.trans (h1.mono HB.out.size)⟩
        rw [any_of_take (k := k + 1) (by rw [HT.out]; simp)]
        simp
      | false =>
        go_wp2
        go_roundw
        case rel => exact ⟨k + 1, by omega, by go_num, HB.out.trans (h1.mono HB.out.size), by rw [HT.out, HA.out]; rfl⟩
        case measure => simp [intOf]; omega
    · obtain rfl : k = n := by omega
      go_wp2
      go_ret
      refine ⟨-1, rfl, ?_, HB.out⟩
      have h2 := HA.out
      rw [← HR.out.len, List.take_length] at h2
      rw [h2]
      rfl
theorem contains_byte (fn : Nat) (A : Option Addr) (n c lo up : Nat) (xs : List Value) (p : Value → Bool) (w : World) (hR : Row w lo up A n xs) (hup : up ≤ w.heap.size) (hm : n ≤ 9223372036854775807)
    (hent : ∀ args W, (callFunc fn args).run Tryz.prog W = .ok (.enter fn args) W)
    (hp : ∀ (k : Nat) (u : Value), xs[k]? = some u → ∀ W, Below w.heap.size w W → Calls Tryz.prog fn #[u] W fun e w' => e = .returned (.bool (p u)) ∧ Below W.heap.size W w') :
    Calls Tryz.prog 119 #[.slice A n c, .func (.func fn) #[] #[]] w fun e w' => e = .returned (.bool (xs.any p)) ∧ Below w.heap.size w w' := by
  have W1 := hid (index_byte fn A n c lo up xs p w hR hup hm hent hp)
  clear hp hR
  go_enter Tryz.func119, Tryz.ntmps119
  go_wp2_with fail
  refine W1.out.mono ?_
  rintro e w1 ⟨z, rfl, hz, hb⟩
  have HZ := hid hz
  clear hz
  go_wp2_with fail
  go_ret
  exact ⟨by rw [← HZ.out]; rfl, hb⟩

set_option maxHeartbeats 800000 in
theorem index_int (fn : Nat) (A : Option Addr) (n c lo up : Nat) (xs : List Value) (p : Value → Bool) (w : World) (hR : Row w lo up A n xs) (hup : up ≤ w.heap.size) (hm : n ≤ 9223372036854775807)
    (hent : ∀ args W, (callFunc fn args).run Tryz.prog W = .ok (.enter fn args) W)
    (hp : ∀ (k : Nat) (u : Value), xs[k]? = some u → ∀ W, Below w.heap.size w W → Calls Tryz.prog fn #[u] W fun e w' => e = .returned (.bool (p u)) ∧ Below W.heap.size W w') :
    Calls Tryz.prog 85 #[.slice A n c, .func (.func fn) #[] #[]] w fun e w' => ∃ z : Int, e = .returned (.int .i64 z) ∧ decide (0 ≤ z) = xs.any p ∧ Below w.heap.size w w' := by
  have HS := hid hp
  have HR := hid hR
  clear hp hR
  go_enter Tryz.func85, Tryz.ntmps85
  go_wp2
  go_loopw [8] (fun i wr => ∃ k : Nat, k ≤ n ∧ i = .int .i64 k ∧ Below w.heap.size w wr ∧ (xs.take k).any p = false) (fun i _ => n - (intOf i).toNat)
  case atStart => exact ⟨0, Nat.zero_le _, rfl, Below.refl _ _, rfl⟩
  case round =>
    obtain ⟨k, hk, rfl, hb, hany⟩ := hrel
    have HB := hid hb
    have HA := hid hany
    clear hb hany
    by_cases hlt : k < n
    · obtain ⟨b, off, u, rfl, _, _, hu, hc⟩ := (HR.out.below HB.out hup).at_ hlt
      have HU := hid hu
      clear hu
      have HC := hid (HS.out k u HU.out wr HB.out)
      have HT := hid (any_take (p := p) HU.out)
      generalize p u = q at HC HT
      go_wp2_with fail
      refine HC.out.mono ?_
      rintro e w1 ⟨rfl, h1⟩
      cases q with
      | true =>
        go_wp2
        go_ret
        refine ⟨_, rfl, ?_, HB.out.trans (h1.mono HB.out.size)⟩
        rw [any_of_take (k := k + 1) (by rw [HT.out]; simp)]
        simp
      | false =>
        go_wp2
        go_roundw
        case rel => exact ⟨k + 1, by omega, by go_num, HB.out.trans (h1.mono HB.out.size), by rw [HT.out, HA.out]; rfl⟩
        case measure => simp [intOf]; omega
    · obtain rfl : k = n := by omega
      go_wp2
      go_ret
      refine ⟨-1, rfl, ?_, HB.out⟩
      have h2 := HA.out
      rw [← HR.out.len, List.take_length] at h2
      rw [h2]
      rfl
theorem contains_int (fn : Nat) (A : Option Addr) (n c lo up : Nat) (xs : List Value) (p : Value → Bool) (w : World) (hR : Row w lo up A n xs) (hup : up ≤ w.heap.size) (hm : n ≤ 9223372036854775807)
    (hent : ∀ args W, (callFunc fn args).run Tryz.prog W = .ok (.enter fn args) W)
    (hp : ∀ (k : Nat) (u : Value), xs[k]? = some u → ∀ W, Below w.heap.size w W → Calls Tryz.prog fn #[u] W fun e w' => e = .returned (.bool (p u)) ∧ Below W.heap.size W w') :
    Calls Tryz.prog 42 #[.slice A n c, .func (.func fn) #[] #[]] w fun e w' => e = .returned (.bool (xs.any p)) ∧ Below w.heap.size w w' := by
  have W1 := hid (index_int fn A n c lo up xs p w hR hup hm hent hp)
  clear hp hR
  go_enter Tryz.func42, Tryz.ntmps42
  go_wp2_with fail
  refine W1.out.mono ?_
  rintro e w1 ⟨z, rfl, hz, hb⟩
  have HZ := hid hz
  clear hz
  go_wp2_with fail
  go_ret
  exact ⟨by rw [← HZ.out]; rfl, hb⟩

set_option maxHeartbeats 800000 in
theorem index_str (fn : Nat) (A : Option Addr) (n c lo up : Nat) (xs : List Value) (p : Value → Bool) (w : World) (hR : Row w lo up A n xs) (hup : up ≤ w.heap.size) (hm : n ≤ 9223372036854775807)
    (hent : ∀ args W, (callFunc fn args).run Tryz.prog W = .ok (.enter fn args) W)
    (hp : ∀ (k : Nat) (u : Value), xs[k]? = some u → ∀ W, Below w.heap.size w W → Calls Tryz.prog fn #[u] W fun e w' => e = .returned (.bool (p u)) ∧ Below W.heap.size W w') :
    Calls Tryz.prog 134 #[.slice A n c, .func (.func fn) #[] #[]] w fun e w' => ∃ z : Int, e = .returned (.int .i64 z) ∧ decide (0 ≤ z) = xs.any p ∧ Below w.heap.size w w' := by
  have HS := hid hp
  have HR := hid hR
  clear hp hR
  go_enter Tryz.func134, Tryz.ntmps134
  go_wp2
  go_loopw [8] (fun i wr => ∃ k : Nat, k ≤ n ∧ i = .int .i64 k ∧ Below w.heap.size w wr ∧ (xs.take k).any p = false) (fun i _ => n - (intOf i).toNat)
  case atStart => exact ⟨0, Nat.zero_le _, rfl, Below.refl _ _, rfl⟩
  case round =>
    obtain ⟨k, hk, rfl, hb, hany⟩ := hrel
    have HB := hid hb
    have HA := hid hany
    clear hb hany
    by_cases hlt : k < n
    · obtain ⟨b, off, u, rfl, _, _, hu, hc⟩ := (HR.out.below HB.out hup).at_ hlt
      have HU := hid hu
      clear hu
      have HC := hid (HS.out k u HU.out wr HB.out)
      have HT := hid (any_take (p := p) HU.out)
      generalize p u = q at HC HT
      go_wp2_with fail
      refine HC.out.mono ?_
      rintro e w1 ⟨rfl, h1⟩
      cases q with
      | true =>
        go_wp2
        go_ret
        refine ⟨_, rfl, ?_, HB.out.trans (h1.mono HB.out.size)⟩
        rw [any_of_take (k := k + 1) (by rw [HT.out]; simp)]
        simp
      | false =>
        go_wp2
        go_roundw
        case rel => exact ⟨k + 1, by omega, by go_num, HB.out.trans (h1.mono HB.out.size), by rw [HT.out, HA.out]; rfl⟩
        case measure => simp [intOf]; omega
    · obtain rfl : k = n := by omega
      go_wp2
      go_ret
      refine ⟨-1, rfl, ?_, HB.out⟩
      have h2 := HA.out
      rw [← HR.out.len, List.take_length] at h2
      rw [h2]
      rfl
theorem contains_str (fn : Nat) (A : Option Addr) (n c lo up : Nat) (xs : List Value) (p : Value → Bool) (w : World) (hR : Row w lo up A n xs) (hup : up ≤ w.heap.size) (hm : n ≤ 9223372036854775807)
    (hent : ∀ args W, (callFunc fn args).run Tryz.prog W = .ok (.enter fn args) W)
    (hp : ∀ (k : Nat) (u : Value), xs[k]? = some u → ∀ W, Below w.heap.size w W → Calls Tryz.prog fn #[u] W fun e w' => e = .returned (.bool (p u)) ∧ Below W.heap.size W w') :
    Calls Tryz.prog 117 #[.slice A n c, .func (.func fn) #[] #[]] w fun e w' => e = .returned (.bool (xs.any p)) ∧ Below w.heap.size w w' := by
  have W1 := hid (index_str fn A n c lo up xs p w hR hup hm hent hp)
  clear hp hR
  go_enter Tryz.func117, Tryz.ntmps117
  go_wp2_with fail
  refine W1.out.mono ?_
  rintro e w1 ⟨z, rfl, hz, hb⟩
  have HZ := hid hz
  clear hz
  go_wp2_with fail
  go_ret
  exact ⟨by rw [← HZ.out]; rfl, hb⟩

def isOut : Value → Bool
  | .int _ z => !((decide (97 ≤ z) && decide (z ≤ 122)) || (decide (48 ≤ z) && decide (z ≤ 57)))
  | _ => true
theorem isOut_byte (c : UInt8) : isOut (.int .u8 (c.toNat : Int)) = !okB c := by
  show (!((decide ((97 : Int) ≤ (c.toNat : Int)) && decide ((c.toNat : Int) ≤ 122)) || (decide ((48 : Int) ≤ (c.toNat : Int)) && decide ((c.toNat : Int) ≤ 57)))) = !okB c
  unfold okB
  rw [show decide ((97 : Int) ≤ (c.toNat : Int)) = decide (97 ≤ c.toNat) from by rw [decide_eq_decide]; omega,
    show decide ((c.toNat : Int) ≤ 122) = decide (c.toNat ≤ 122) from by rw [decide_eq_decide]; omega,
    show decide ((48 : Int) ≤ (c.toNat : Int)) = decide (48 ≤ c.toNat) from by rw [decide_eq_decide]; omega,
    show decide ((c.toNat : Int) ≤ 57) = decide (c.toNat ≤ 57) from by rw [decide_eq_decide]; omega]
theorem any_out (l : List UInt8) : (U l).any isOut = !l.all okB := by
  induction l with
  | nil => rfl
  | cons c r ih =>
    have : U (c :: r) = .int .u8 (c.toNat : Int) :: U r := rfl
    rw [this, List.any_cons, ih, isOut_byte, List.all_cons, Bool.not_and]
theorem outside_any (c : UInt8) (W : World) : Calls Tryz.prog 120 #[.int .u8 (c.toNat : Int)] W fun e w' => e = .returned (.bool (isOut (.int .u8 (c.toNat : Int)))) ∧ Below W.heap.size W w' := by
  generalize (c.toNat : Int) = z
  unfold isOut
  go_enter Tryz.func120, Tryz.ntmps120
  by_cases h1 : z < 97
  · by_cases h3 : z < 48
    · go_wp2
      go_ret
      exact ⟨by first | (simp; done) | (simp; omega), Below.refl _ _⟩
    · by_cases h4 : z ≤ 57
      · have h4' : ¬ 57 < z := by omega
        go_wp2
        go_ret
        exact ⟨by first | (simp; done) | (simp; omega), Below.refl _ _⟩
      · go_wp2
        go_ret
        exact ⟨by first | (simp; done) | (simp; omega), Below.refl _ _⟩
  · by_cases h2 : 122 < z
    · by_cases h3 : z < 48
      · omega
      · by_cases h4 : z ≤ 57
        · omega
        · go_wp2
          go_ret
          exact ⟨by first | (simp; done) | (simp; omega), Below.refl _ _⟩
    · go_wp2
      go_ret
      exact ⟨by first | (simp; done) | (simp; omega), Below.refl _ _⟩

def badN : Value → Bool
  | .string s => !okN s.data.toList
  | _ => true
theorem badN_S (n : Nm) : badN (S n) = !okN n := rfl
def Ss (l : List Nm) : List Value := l.map S
theorem any_bad (l : List Nm) : (Ss l).any badN = !l.all okN := by
  induction l with
  | nil => rfl
  | cons c r ih =>
    have : Ss (c :: r) = S c :: Ss r := rfl
    rw [this, List.any_cons, ih, badN_S, List.all_cons, Bool.not_and]
theorem entersOut : ∀ args W, (callFunc 120 args).run Tryz.prog W = .ok (.enter 120 args) W := enters_of Tryz.func120 (by kernel_rfl) rfl
theorem entersName : ∀ args W, (callFunc 118 args).run Tryz.prog W = .ok (.enter 118 args) W := enters_of Tryz.func118 (by kernel_rfl) rfl
theorem conv_name (w : World) (n : Nm) : ∃ cap w1, (convert 9 33 (S n)).run Tryz.prog w = .ok (.slice (some ⟨w.heap.size, 0, none⟩) n.length cap) w1 ∧ Row w1 w.heap.size (w.heap.size + 1) (some ⟨w.heap.size, 0, none⟩) n.length (U n) ∧ Below w.heap.size w w1 ∧ w1.heap.size = w.heap.size + 1 := by
  have h := run_bytes_of_string (P := Tryz.prog) w 9 33 5 ⟨n.toArray⟩ Tryz.underlying9 Tryz.underlying33 Tryz.underlying5
  refine ⟨_, _, h, ⟨U_len n, fun _ => ⟨_, _, rfl, Nat.le_refl _, Nat.lt_succ_self _, fun k u hu => ?_⟩⟩, ((Below.refl _ w).drew.alloc (Nat.le_refl _) _), by simp⟩
  refine (cell_of_row _ w.heap.size _ _ _ _ (heap_alloc_new w.drew _)).trans ?_
  have hk : k < n.length := by have := (List.getElem?_eq_some_iff.1 hu).1; rwa [U_len] at this
  rw [Nat.zero_add, bytesRow_at ⟨n.toArray⟩ _ k (by simpa using hk), ← hu, U_get n k hk]
  simp
set_option maxHeartbeats 800000 in
theorem named_any (n : Nm) (hl : n.length ≤ 1000) (w : World) : Calls Tryz.prog 118 #[S n] w fun e w' => e = .returned (.bool (badN (S n))) ∧ Below w.heap.size w w' := by
  rw [badN_S]
  have hlen : ∀ W : World, (Builtin.len_ #[9] 3 #[S n]).run Tryz.prog W = .ok (.int .i64 (n.length : Int)) W := by
    intro W
    have e : (⟨n.toArray⟩ : ByteArray).size = n.length := by show n.toArray.size = _; simp
    simp [Builtin.len_, run_underlying Tryz.underlying9, S, goInt, e]
  obtain ⟨cap, w1, hconv, hR, hb1, hs1⟩ := conv_name w n
  have W1 := hid (contains_byte 120 (some ⟨w.heap.size, 0, none⟩) n.length cap w.heap.size (w.heap.size + 1) (U n) isOut w1 hR (by omega) (by omega) entersOut (by
    intro k u hu W hb
    obtain ⟨hk, rfl⟩ := List.getElem?_eq_some_iff.1 hu
    have hk' : k < n.length := by rwa [U_len] at hk
    have : (U n)[k] = .int .u8 ((n[k]).toNat : Int) := by simp [U]
    rw [this]
    exact outside_any _ W))
  clear hR
  have HB := hid hb1
  have HS1 := hid hs1
  clear hb1 hs1
  rw [any_out] at W1
  have hok : okN n = (n.all okB && (decide (1 ≤ n.length) && decide (n.length ≤ 16))) := rfl
  have HO := hid hok
  clear hok
  generalize hs : S n = s at *
  generalize okN n = q at *
  generalize n.all okB = a at *
  generalize n.length = m at *
  clear hs
  go_enter Tryz.func118, Tryz.ntmps118
  by_cases h1 : m < 1
  · have h1' : (m : Int) < 1 := by omega
    go_wp2_with fail
    go_ret
    refine ⟨?_, Below.refl _ _⟩
    rw [HO.out]
    simp; omega
  · have h1' : ¬ (m : Int) < 1 := by omega
    by_cases h2 : 16 < m
    · have h2' : (16 : Int) < m := by omega
      go_wp2_with fail
      go_ret
      refine ⟨?_, Below.refl _ _⟩
      rw [HO.out]
      simp; omega
    · have h2' : ¬ (16 : Int) < m := by omega
      go_wp2_with fail
      refine W1.out.mono ?_
      rintro e w2 ⟨rfl, hb⟩
      go_wp2_with fail
      go_ret
      refine ⟨?_, HB.out.trans (hb.mono (by rw [HS1.out]; omega))⟩
      rw [HO.out]
      have e1 : decide (1 ≤ m) = true := by simp; omega
      have e2 : decide (m ≤ 16) = true := by simp; omega
      rw [e1, e2]
      simp
theorem allnames_any (A : Option Addr) (k c lo up : Nat) (l : List Nm) (hl : ∀ n ∈ l, n.length ≤ 1000) (w : World) (hR : Row w lo up A k (Ss l)) (hup : up ≤ w.heap.size) (hk : k ≤ 1000) :
    Calls Tryz.prog 109 #[.slice A k c] w fun e w' => e = .returned (.bool (l.all okN)) ∧ Below w.heap.size w w' := by
  have W1 := hid (contains_str 118 A k c lo up (Ss l) badN w hR hup (by omega) entersName (by
    intro i u hu W hb
    obtain ⟨hi, rfl⟩ := List.getElem?_eq_some_iff.1 hu
    have hi' : i < l.length := by simpa [Ss] using hi
    have : (Ss l)[i] = S l[i] := by simp [Ss]
    rw [this]
    exact named_any l[i] (hl _ (List.getElem_mem hi')) W))
  rw [any_bad] at W1
  generalize l.all okN = q at *
  go_enter Tryz.func109, Tryz.ntmps109
  go_wp2_with fail
  refine W1.out.mono ?_
  rintro e w1 ⟨rfl, hb⟩
  go_wp2_with fail
  go_ret
  exact ⟨by simp, hb⟩
end Go.Proofs.YtpckloafdlkefaaGreat
