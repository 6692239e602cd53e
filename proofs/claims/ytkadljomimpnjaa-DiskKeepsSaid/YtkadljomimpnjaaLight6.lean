/-
  Helpers of chapter 6's laws: whether acts are gone through; whether rows of names are the same.
-/
import Derived.Test.YtkadljomimpnjaaDoneAct
namespace Go.Proofs.Ytkadljomimpnjaa
open Go.RowKit Go.Maps Dsk

def Light (l : List Ar) : Prop := l.length ≤ 120 ∧ ∀ a ∈ l, a.bl ≤ 120 ∧ a.kl ≤ 120
def LightPost (w : World) (l : List Ar) (e : Ending) (w' : World) : Prop := ∃ b, e = .returned (.bool b) ∧ (b = true → Light l) ∧ w' = w
set_option maxHeartbeats 1000000 in
set_option maxRecDepth 20000 in
theorem light_any (A : Option Addr) (n c H : Nat) (l : List Ar) (w : World) (h : Acts w H A n l) (hn : n ≤ 9223372036854775807) :
    Calls Try.prog 24 #[.slice A n c] w (LightPost w l) := by
  have HL := hid h.len
  have HA := hid h
  have hat := h.at_
  clear h
  go_enter Try.func24, Try.ntmps24
  go_wp2
  go_loopw [3] (fun i wr => ∃ k : Nat, k ≤ n ∧ k ≤ 121 ∧ i = .int .i64 k ∧ (∀ j a, j < k → l[j]? = some a → a.bl ≤ 120 ∧ a.kl ≤ 120) ∧ wr = w) (fun i _ => n - (intOf i).toNat)
  case atStart => exact ⟨0, Nat.zero_le _, by omega, rfl, (fun j a hj => by omega), rfl⟩
  case round =>
    obtain ⟨k, hk, hk2, rfl, hall, rfl⟩ := hrel
    have HALL := hid hall
    clear hall
    by_cases hlt : k < n
    · by_cases hk3 : k ≤ 120
      · obtain ⟨b, off, rfl, hbl, hcell⟩ := hat (by omega)
        obtain ⟨a, ha⟩ : ∃ a, l[k]? = some a := ⟨l[k]'(by rw [HL.out]; exact hlt), List.getElem?_eq_getElem _⟩
        have g4 := hcell k a ha 4 _ rfl
        have g5 := hcell k a ha 5 _ rfl
        clear hcell hat
        have HAa := hid ha
        clear ha
        by_cases hb : a.bl ≤ 120
        · by_cases hkk : a.kl ≤ 120
          · go_wp2
            go_roundw
            case rel => 
              refine ⟨k + 1, by omega, by omega, by go_num, fun j x hj hx => ?_, by trivial⟩
              rcases Nat.lt_or_ge j k with hj' | hj'
              · exact HALL.out j x hj' hx
              · obtain rfl : j = k := by omega
                rw [HAa.out] at hx
                injection hx with hx
                subst hx
                exact ⟨hb, hkk⟩
            case measure => simp [intOf]; omega
          · go_wp2
            go_ret
            exact ⟨false, rfl, (fun h => by cases h), rfl⟩
        · go_wp2
          go_ret
          exact ⟨false, rfl, (fun h => by cases h), rfl⟩
      · go_wp2
        go_ret
        exact ⟨_, rfl, (fun h => by simp at h; omega), rfl⟩
    · obtain rfl : k = n := by omega
      go_wp2
      go_ret
      refine ⟨_, rfl, (fun h => ⟨by rw [HL.out]; simp at h; omega, fun a ha => ?_⟩), rfl⟩
      obtain ⟨j, hj, hja⟩ := List.mem_iff_getElem.1 ha
      exact HALL.out j a (by rw [← HL.out]; exact hj) (by rw [List.getElem?_eq_getElem hj, hja])

theorem S_inj {n m : Nm} (h : S n = S m) : n = m := by
  unfold S at h
  injection h with h
  injection h with h
  have := congrArg Array.toList h
  simpa using this
def Sv (l : List Nm) : List Value := l.map S
theorem Sv_len (l : List Nm) : (Sv l).length = l.length := by simp [Sv]
set_option maxHeartbeats 1000000 in
theorem same_strs (A A' : Option Addr) (n n' c c' lo up lo' up' : Nat) (l l' : List Nm) (w : World) (h : Row w lo up A n (Sv l)) (h' : Row w lo' up' A' n' (Sv l')) (hn : n ≤ 9223372036854775807) :
    Calls Try.prog 22 #[.slice A n c, .slice A' n' c'] w fun e w' => e = .returned (.bool (decide (l = l'))) ∧ ∃ k, w' = w.drewN k := by
  have hl : l.length = n := by have := h.len; rwa [Sv_len] at this
  have hl' : l'.length = n' := by have := h'.len; rwa [Sv_len] at this
  by_cases hnn : n = n'
  · subst hnn
    have hb : ((n : Int) != (n : Int)) = false := by simp
    have HL : Hid (l.length = n) := hl
    have HL' : Hid (l'.length = n) := hl'
    clear hl hl'
    go_enter Try.func22, Try.ntmps22
    go_wp2
    go_loopw [5] (fun i wr => ∃ k : Nat, k ≤ n ∧ i = .int .i64 k ∧ l.take k = l'.take k ∧ ∃ m, wr = w.drewN m) (fun i _ => n - (intOf i).toNat)
    case atStart => exact ⟨0, Nat.zero_le _, rfl, by simp, 0, rfl⟩
    case round =>
      obtain ⟨k, hk, rfl, ht, m, rfl⟩ := hrel
      have HT : Hid (l.take k = l'.take k) := ht
      clear ht
      by_cases hlt : k < n
      · obtain ⟨b, off, u, rfl, _, _, hu, hc⟩ := h.at_ hlt
        obtain ⟨b', off', u', rfl, _, _, hu', hc'⟩ := h'.at_ hlt
        have hk1 : k < l.length := by rw [HL.out]; exact hlt
        have hk2 : k < l'.length := by rw [HL'.out]; exact hlt
        have hu1 : u = S l[k] := by simpa [Sv, hk1] using hu.symm
        have hu2 : u' = S l'[k] := by simpa [Sv, hk2] using hu'.symm
        obtain ⟨x, hx⟩ : ∃ x : ByteArray, x = ⟨l[k].toArray⟩ := ⟨_, rfl⟩
        obtain ⟨y, hy⟩ : ∃ y : ByteArray, y = ⟨l'[k].toArray⟩ := ⟨_, rfl⟩
        have hu1' : u = .string x := by rw [hu1, hx]; rfl
        have hu2' : u' = .string y := by rw [hu2, hy]; rfl
        have hxy : (x.toList == y.toList) = decide (l[k] = l'[k]) := by
          rw [hx, hy, Lib.toList_data, Lib.toList_data]
          rw [Bool.eq_iff_iff]
          simp
        have g1 : (w.drewN m).cell? ⟨b, off + k, none⟩ = some (.string x) := hu1' ▸ hc
        have g2 : (w.drewN m).cell? ⟨b', off' + k, none⟩ = some (.string y) := hu2' ▸ hc'
        subst hu1' hu2'
        clear hu1 hu2 hu hu' hx hy
        by_cases he : l[k] = l'[k]
        case' neg =>
          have HF' : Hid (decide (l = l') = false) := hid (decide_eq_false fun e => by subst e; exact he rfl)
          have he' : (x.toList == y.toList) = false := by rw [hxy, decide_eq_false he]
          clear hxy he
          go_wp2
          go_quiet (fail)
          go_wp2
          go_ret
          exact ⟨by rw [HF'.out]; rfl, _, World.drewN_drewN _ _ _⟩
        case' pos =>
          have he' : (x.toList == y.toList) = true := by rw [hxy, decide_eq_true he]
          have HF : Hid (l.take (k + 1) = l'.take (k + 1)) := hid (by rw [List.take_succ_eq_append_getElem hk1, List.take_succ_eq_append_getElem hk2, HT.out, he])
          clear he hxy
          go_wp2
          go_quiet (fail)
          go_wp2
          go_roundw
          case rel => exact ⟨k + 1, by omega, by go_num, HF.out, _, rfl⟩
          case measure => simp [intOf]; omega
      · go_wp2
        go_ret
        refine ⟨?_, _, rfl⟩
        have e : l = l' := by
          have h1 : l.take k = l := List.take_of_length_le (by rw [HL.out]; omega)
          have h2 : l'.take k = l' := List.take_of_length_le (by rw [HL'.out]; omega)
          rw [← h1, ← h2, HT.out]
        rw [decide_eq_true e]
        rfl
  · have hb : ((n : Int) != (n' : Int)) = true := by simp; omega
    have HF : Hid (decide (l = l') = false) := decide_eq_false (fun e => hnn (by rw [← hl, ← hl', e]))
    clear hl hl'
    go_enter Try.func22, Try.ntmps22
    go_wp2
    go_ret
    exact ⟨by rw [HF.out]; rfl, 0, rfl⟩
end Go.Proofs.Ytkadljomimpnjaa
