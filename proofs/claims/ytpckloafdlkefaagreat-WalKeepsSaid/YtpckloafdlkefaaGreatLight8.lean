/-
  Chapter 8's light: whether acts are gone through.
-/
import Derived.Test.YtpckloafdlkefaaGreatActs8
namespace Go.Proofs.YtpckloafdlkefaaGreat
set_option maxRecDepth 40000
open Go.RowKit

def Light8 (l : List Ar) : Prop := l.length ≤ 100 ∧ ∀ a ∈ l, a.bl ≤ 100 ∧ a.kl ≤ 9 ∧ ∀ x ∈ a.ks, 0 ≤ x
def Light8Post (w : World) (l : List Ar) (e : Ending) (w' : World) : Prop := ∃ b, e = .returned (.bool b) ∧ (b = true → Light8 l) ∧ w' = w
set_option maxHeartbeats 2000000 in
set_option maxRecDepth 20000 in
theorem light8_any (A : Option Addr) (n c H : Nat) (l : List Ar) (w : World) (h : Acts w H A n l) (hn : n ≤ 9223372036854775807) :
    Calls Tryz.prog 6 #[.slice A n c] w (Light8Post w l) := by
  have HL := hid h.len
  have HA := hid h
  have hat := h.at_
  clear h
  go_enter Tryz.func6, Tryz.ntmps6
  go_wp2
  go_loopw [3, 4] (fun i _ wr => ∃ k : Nat, k ≤ n ∧ k ≤ 101 ∧ i = .int .i64 k ∧ Hid (∀ j a, j < k → l[j]? = some a → a.bl ≤ 100 ∧ a.kl ≤ 9 ∧ ∀ x ∈ a.ks, 0 ≤ x) ∧ wr = w) (fun i _ _ => n - (intOf i).toNat)
  case atStart => exact ⟨0, Nat.zero_le _, by omega, rfl, hid (fun j a hj => by omega), rfl⟩
  case round =>
    obtain ⟨k, hk, hk2, rfl, HALL, rfl⟩ := hrel
    by_cases hlt : k < n
    · by_cases hk3 : k ≤ 100
      · obtain ⟨b, off, rfl, hbl, hcell⟩ := hat (by omega)
        obtain ⟨a, ha⟩ : ∃ a, l[k]? = some a := ⟨l[k]'(by rw [HL.out]; exact hlt), List.getElem?_eq_getElem _⟩
        have g2 := hcell k a ha 2 _ rfl
        have g3 := hcell k a ha 3 _ rfl
        have HF := hid (HA.out.fine a (List.mem_of_getElem? ha))
        clear hcell hat HA
        have HAa := hid ha
        clear ha
        by_cases hb : a.bl ≤ 100
        · by_cases hkk : a.kl ≤ 9
          · have hkl : a.ks.length = a.kl := by have := HF.out.rk.len; rwa [I_len] at this
            have HKL := hid hkl
            clear hkl
            go_wp2
            go_loopw [4] (fun i wq => ∃ q : Nat, q ≤ a.kl ∧ i = .int .i64 q ∧ Hid (∀ j x, j < q → a.ks[j]? = some x → 0 ≤ x) ∧ wq = wr) (fun i _ => a.kl - (intOf i).toNat)
            case atStart => exact ⟨0, Nat.zero_le _, rfl, hid (fun j x hj => by omega), rfl⟩
            case round =>
              obtain ⟨q, hq, rfl, HQ, rfl⟩ := hrel
              by_cases hqm : q < a.kl
              · obtain ⟨kb, koff, u, hA, _, hkb, hu, hcl⟩ := HF.out.rk.at_ hqm
                obtain ⟨y, hy⟩ : ∃ y, a.ks[q]? = some y := ⟨a.ks[q]'(by rw [HKL.out]; exact hqm), List.getElem?_eq_getElem _⟩
                have hue : u = .int .i64 y := by
                  unfold I at hu
                  rw [List.getElem?_map, hy] at hu
                  simpa using hu.symm
                subst hue
                rw [hA] at g3
                have HY := hid hy
                clear hu hy hA
                by_cases hy0 : y < 0
                · go_wp2
                  go_ret
                  exact ⟨false, rfl, (fun h => by cases h), rfl⟩
                · go_wp2
                  go_roundw
                  case rel =>
                    refine ⟨q + 1, by omega, by go_num, hid fun j x hj hx => ?_, by trivial⟩
                    rcases Nat.lt_or_ge j q with hj' | hj'
                    · exact HQ.out j x hj' hx
                    · obtain rfl : j = q := by omega
                      rw [HY.out] at hx
                      injection hx with hx
                      omega
                  case measure => simp [intOf]; omega
              · obtain rfl : q = a.kl := by omega
                have HN : Hid (∀ x ∈ a.ks, 0 ≤ x) := hid fun x hx => by
                  obtain ⟨j, hj, hjx⟩ := List.mem_iff_getElem.1 hx
                  exact HQ.out j x (by rw [← HKL.out]; exact hj) (by rw [List.getElem?_eq_getElem hj, hjx])
                go_wp2
                go_roundw
                case rel =>
                  refine ⟨k + 1, by omega, by omega, by go_num, hid fun j x hj hx => ?_, by trivial⟩
                  rcases Nat.lt_or_ge j k with hj' | hj'
                  · exact HALL.out j x hj' hx
                  · obtain rfl : j = k := by omega
                    rw [HAa.out] at hx
                    injection hx with hx
                    subst hx
                    exact ⟨hb, hkk, HN.out⟩
                case measure => simp [intOf]; omega
          · go_wp2
            go_ret
            exact ⟨false, rfl, (fun h => by cases h), rfl⟩
        · go_wp2
          go_ret
          exact ⟨false, rfl, (fun h => by cases h), rfl⟩
      · go_wp2
        go_ret
        exact ⟨_, rfl, (fun h => by simp at h; omega), rfl⟩
    · obtain rfl : k = n := by omega
      go_wp2
      go_ret
      refine ⟨_, rfl, (fun h => ⟨by rw [HL.out]; simp at h; omega, fun a ha => ?_⟩), rfl⟩
      obtain ⟨j, hj, hja⟩ := List.mem_iff_getElem.1 ha
      exact HALL.out j a (by rw [← HL.out]; exact hj) (by rw [List.getElem?_eq_getElem hj, hja])
end Go.Proofs.YtpckloafdlkefaaGreat
