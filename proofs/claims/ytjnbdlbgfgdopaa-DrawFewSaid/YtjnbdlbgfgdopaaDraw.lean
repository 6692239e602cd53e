/-
  Contracts of draw's calls: Draw, turned.
-/
import Derived.Test.YtjnbdlbgfgdopaaDrawRow
import Derived.Test.YtjnbdlbgfgdopaaKit
import Derived.Carry
namespace Go.Proofs.Ytjnbdlbgfgdopaa
set_option maxRecDepth 40000
set_option linter.unusedVariables false
open Go.RowKit

theorem cells_at {K : IntKind} {w : World} {lo up : Nat} {A : Option Addr} {n : Nat} {l : List Int} (h : Row w lo up A n (IK K l)) {k : Nat} (hk : k < l.length) :
    ∃ b off, A = some ⟨b, off, none⟩ ∧ lo ≤ b ∧ b < up ∧ w.cell? ⟨b, off + k, none⟩ = some (.int K l[k]) := by
  have hl := h.len
  rw [IK_len] at hl
  obtain ⟨b, off, u, e, h1, h2, hu, hc⟩ := h.at_ (k := k) (by omega)
  rw [IK_get _ l k hk] at hu
  injection hu with hu
  subst hu
  exact ⟨b, off, e, h1, h2, hc⟩
/-- The draw at any place. -/
def drI (l : List Int) (i : Int) : Int := if i < 0 then 0 else dr l i.toNat
theorem drI_nat (l : List Int) (i : Nat) : drI l (i : Int) = dr l i := by
  unfold drI
  rw [if_neg (by omega), Int.toNat_natCast]
theorem draw_at (A : Option Addr) (len cap lo up : Nat) (l : List Int) (i : Nat) (w : World) (h : Row w lo up A len (IK .u64 l)) (hn : len ≤ 1000000) (hi : i ≤ 9223372036854775807) :
    Calls Try.prog 12 #[.slice A len cap, .int .i64 i] w fun e w' => e = .returned (.int .u64 (dr l i)) ∧ w' = w := by
  have hl : l.length = len := by have := h.len; rwa [IK_len] at this
  by_cases h0 : len = 0
  · have e0 : Hid (dr l i = 0) := by
      have : l = [] := List.eq_nil_of_length_eq_zero (by omega)
      rw [this]; rfl
    have hb : ((len : Int) == 0) = true := by simp [h0]
    clear h0 hl
    go_enter Try.func12, Try.ntmps12
    go_wp2
    go_ret
    exact ⟨by rw [e0.out]; rfl, rfl⟩
  · have hb : ((len : Int) == 0) = false := by simp; omega
    have hk : i % len < l.length := by rw [hl]; exact Nat.mod_lt _ (by omega)
    obtain ⟨b, off, rfl, _, _, hc⟩ := cells_at h hk
    have hm : (i : Int).tmod (len : Int) = ((i % len : Nat) : Int) := by rw [← Int.ofNat_tmod]
    have hlt : ((i % len : Nat) : Int) < (len : Int) := by have := Nat.mod_lt i (show 0 < len by omega); omega
    have e0 : Hid (dr l i = l[i % len]) := by
      unfold dr
      rw [hl, List.getElem?_eq_getElem hk]; rfl
    generalize l[i % len] = v at e0 hc
    generalize i % len = m at hc hm hlt
    clear h hl hk
    go_enter Try.func12, Try.ntmps12
    go_wp2
    go_ret
    exact ⟨by rw [e0.out]; rfl, rfl⟩
theorem infoI : (Try.prog.info? 3).map (fun i => (i.zero, i.size, i.bytes)) = some (some (.int .i64 0), 1, 8) := by kernel_rfl
theorem made_nought (K : IntKind) (n : Nat) : madeCells #[.int K 0] n = (IK K (List.replicate n 0)).toArray := by
  apply Array.ext
  · simp [madeCells, IK]
  · intro i h1 h2
    simp [madeCells, IK, Nat.mod_one]
theorem make_any (k n : Nat) (W : World) (hk : k ≤ n) (hn : n ≤ 1000000) :
    (Instr.makeSlice 22 (.int .i64 k) (.int .i64 n)).run Try.prog W = .ok (.slice (some ⟨W.heap.size, 0, none⟩) k n) (W.alloc (.cells (IK .i64 (List.replicate n 0)).toArray 3)) := by
  obtain ⟨i0, hi, hz0, hz1, hz2⟩ := info_parts infoI
  have hb2 : (i0.bytes : Int) * (n : Int) ≤ 281474976710656 := by rw [hz2]; omega
  have h := run_make (P := Try.prog) W 22 3 i0 (.int .i64 0) Try.underlying22 hi hz0 .i64 .i64 k n (by omega) (by omega) hb2 (by omega)
  rw [h, hz1, Nat.mul_one, Int.toNat_natCast, Int.toNat_natCast]
  congr 2
  congr 1
  exact made_nought .i64 n
set_option maxHeartbeats 800000 in
theorem turned_any (A : Option Addr) (len cap lo up : Nat) (l : List Int) (n p : Nat) (w : World) (h : Row w lo up A len (IK .u64 l)) (hup : up ≤ w.heap.size) (hln : len ≤ 1000000) (hwf : ∀ x ∈ l, 0 ≤ x ∧ x ≤ 18446744073709551615) (hp : p ≤ n) (hp2 : p ≤ 4096) (hn : n ≤ 16777216) :
    Calls Try.prog 20 #[.slice A len cap, .int .i64 n, .int .i64 p] w fun e w' => ∃ A' c', e = .returned (.slice A' p c') ∧ w'.ownsRow w.heap.size 3 1 (.slice A' p c') p (IK .i64 (pks l n p)) ∧ Below w.heap.size w w' := by
  obtain ⟨i0, hi, hz0, hz1, hz2⟩ := info_parts infoI
  have mk : ∀ W : World, (Instr.makeSlice 22 (.int .i64 0) (.int .i64 p)).run Try.prog W = .ok (.slice (some ⟨W.heap.size, 0, none⟩) 0 p) (W.alloc (.cells (IK .i64 (List.replicate p 0)).toArray 3)) := fun W => make_any 0 p W (Nat.zero_le _) (by omega)
  have hmm := @run_makeMap Try.prog
  go_enter Try.func20, Try.ntmps20
  go_wp2
  go_loopw [8, 15] (fun v i wr => ∃ k : Nat, k ≤ p ∧ i = .int .i64 k ∧ wr.ownsRow (w.heap.size + 1) 3 1 v k (IK .i64 (pks l n k)) ∧ RM wr w.heap.size (2 * k) (turn l n k) ∧ Below w.heap.size w wr) (fun _ i _ => p - (intOf i).toNat)
  case atStart =>
    refine ⟨0, Nat.zero_le _, rfl, ?_, ?_, ((Below.refl _ _).alloc (Nat.le_refl _) _).alloc (by simp) _⟩
    · have h0 := World.ownsRow_made (base := w.heap.size + 1) (e := 3) (size := 1) (w.alloc (.map #[] 0)) (IK .i64 (List.replicate p 0)).toArray p (by simp) (by unfold maxLen; omega) (by simp [IK])
      have e0 : IK .i64 (pks l n 0) = [] := rfl
      rw [e0]
      simpa using h0
    · exact (rm_new w).touch (touch_grown (World.grownBy_alloc _ _ none) (F := []) (fun g hg => by cases hg)) (by simp)
  case round =>
    obtain ⟨k, hk, rfl, hown, hrm, hb⟩ := hrel
    have hsz := hb.size
    by_cases hlt : k < p
    · have hd : 0 ≤ dr l k := by
        unfold dr
        cases hx : l[k % l.length]? with
        | none => exact Int.le_refl _
        | some x => exact (hwf x (List.mem_of_getElem? hx)).1
      obtain ⟨r, hr⟩ : ∃ r, r = (dr l k).toNat % (n - k) := ⟨_, rfl⟩
      have hrn : r < n - k := by rw [hr]; exact Nat.mod_lt _ (by omega)
      have hr1 : (dr l k).tmod ((n : Int) - (k : Int)) = (r : Int) := by
        have e1 : (n : Int) - (k : Int) = ((n - k : Nat) : Int) := by omega
        have e2 : dr l k = ((dr l k).toNat : Int) := by omega
        rw [e1, e2, hr, ← Int.ofNat_tmod]
      have hst : Hid (k + r = stepTo l n k) := hid (by rw [hr]; rfl)
      clear hr hd
      have HT1 := turn_lt (l := l) k (show k ≤ n by omega) k (by omega)
      have HT2 := turn_lt (l := l) k (show k ≤ n by omega) (k + r) (by omega)
      have HPK := pk_lt (l := l) (show k < n by omega)
      have csw := fun W (hW : RM W w.heap.size (2 * k) (turn l n k)) => swap_any w.heap.size (2 * k) (turn l n k) k (k + r) W hW (by omega) (by omega) (by omega) (by omega) (by omega)
      clear HT1 HT2
      go_wp2_with fail
      refine (draw_at A len cap lo up l k _ (h.below hb hup) hln (by omega)).mono ?_
      rintro e w' ⟨rfl, rfl⟩
      go_wp2_with fail
      refine (csw _ hrm).mono ?_
      rintro e w2 ⟨rfl, hrm2, hg2⟩
      rw [hst.out] at hrm2
      have hrm2 : RM w2 w.heap.size (2 * k + 2) (turn l n (k + 1)) := hrm2
      have hnb : ∀ g, u8.ownBlock = some g → g ∉ [w.heap.size] := fun g hg hm => by
        have := (hown.lt g hg).1
        rw [List.mem_singleton] at hm
        omega
      have ht2 := touch_grown hg2 (F := [w.heap.size]) (fun g hg => by injection hg with hg; rw [← hg]; exact List.mem_singleton.2 rfl)
      have hown2 := hid (own_touched hown ht2 hnb)
      have hb2 := hid (hb.trans (ht2.below hsz (fun i hi => by rw [List.mem_singleton] at hi; omega)))
      have hs2 := ht2.size
      clear hown hrm hb hg2 csw ht2
      go_wp2_with fail
      refine (at_any w.heap.size (2 * k + 2) _ k _ hrm2 (by omega)).mono ?_
      rintro e w3 ⟨rfl, rfl⟩
      have hpk : turn l n (k + 1) k = pk l n k := rfl
      rw [hpk]
      have one1 : ∀ u ∈ [Value.int .i64 (pk l n k : Nat)], u.oneCell' = true := by intro u hu; simp at hu; subst hu; rfl
      go_wp2_with (at_builtin; go_loud (refine wpList_append_row _ rfl _ _ 22 rfl (w.heap.size + 1) 3 i0 (.int .i64 0) 8 Try.underlying22 hi hz0 hz1 hz2 rfl u8 k _ rfl (hown2.out.alloc _) w3.heap.size (w3.heap.size + 1) (some ⟨w3.heap.size, 0, none⟩) 1 1 rfl (fun e => by cases e) [.int .i64 ((pk l n k : Nat) : Int)] (row_one w3 _ _) one1 (by unfold maxLen; omega) (by omega) (by simp; have := hrm2.lt; omega) ?_); intro v4 w4 own4 grow4 at4)
      have hb4 : Below w.heap.size w w4 := (hb2.out.alloc (by omega) _).grown grow4 (by simp; omega) (fun g hg => by have := (hown2.out.lt g hg).1; omega)
      have hrm4 : RM w4 w.heap.size (2 * (k + 1)) (turn l n (k + 1)) := by
        refine (hrm2.touch (touch_grown (World.grownBy_alloc _ _ none) (F := []) (fun g hg => by cases hg)) (by simp)).touch (touch_grown grow4 (F := u8.ownBlock.toList) (fun g hg => by rw [hg]; simp)) (fun hm => ?_)
        cases hu : u8.ownBlock with
        | none => rw [hu] at hm; simp at hm
        | some g =>
          rw [hu] at hm
          have := (hown2.out.lt g hu).1
          simp at hm
          omega
      have hown4 : w4.ownsRow (w.heap.size + 1) 3 1 v4 (k + 1) (IK .i64 (pks l n (k + 1))) := by
        rw [pks_succ k (by omega), IK_append]
        exact own4
      clear own4 grow4 at4 hown2 hb2 hrm2
      go_wp2
      go_roundw
      case rel => exact ⟨k + 1, by omega, by go_num, hown4, hrm4, hb4⟩
      case measure => simp [intOf]; omega
    · obtain rfl : k = p := by omega
      obtain ⟨A', c', rfl, _, _⟩ := own_shape hown
      have HO := hid hown
      have HB := hid hb
      clear hown hrm hb
      go_wp2
      go_ret
      exact ⟨A', c', rfl, ⟨HO.out.1, HO.out.2.imp id fun ⟨g, cap, cur, h1, h2, h3⟩ => ⟨g, cap, cur, h1, Nat.le_trans (Nat.le_succ _) h2, h3⟩⟩, HB.out⟩
end Go.Proofs.Ytjnbdlbgfgdopaa
