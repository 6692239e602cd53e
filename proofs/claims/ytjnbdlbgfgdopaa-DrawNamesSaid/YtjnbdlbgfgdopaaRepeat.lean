/-
  The contract of slices.Repeat at numbers: what is handed in, so often, in memory of the call's own; bits.Mul of what fits.
-/
import Derived.Test.YtjnbdlbgfgdopaaDraw
import Derived.Shelf.Bits.Mul64
import Derived.Laws.CopyRow
import Derived.Laws.CopyOwn
namespace Go.Proofs.Ytjnbdlbgfgdopaa
set_option maxRecDepth 40000
set_option linter.unusedVariables false
open Go.RowKit Go.Shelf

/-- The shelf's numbers for Mul64 and its two types, at this dump. -/
def shelfAt : Shelf.Ren := ⟨fun n => if n = 264 then 31 else n, fun n => if n = 53 then 27 else if n = 46 then 48 else n, fun n => n⟩
theorem shelfLays : Lays.n264 Try.prog shelfAt where
  mixed := by kernel_rfl
  f264 := by kernel_rfl
  t46 := by kernel_rfl
  a46 := fun w => by rfl
  z46 := fun w => by rfl
  v46 := fun w => by rfl
  t53 := by kernel_rfl
  a53 := fun w => by rfl
  z53 := fun w => by rfl
  v53 := fun w => by rfl
theorem mul_small (x y : Nat) (h : x * y < 18446744073709551616) (hx : x < 18446744073709551616) (hy : y < 18446744073709551616) (w : World) :
    Calls Try.prog 27 #[.int .u64 x, .int .u64 y] w fun e w' => e = .returned (.tuple #[.int .u64 0, .int .u64 ((x * y : Nat) : Int)]) ∧ w' = w := by
  have c := Any.bits_Mul64 shelfLays x y hx hy w
  rw [Nat.div_eq_of_lt h, Nat.mod_eq_of_lt h] at c
  have c : Calls Try.prog 31 #[.int .u64 x, .int .u64 y] w fun e w' => e = .returned (.tuple #[.int .u64 0, .int .u64 ((x * y : Nat) : Int)]) ∧ w' = w := c
  generalize x * y = z at c
  go_enter Try.func27, Try.ntmps27
  go_wp2_with fail
  refine c.mono ?_
  rintro e w' ⟨rfl, rfl⟩
  go_wp2
  go_ret2
  exact ⟨rfl, rfl⟩
/-- What a row of L places has when m of them are laid. -/
def fil (xs : List Int) (L m : Nat) : List Int := round xs m ++ List.replicate (L - m) 0
theorem fil_len (xs : List Int) {L m : Nat} (h : m ≤ L) : (fil xs L m).length = L := by simp [fil, round_len]; omega
theorem fil_all (xs : List Int) (L : Nat) : fil xs L L = round xs L := by simp [fil]
theorem fil_none (xs : List Int) (L : Nat) : fil xs L 0 = List.replicate L 0 := by simp [fil, round]
theorem fil_get {xs : List Int} {L m j : Nat} (h : j < m) : (fil xs L m)[j]? = (round xs m)[j]? := by
  unfold fil
  rw [List.getElem?_append_left (by rw [round_len]; exact h)]
theorem fil_more {xs cs : List Int} {L m k : Nat} (hk : m + k ≤ L) (hc : round xs (m + k) = round xs m ++ cs) (hl : cs.length = k) :
    ((IK .i64 (fil xs L m)).toArray.toList.take m ++ IK .i64 cs ++ (IK .i64 (fil xs L m)).toArray.toList.drop (m + k)).toArray = (IK .i64 (fil xs L (m + k))).toArray := by
  congr 1
  have e1 : (IK .i64 (fil xs L m)).toArray.toList = IK .i64 (round xs m) ++ IK .i64 (List.replicate (L - m) 0) := by simp [fil, IK]
  have hr : (IK .i64 (round xs m)).length = m := by rw [IK_len, round_len]
  have e2 : fil xs L (m + k) = round xs m ++ cs ++ List.replicate (L - (m + k)) 0 := by unfold fil; rw [hc]
  have e3 : (IK .i64 (round xs m) ++ IK .i64 (List.replicate (L - m) 0)).drop (m + k) = IK .i64 (List.replicate (L - (m + k)) 0) := by
    rw [List.drop_append, hr, List.drop_eq_nil_of_le (by rw [hr]; omega), List.nil_append, show m + k - m = k by omega]
    unfold IK
    rw [← List.map_drop, List.drop_replicate, show L - m - k = L - (m + k) by omega]
  rw [e1, e2, IK_append, IK_append, List.take_left' hr, e3]
theorem info_one : (Try.prog.info? 3).map (·.size) = some 1 := by kernel_rfl
theorem copy_twice (W : World) (g L m k : Nat) (xs : List Int) (ty : TypeId) (dC sC : Nat) (hB : Blk W g 3 (IK .i64 (fil xs L m)).toArray) (hk : m + k ≤ L) (hkm : k ≤ m) (hd : xs.length ∣ m) (hmin : Nat.min m (L - m) = k) :
    (Builtin.copy_ #[22, 22] ty #[.slice (some ⟨g, m, none⟩) (L - m) dC, .slice (some ⟨g, 0, none⟩) m sC]).run Try.prog W = .ok (.int .i64 (k : Int)) (W.setRow g (IK .i64 (fil xs L (m + k))).toArray) := by
  have h := run_copy_row Try.prog W 22 22 ty 3 g m (L - m) dC ⟨g, 0, none⟩ m sC (IK .i64 (fil xs L m)).toArray 3 (IK .i64 (round xs k)) Try.underlying22 info_one hB
    (by rw [IK_len, round_len, hmin]) (fun j v hj => ?_) (by rw [IK_len, round_len]; simp [IK, fil_len xs (show m ≤ L by omega)]; omega) (IK_one _ _)
  · rw [h, IK_len, round_len, fil_more hk (round_twice hd hkm) (round_len _ _)]
    rfl
  · have hjk : j < k := by
      have := (List.getElem?_eq_some_iff.1 hj).1
      rwa [IK_len, round_len] at this
    rw [addr_add, hB.cell, Nat.zero_add, List.getElem?_toArray]
    unfold IK at hj ⊢
    rw [List.getElem?_map] at hj ⊢
    rw [fil_get (by omega), round_get (by omega)]
    rw [round_get hjk] at hj
    exact hj
theorem copy_first (W : World) (g L n c : Nat) (A : Option Addr) (lo up : Nat) (xs : List Int) (ty : TypeId) (hB : Blk W g 3 (IK .i64 (fil xs L 0)).toArray) (hR : Row W lo up A n (IK .i64 xs)) (hn : n ≤ L) (hx : xs.length = n) :
    ∃ W', (Builtin.copy_ #[22, 22] ty #[.slice (some ⟨g, 0, none⟩) L L, .slice A n c]).run Try.prog W = .ok (.int .i64 (n : Int)) W' ∧ Blk W' g 3 (IK .i64 (fil xs L n)).toArray ∧ W'.heap.size = W.heap.size ∧ ∀ B, B ≤ g → Below B W W' := by
  by_cases h0 : n = 0
  · refine ⟨W, ?_, by rw [h0]; exact hB, rfl, fun B _ => Below.refl _ _⟩
    rw [h0]
    exact run_copy_none (P := Try.prog) W 22 22 ty 3 _ A L L 0 c Try.underlying22 info_one (by simp)
  · obtain ⟨b, off, rfl, _, _, hc⟩ := hR.2 (by omega)
    have h := run_copy_row Try.prog W 22 22 ty 3 g 0 L L ⟨b, off, none⟩ n c (IK .i64 (fil xs L 0)).toArray 3 (IK .i64 xs) Try.underlying22 info_one hB
      (by rw [IK_len, hx]; exact (Nat.min_eq_left hn).symm) (fun j v hj => by rw [addr_add]; exact hc j v hj) (by rw [IK_len, hx]; simp [IK, fil_len xs (Nat.zero_le L)]; omega) (IK_one _ _)
    have e0 : round xs (0 + n) = round xs 0 ++ xs := by
      rw [Nat.zero_add, ← hx, round_self]; simp [round]
    rw [IK_len, hx, fil_more (by omega) e0 hx, Nat.zero_add] at h
    exact ⟨_, h, setRow_heap _ _ _ _ _ _ hB, by simp, fun B hg => ⟨rfl, rfl, rfl, by simp, fun i hi => setRow_other _ _ _ _ (by omega)⟩⟩
set_option maxHeartbeats 800000 in
theorem repeat_any (A : Option Addr) (n cap lo up c : Nat) (xs : List Int) (w : World) (hR : Row w lo up A n (IK .i64 xs)) (hup : up ≤ w.heap.size) (hc : 1 ≤ c) (hL : n * c ≤ 1000000) (hn : n ≤ 1000000) (hc2 : c ≤ 1000000) :
    Calls Try.prog 21 #[.slice A n cap, .int .i64 c] w fun e w' => ∃ g L, e = .returned (.slice (some ⟨g, 0, none⟩) L L) ∧ Hid (L = n * c) ∧ w.heap.size ≤ g ∧ Blk w' g 3 (IK .i64 (round xs L)).toArray ∧ Below w.heap.size w w' := by
  have hx : xs.length = n := by have := hR.len; rwa [IK_len] at this
  obtain ⟨L, hLe⟩ : ∃ L, L = n * c := ⟨_, rfl⟩
  have hnL : n ≤ L := by rw [hLe]; exact Nat.le_mul_of_pos_right n (by omega)
  have hdv : Hid (xs.length ∣ L) := by rw [hx, hLe]; exact Nat.dvd_mul_right n c
  have cm := fun W => mul_small n c (by omega) (by omega) (by omega) W
  rw [← hLe] at cm hL
  have HX := hid hx
  have HLe := hid hLe
  clear hx hLe
  have mk : ∀ W : World, (Instr.makeSlice 22 (.int .i64 L) (.int .i64 L)).run Try.prog W = .ok (.slice (some ⟨W.heap.size, 0, none⟩) L L) (W.alloc (.cells (IK .i64 (List.replicate L 0)).toArray 3)) := fun W => make_any L L W (Nat.le_refl _) hL
  have B0 : Blk (w.alloc (.cells (IK .i64 (List.replicate L 0)).toArray 3)) w.heap.size 3 (IK .i64 (fil xs L 0)).toArray := by rw [fil_none]; exact Blk.new _ _ _
  obtain ⟨W1, cp1, B1, s1, b1⟩ := copy_first _ _ L n cap A lo up xs 3 B0 (hR.alloc hup _) hnL HX.out
  have hb1 := hid (((Below.refl _ _).alloc (Nat.le_refl _) _).trans (b1 w.heap.size (Nat.le_refl _)))
  clear b1 B0
  go_enter Try.func21, Try.ntmps21
  go_wp2_with fail
  refine (cm _).mono ?_
  rintro e w' ⟨rfl, rfl⟩
  go_wp2
  go_loopw [8] (fun v wr => ∃ m : Nat, m ≤ L ∧ v = .int .i64 m ∧ (xs.length ∣ m ∨ m = L) ∧ n ≤ m ∧ Blk wr w'.heap.size 3 (IK .i64 (fil xs L m)).toArray ∧ Below w'.heap.size w' wr) (fun v _ => L - (intOf v).toNat)
  case atStart => exact ⟨n, hnL, rfl, .inl (by rw [HX.out]; exact Nat.dvd_refl n), Nat.le_refl _, B1, hb1.out⟩
  case round =>
    obtain ⟨m, hm, rfl, hd, hnm, hB, hb⟩ := hrel
    have HD := hid hd
    have HB := hid hb
    have Hn := hid hnm
    clear hd hb hnm
    by_cases hlt : m < L
    · obtain ⟨k, hk⟩ : ∃ k, k = Nat.min m (L - m) := ⟨_, rfl⟩
      have hkm : k ≤ m := by rw [hk]; exact Nat.min_le_left _ _
      have hkL : m + k ≤ L := by have : k ≤ L - m := by rw [hk]; exact Nat.min_le_right _ _
                                 omega
      have hd : xs.length ∣ m := by
        rcases HD.out with h | h
        · exact h
        · omega
      have cp := fun ty => copy_twice wr.drew w'.heap.size L m k xs ty (L - m) L hB hkL hkm hd hk.symm
      have B2 : Blk (wr.drew.setRow w'.heap.size (IK .i64 (fil xs L (m + k))).toArray) w'.heap.size 3 (IK .i64 (fil xs L (m + k))).toArray := setRow_heap _ _ _ _ _ _ hB
      have hb2 : Below w'.heap.size w' (wr.drew.setRow w'.heap.size (IK .i64 (fil xs L (m + k))).toArray) := below_setRow HB.out.drew (Nat.le_refl _) _
      have hd2 : xs.length ∣ m + k ∨ m + k = L := by
        by_cases h : m ≤ L - m
        · have : k = m := by rw [hk]; exact Nat.min_eq_left h
          rw [this]
          exact .inl ((Nat.dvd_add_right hd).2 hd)
        · have : k = L - m := by rw [hk]; exact Nat.min_eq_right (by omega)
          exact .inr (by omega)
      have hpos : 0 < k := by
        have h1 : 0 < m := by
          rcases Nat.eq_zero_or_pos m with h | h
          · exfalso
            have h0 : n = 0 := by have := Hn.out; omega
            have h9 := HLe.out
            rw [h0, Nat.zero_mul] at h9
            omega
          · exact h
        have : k = m ∨ k = L - m := by
          by_cases h : m ≤ L - m
          · exact .inl (by rw [hk]; exact Nat.min_eq_left h)
          · exact .inr (by rw [hk]; exact Nat.min_eq_right (by omega))
        omega
      clear hk hd hB
      have H2 := hid hd2
      clear hd2
      go_wp2
      go_region
      go_wp2
      go_roundw
      case rel => exact ⟨m + k, by omega, by go_num, H2.out, by have := Hn.out; omega, B2, hb2⟩
      case measure => simp [intOf]; omega
    · obtain rfl : m = L := by omega
      rw [fil_all] at hB
      go_wp2
      go_ret
      exact ⟨_, m, rfl, HLe, Nat.le_refl _, hB, HB.out⟩
end Go.Proofs.Ytjnbdlbgfgdopaa
