/-
  The walk of SumLinear.
-/
import Derived.Test.YtooofipllklmgaaSumBrackets
import Derived.Test.YtooofipllklmgaaMadeBytes
import Derived.Deep.RegionHeld3
namespace Go.Proofs.Ytooofipllklmgaa
open Go.RowKit Regs

theorem ofInt8 (x : UInt8) : BitVec.ofInt 8 (x.toNat : Int) = x.toBitVec := by
  apply BitVec.eq_of_toNat_eq
  rw [BitVec.toNat_ofInt]
  have := x.toNat_lt
  show ((x.toNat : Int) % ((2 ^ 8 : Nat) : Int)).toNat = x.toNat
  omega
theorem wrap8 (x : UInt8) : IntKind.u8.wrap (x.toNat : Int) = (x.toNat : Int) := by
  have := x.toNat_lt
  simp [IntKind.wrap, IntKind.bits, IntKind.signed]
  omega
theorem xor8 (x y : UInt8) : bits .xor .u8 (x.toNat : Int) (y.toNat : Int) = ((x ^^^ y).toNat : Int) := by
  show IntKind.u8.wrap ((BitVec.ofInt 8 (x.toNat : Int) ^^^ BitVec.ofInt 8 (y.toNat : Int)).toNat : Int) = _
  rw [ofInt8, ofInt8]
  exact wrap8 (x ^^^ y)
theorem b8_xor (x y : UInt8) : B8 (x ^^^ y) = B8 x ^^^ B8 y := by
  apply BitVec.eq_of_toNat_eq
  rw [BitVec.toNat_xor]
  have hx := x.toNat_lt
  have hy := y.toNat_lt
  have hz := (x ^^^ y).toNat_lt
  simp only [B8, BitVec.toNat_ofNat]
  rw [Nat.mod_eq_of_lt (by omega), Nat.mod_eq_of_lt (by omega), Nat.mod_eq_of_lt (by omega), UInt8.toNat_xor]
/-- The exclusive or of three rows, place by place. -/
def xor3 (a b c : List UInt8) (i : Nat) : UInt8 := a.getD i 0 ^^^ b.getD i 0 ^^^ c.getD i 0
theorem three (a b c : List UInt8) (n : Nat) (ha : n ≤ a.length) (hb : n ≤ b.length) (hc : n ≤ c.length) :
    crc 0#32 (Ws (a.take n)) ^^^ crc 0#32 (Ws (b.take n)) ^^^ crc 0#32 (Ws (c.take n)) = crc 0#32 (Ws (fillb (xor3 a b c) n n)) := by
  rw [crc_three _ _ _ (by simp [Ws]; omega) (by simp [Ws]; omega), fillb_all]
  congr 1
  apply List.ext_getElem
  · simp [Ws]; omega
  · intro i h1 h2
    have hi : i < n := by simpa [Ws] using h2
    have e1 : i < a.length := by omega
    have e2 : i < b.length := by omega
    have e3 : i < c.length := by omega
    simp [Ws, xor3, b8_xor, e1, e2, e3]

theorem byte_at {w : World} {lo up : Nat} {A : Option Addr} {n : Nat} {l : List UInt8} (h : Row w lo up A n (U l)) {k : Nat} (hk : k < n) :
    ∃ b off, A = some ⟨b, off, none⟩ ∧ lo ≤ b ∧ b < up ∧ w.cell? ⟨b, off + k, none⟩ = some (.int .u8 ((l.getD k 0).toNat : Int)) := by
  obtain ⟨b, off, u, e, h1, h2, hu, hc⟩ := h.at_ hk
  have hl : k < l.length := by have := h.len; rw [U_len] at this; omega
  rw [U_get l k hl] at hu
  injection hu with hu
  subst hu
  exact ⟨b, off, e, h1, h2, by simpa [hl] using hc⟩

/-- Of, in whatever later world. -/
theorem sumof_q (w : World) (A : Option Addr) (n c lo up : Nat) (l : List UInt8) (x : BitVec 32) (hR : Row w lo up A n (U l)) (hup : up ≤ w.heap.size) (hn : n ≤ 9223372036854775807) (hx : crc 0#32 (Ws l) = x) (W : World) (h : Below w.heap.size w W) :
    Calls Try.prog 8 #[.slice A n c] W fun e w' => e = .returned (V x) ∧ Below w.heap.size w w' := by
  subst hx
  refine (sumof_any A n c lo up l W (hR.below h hup) (Nat.le_trans hup h.size) hn).mono ?_
  rintro e w' ⟨rfl, hb⟩
  exact ⟨rfl, h.trans (hb.mono h.size)⟩

theorem min_four (a b c : Nat) : ∃ n : Nat, n ≤ a ∧ n ≤ b ∧ n ≤ c ∧ n ≤ 600 ∧ ∀ (ts : Array TypeId) (t : TypeId) (W : World), (Builtin.min_ ts t #[.int .i64 (a : Int), .int .i64 (b : Int), .int .i64 (c : Int), .int .i64 600]).run Try.prog W = .ok (.int .i64 (n : Int)) W := by
  refine ⟨min (min (min a b) c) 600, by omega, by omega, by omega, by omega, fun ts t W => ?_⟩
  simp only [Builtin.min_, Builtin.min2, List.foldlM, Sem.run_bind, Sem.run_pure, Result.andThen_ok]
  congr 2
  split <;> split <;> split <;> omega

set_option maxHeartbeats 2000000 in
theorem linear_walk (A B C : Option Addr) (na ca nb cb nc cc : Nat) (a b c : List UInt8) (w : World) (hA : Row w 0 w.heap.size A na (U a)) (hB : Row w 0 w.heap.size B nb (U b)) (hC : Row w 0 w.heap.size C nc (U c)) (hna : na ≤ ca) (hnb : nb ≤ cb) (hnc : nc ≤ cc) (ha : ca ≤ maxLen) :
    Calls Try.prog 5 #[.slice A na ca, .slice B nb cb, .slice C nc cc] w fun e w' => e = .returned (.bool true) ∧ Below w.heap.size w w' := by
  unfold maxLen at ha
  have W0 := hid (lives_any w)
  go_enter Try.func5, Try.ntmps5
  go_wp2_with fail
  refine W0.out.mono ?_
  rintro e w0 ⟨rfl, hb0⟩
  obtain ⟨n, n1, n2, n3, n4, hmin⟩ := min_four na nb nc
  have hmk := fun W => make_bytes n W (by omega)
  have HB0 := hid hb0
  clear hb0
  go_wp2_with fail
  go_loopw [9] (fun i wr => ∃ k : Nat, k ≤ n ∧ i = .int .i64 k ∧ Blk wr w0.heap.size 5 (U (fillb (xor3 a b c) n k)).toArray ∧ Below w.heap.size w wr) (fun i _ => n - (intOf i).toNat)
  case atStart =>
    refine ⟨0, Nat.zero_le _, rfl, ?_, HB0.out.alloc HB0.out.size _⟩
    rw [fillb_zero]; exact Blk.new w0 _ _
  case round =>
    obtain ⟨k, hk, rfl, b1, hbel⟩ := hrel
    have B1 := hid b1
    have BB := hid hbel
    clear b1 hbel
    by_cases hlt : k < n
    · obtain ⟨pa, oa, rfl, _, la, qa⟩ := byte_at (hA.below BB.out (Nat.le_refl _)) (k := k) (by omega)
      obtain ⟨pb, ob, rfl, _, lb, qb⟩ := byte_at (hB.below BB.out (Nat.le_refl _)) (k := k) (by omega)
      obtain ⟨pc, oc, rfl, _, lc, qc⟩ := byte_at (hC.below BB.out (Nat.le_refl _)) (k := k) (by omega)
      have q1 := blk_byte B1.out k (by rw [fillb_len]; exact hlt)
      have f1 := B1.out.frozen k
      generalize (fillb (xor3 a b c) n k)[k]'(by rw [fillb_len]; exact hlt) = y1 at q1
      have HX : Hid (xor3 a b c k = a.getD k 0 ^^^ b.getD k 0 ^^^ c.getD k 0) := hid rfl
      generalize a.getD k 0 = ya at qa HX
      generalize b.getD k 0 = yb at qb HX
      generalize c.getD k 0 = yc at qc HX
      have x1 := xor8 ya yb
      have x2 := xor8 (ya ^^^ yb) yc
      generalize ya ^^^ yb = yx at x1 x2 HX
      generalize yx ^^^ yc = z at x2 HX
      have i0 : (0 : Int) ≤ (k : Int) := by omega
      have i1 : (k : Int) < (na : Int) := by omega
      have i2 : (k : Int) < (nb : Int) := by omega
      have i3 : (k : Int) < (nc : Int) := by omega
      have i4 : (k : Int) < (n : Int) := by omega
      have z0 := HB0.out.size
      have na1 : pa ≠ w0.heap.size := by omega
      have nb1 : pb ≠ w0.heap.size := by omega
      have nc1 : pc ≠ w0.heap.size := by omega
      go_wp2_with fail
      go_region_held3 (fun W => W.cell? ⟨pa, oa + k, none⟩ = some (.int .u8 (ya.toNat : Int)) ∧ W.cell? ⟨pb, ob + k, none⟩ = some (.int .u8 (yb.toNat : Int)) ∧ W.cell? ⟨pc, oc + k, none⟩ = some (.int .u8 (yc.toNat : Int)))
        (first | exact ⟨qa, qb, qc⟩ | exact ⟨(cell_set_far _ _ _ _ na1).trans qa, (cell_set_far _ _ _ _ nb1).trans qb, (cell_set_far _ _ _ _ nc1).trans qc⟩)
        (first | fail)
      go_wp2_with fail
      go_roundw
      case rel =>
        refine ⟨k + 1, by omega, by go_num, ?_, (BB.out.setCell z0 _).drew⟩
        rw [← fillb_set, HX.out]
        exact B1.out.set k _
      case measure => simp [intOf]; omega
    · have HK : Hid (k = n) := hid (by omega)
      have b1 := B1.out
      rw [HK.out] at b1
      have r1 := sumof_q wr A n ca 0 w.heap.size (a.take n) _ (by rw [← U_take]; exact (hA.below BB.out (Nat.le_refl _)).take n1) BB.out.size (by omega) rfl
      have r2 := sumof_q wr B n cb 0 w.heap.size (b.take n) _ (by rw [← U_take]; exact (hB.below BB.out (Nat.le_refl _)).take n2) BB.out.size (by omega) rfl
      have r3 := sumof_q wr C n cc 0 w.heap.size (c.take n) _ (by rw [← U_take]; exact (hC.below BB.out (Nat.le_refl _)).take n3) BB.out.size (by omega) rfl
      have r4 := sumof_q wr (some ⟨w0.heap.size, 0, none⟩) n n w0.heap.size (w0.heap.size + 1) _ _ (row_blk b1 (fillb_len _ _ _)) B1.out.lt (by omega) rfl
      have hl1 : a.length = na := by have := hA.len; rwa [U_len] at this
      have hl2 : b.length = nb := by have := hB.len; rwa [U_len] at this
      have hl3 : c.length = nc := by have := hC.len; rwa [U_len] at this
      have h3 := three a b c n (by omega) (by omega) (by omega)
      rw [← h3] at r4
      clear b1 hl1 hl2 hl3 h3
      generalize crc 0#32 (Ws (a.take n)) = xa at *
      generalize crc 0#32 (Ws (b.take n)) = xb at *
      generalize crc 0#32 (Ws (c.take n)) = xc at *
      have x1 := xor_word xa xb
      have x2 := xor_word (xa ^^^ xb) xc
      generalize xa ^^^ xb = xx at *
      generalize xx ^^^ xc = xy at *
      have R1 := fun W h => hid (r1 W h)
      have R2 := fun W h => hid (r2 W h)
      have R3 := fun W h => hid (r3 W h)
      have R4 := fun W h => hid (r4 W h)
      clear r1 r2 r3 r4
      have i0 : (0 : Int) ≤ (n : Int) := by omega
      have i1 : (n : Int) ≤ (na : Int) := by omega
      have i2 : (n : Int) ≤ (nb : Int) := by omega
      have i3 : (n : Int) ≤ (nc : Int) := by omega
      have j1 : (n : Int) ≤ (ca : Int) := by omega
      have j2 : (n : Int) ≤ (cb : Int) := by omega
      have j3 : (n : Int) ≤ (cc : Int) := by omega
      have hq : Below wr.heap.size wr wr.drew := (Below.refl _ _).drew
      go_wp2_with fail
      go_region_held3 (fun _ => True) (exact trivial)
        (first
          | (go_at_call 8; first
              | refine (R1 _ hq).out.mono ?_; rintro e w5 ⟨rfl, hq⟩
              | refine (R2 _ hq).out.mono ?_; rintro e w6 ⟨rfl, hq⟩
              | refine (R3 _ hq).out.mono ?_; rintro e w7 ⟨rfl, hq⟩
              | refine (R4 _ hq).out.mono ?_; rintro e w8 ⟨rfl, hq⟩))
      have hq' := BB.out.trans (hq.mono BB.out.size)
      clear hq
      go_wp2_with fail
      go_ret
      exact ⟨rfl, hq'⟩
end Go.Proofs.Ytooofipllklmgaa
