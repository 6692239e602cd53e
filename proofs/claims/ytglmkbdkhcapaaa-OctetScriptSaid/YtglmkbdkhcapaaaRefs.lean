/-
  Contracts of the reference's Reader: New, take, Number, Signed, Bytes, Left, End, of a reader that New made.
-/
import Derived.Test.YtglmkbdkhcapaaaReader
import Derived.Deep.RegionLaw
import Derived.Deep.RegionHeld3
namespace Go.Proofs.Ytglmkbdkhcapaaa
open Go.RowKit

/-- Block g is a reader of the reference: l is what is left, er its error; the bytes lie from lo on, below g. -/
def RR (w : World) (lo g : Nat) (l : List UInt8) (er : Int) : Prop :=
  ∃ A n c at_ L0, Blk w g 46 #[.slice A n c, .int .i64 (at_ : Nat), .int .i64 er] ∧ Row w lo g A n (U L0) ∧ (A = none → c = 0) ∧ n ≤ c ∧ n ≤ 140737488350000 ∧ at_ ≤ n ∧ l = L0.drop at_

theorem RR.lt {w : World} {lo g : Nat} {l : List UInt8} {er : Int} (h : RR w lo g l er) : g < w.heap.size := by
  obtain ⟨_, _, _, _, _, hB, _⟩ := h
  exact hB.lt
theorem RR.below {w w' : World} {lo g B : Nat} {l : List UInt8} {er : Int} (h : RR w lo g l er) (hb : Below B w w') (hg : g < B) : RR w' lo g l er := by
  obtain ⟨A, n, c, t, L, hB, hr, r⟩ := h
  exact ⟨A, n, c, t, L, hB.below hb hg, hr.below hb (by omega), r⟩
theorem RR.grown {w w' : World} {lo g g' : Nat} {l : List UInt8} {er : Int} (h : RR w lo g l er) (hb : w.grownBy w' (some g')) (hne : g' ≠ g) (hr : g' < lo ∨ g < g') : RR w' lo g l er := by
  have hg := h.lt
  obtain ⟨A, n, c, t, L, hB, hR, r⟩ := h
  exact ⟨A, n, c, t, L, hB.grown hb (fun e => hne (by injection e with e; exact e.symm)), hR.grown hb (by omega) (fun k hk => by injection hk with hk; omega), r⟩

/-- What the reference's New hands back. -/
def RMade (w : World) (l : List UInt8) (e : Ending) (w' : World) : Prop :=
  ∃ g, e = .returned (.pointer (some ⟨g, 0, none⟩)) ∧ w.heap.size ≤ g ∧ g < w'.heap.size ∧ RR w' w.heap.size g l 0 ∧ Below w.heap.size w w'

theorem rnew_any (A : Option Addr) (n c lo up : Nat) (l : List UInt8) (w : World) (h : Row w lo up A n (U l)) (hA : A = none → c = 0) (hup : up ≤ w.heap.size) (hn : n ≤ 140737488350000) :
    Calls Try.prog 25 #[.slice A n c] w (RMade w l) := by
  obtain ⟨i0, hi, hz0, hz1, hz2⟩ := info_parts info5
  go_enter Try.func25, Try.ntmps25
  go_wp2_with (at_builtin; refine wpList_append_row _ rfl _ _ 24 rfl w.heap.size 5 i0 (.int .u8 0) 1 Try.underlying24 hi hz0 hz1 hz2 rfl (.slice (some ⟨w.heap.size, 0, none⟩) 0 0) 0 [] rfl (World.ownsRow_made w #[] 0 (Nat.le_refl _) (by decide) rfl) lo up A n c rfl hA (U l) (h.alloc hup _) (U_one l) (by unfold maxLen; omega) (by omega) (by simp) ?_; intro v' w1 hown hgrow hat; obtain ⟨A1, c1, rfl, hA1, hc1⟩ := own_shape hown; have HA1 := hid hA1; clear hA1 hat)
  rw [Nat.zero_add, List.nil_append] at hown
  have hb : Below w.heap.size w w1 := ((Below.refl _ _).alloc (Nat.le_refl _) _).grown hgrow (by simp) (by intro k hk; simp [Value.ownBlock] at hk; omega)
  have hz := hb.size
  go_ret
  rw [Nat.zero_add] at hc1
  exact ⟨w1.heap.size, rfl, hz, by simp, ⟨A1, n, c1, 0, l, Blk.new w1 _ _, (Row.of_own hown).alloc (Nat.le_refl _) _, HA1.out, hc1, hn, Nat.zero_le _, rfl⟩, hb.alloc hz _⟩

theorem rleft_made (w : World) (lo g : Nat) (l : List UInt8) (er : Int) (h : RR w lo g l er) : Calls Try.prog 31 #[.pointer (some ⟨g, 0, none⟩)] w fun e w' => e = .returned (.int .i64 l.length) ∧ ∃ k, w' = w.drewN k := by
  obtain ⟨A, n, c, t, L, hB, hR, hA, hnc, hn, ht, hl⟩ := h
  have c0 : w.cell? ⟨g, 0, none⟩ = some (.slice A n c) := hB.cell 0
  have c1 : w.cell? ⟨g, 1, none⟩ = some (.int .i64 (t : Nat)) := hB.cell 1
  have HE : Hid ((n : Int) - (t : Int) = (l.length : Int)) := hid (by have := hR.len; rw [U_len] at this; rw [hl, List.length_drop, this]; omega)
  clear hl
  go_enter Try.func31, Try.ntmps31
  go_wp2
  go_quiet (fail)
  go_wp2
  go_ret
  exact ⟨ret_int HE.out, _, rfl⟩

theorem rend_made (w : World) (lo g : Nat) (l : List UInt8) (er : Int) (h : RR w lo g l er) : Calls Try.prog 32 #[.pointer (some ⟨g, 0, none⟩)] w fun e w' => e = .returned (.int .i64 (if er ≠ 0 then er else if 0 < l.length then 4 else 0)) ∧ ∃ k, w' = w.drewN k := by
  have hL := rleft_made w lo g l er h
  have HL := hid hL
  clear hL
  obtain ⟨A, n, c, t, L, hB, hR, hA, hnc, hn, ht, hl⟩ := h
  have c2 : w.cell? ⟨g, 2, none⟩ = some (.int .i64 er) := hB.cell 2
  clear hl hA
  by_cases he : er = 0
  · subst he
    by_cases hp : 0 < l.length
    all_goals
      go_enter Try.func32, Try.ntmps32
      go_wp2_with (go_at_call 31; refine HL.out.mono ?_; rintro e w' ⟨rfl, k, rfl⟩)
      go_ret
      exact ⟨by simp, _, rfl⟩
  · have hb : (er == 0) = false := by simpa using he
    go_enter Try.func32, Try.ntmps32
    go_wp2_with (go_at_call 31; refine HL.out.mono ?_; rintro e w' ⟨rfl, k, rfl⟩)
    go_ret
    exact ⟨by simp, 0, rfl⟩

/-- What the reference's take and Bytes hand back: bytes in memory of their own; of what was there only the reader's block has changed. -/
def RGave (w : World) (lo g : Nat) (t : List UInt8 × List UInt8 × Int) (e : Ending) (w' : World) : Prop :=
  ∃ A n c, e = .returned (.slice A n c) ∧ Hid (t.1.length = n) ∧ Hid (A = none → c = 0) ∧ w'.ownsRow w.heap.size 5 1 (.slice A n c) n (U t.1) ∧ n ≤ 140737488350000 ∧ RR w' lo g t.2.1 t.2.2 ∧ w.grownBy w' (some g)

theorem rr_set2 {w : World} {lo g : Nat} {A : Option Addr} {n c t : Nat} {L l : List UInt8} {er : Int} (x : Int) (hB : Blk w g 46 #[.slice A n c, .int .i64 (t : Nat), .int .i64 er]) (hR : Row w lo g A n (U L)) (hA : A = none → c = 0) (hnc : n ≤ c) (hn : n ≤ 140737488350000) (ht : t ≤ n) (hl : l = L.drop t) :
    RR (w.setCell ⟨g, 2, none⟩ (.int .i64 x)) lo g l x :=
  ⟨A, n, c, t, L, hB.set 2 (.int .i64 x), hR.grown (only_set (World.grownBy.refl _ _) 2 _) (by have := hB.lt; omega) (fun g' h => .inr (by injection h with h; omega)), hA, hnc, hn, ht, hl⟩

set_option maxHeartbeats 1600000 in
theorem rtake_err (w : World) (lo g : Nat) (l : List UInt8) (er n : Int) (h : RR w lo g l er) (he : er ≠ 0) :
    Calls Try.prog 36 #[.pointer (some ⟨g, 0, none⟩), .int .i64 n] w (RGave w lo g ([], l, er)) := by
  have H := hid h
  obtain ⟨A, m, c, t, L, hB, hR, hA, hnc, hn, ht, hl⟩ := h
  have c2 : w.cell? ⟨g, 2, none⟩ = some (.int .i64 er) := hB.cell 2
  have hb : (er == 0) = false := by simpa using he
  have hb' : (er != 0) = true := by simpa using he
  clear hl hA hR hB
  go_enter Try.func36, Try.ntmps36
  go_wp2
  go_quiet (fail)
  go_wp2
  go_ret
  exact ⟨none, 0, 0, rfl, hid rfl, hid (fun _ => rfl), World.ownsRow_nil _ _ _ _, by omega, H.out, only_drewN (World.grownBy.refl _ _) _⟩

set_option maxHeartbeats 1600000 in
theorem rtake_neg (w : World) (lo g : Nat) (l : List UInt8) (n : Int) (h : RR w lo g l 0) (hn0 : n < 0) :
    Calls Try.prog 36 #[.pointer (some ⟨g, 0, none⟩), .int .i64 n] w (RGave w lo g ([], l, 2)) := by
  obtain ⟨A, m, c, t, L, hB, hR, hA, hnc, hn, ht, hl⟩ := h
  have c2 : w.cell? ⟨g, 2, none⟩ = some (.int .i64 0) := hB.cell 2
  have f2 := hB.frozen 2
  have H2 := hid (rr_set2 2 hB hR hA hnc hn ht hl)
  clear hl hA hR hB
  go_enter Try.func36, Try.ntmps36
  go_wp2
  go_quiet (fail)
  go_wp2
  go_ret
  exact ⟨none, 0, 0, rfl, hid rfl, hid (fun _ => rfl), World.ownsRow_nil _ _ _ _, by omega, H2.out, only_drewN (only_set (World.grownBy.refl _ _) 2 _) _⟩

set_option maxHeartbeats 1600000 in
theorem rtake_more (w : World) (lo g : Nat) (l : List UInt8) (n : Int) (h : RR w lo g l 0) (hn0 : (l.length : Int) < n) :
    Calls Try.prog 36 #[.pointer (some ⟨g, 0, none⟩), .int .i64 n] w (RGave w lo g ([], l, 5)) := by
  obtain ⟨A, m, c, t, L, hB, hR, hA, hnc, hn, ht, hl⟩ := h
  have c0 : w.cell? ⟨g, 0, none⟩ = some (.slice A m c) := hB.cell 0
  have c1 : w.cell? ⟨g, 1, none⟩ = some (.int .i64 (t : Nat)) := hB.cell 1
  have c2 : w.cell? ⟨g, 2, none⟩ = some (.int .i64 0) := hB.cell 2
  have f2 := hB.frozen 2
  have H2 := hid (rr_set2 5 hB hR hA hnc hn ht hl)
  have hlt : (m : Int) - (t : Int) < n := by have := hR.len; rw [U_len] at this; rw [hl, List.length_drop, this] at hn0; omega
  have hpos : 0 ≤ n := by omega
  clear hl hA hR hB hn0
  go_enter Try.func36, Try.ntmps36
  go_wp2
  go_quiet (fail)
  go_wp2
  go_ret
  exact ⟨none, 0, 0, rfl, hid rfl, hid (fun _ => rfl), World.ownsRow_nil _ _ _ _, by omega, H2.out, only_set (only_drewN (World.grownBy.refl _ _) _) 2 _⟩

set_option maxHeartbeats 1600000 in
theorem rtake_ok (w : World) (lo g : Nat) (l : List UInt8) (n : Nat) (h : RR w lo g l 0) (hn0 : n ≤ l.length) :
    Calls Try.prog 36 #[.pointer (some ⟨g, 0, none⟩), .int .i64 n] w (RGave w lo g (l.take n, l.drop n, 0)) := by
  obtain ⟨i0, hi, hz0, hz1, hz2⟩ := info_parts info5
  obtain ⟨A, m, c, t, L, hB, hR, hA, hnc, hn, ht, hl⟩ := h
  have c0 : w.cell? ⟨g, 0, none⟩ = some (.slice A m c) := hB.cell 0
  have c1 : w.cell? ⟨g, 1, none⟩ = some (.int .i64 (t : Nat)) := hB.cell 1
  have c2 : w.cell? ⟨g, 2, none⟩ = some (.int .i64 0) := hB.cell 2
  have f1 := hB.frozen 1
  have hlm : t + n ≤ m := by have := hR.len; rw [U_len] at this; rw [hl, List.length_drop, this] at hn0; omega
  have hlt : ¬ (m : Int) - (t : Int) < (n : Int) := by omega
  have HA := hid hA
  have HL := hid hl
  clear hl hA
  have hg := hB.lt
  go_enter Try.func36, Try.ntmps36
  go_wp2
  go_quiet (fail)
  go_wp2
  rename_i nq _ _ _
  have hgr2 : w.grownBy ((w.drewN nq).setCell ⟨g, 1, none⟩ (.int .i64 ((t : Int) + (n : Int)))) (some g) := only_set (only_drewN (World.grownBy.refl _ _) nq) 1 _
  have hB2 : Blk ((w.drewN nq).setCell ⟨g, 1, none⟩ (.int .i64 ((t : Int) + (n : Int)))) g 46 #[.slice A m c, .int .i64 ((t : Int) + (n : Int)), .int .i64 0] := (hB.drewN nq).set 1 _
  have hs2 : ((w.drewN nq).setCell ⟨g, 1, none⟩ (.int .i64 ((t : Int) + (n : Int)))).heap.size = w.heap.size := by simp [World.setCell]
  generalize ((w.drewN nq).setCell ⟨g, 1, none⟩ (.int .i64 ((t : Int) + (n : Int)))) = W at *
  have hR2 := hR.grown hgr2 (by omega) (fun g' h => .inr (by injection h with h; omega))
  have hg2 : g < W.heap.size := by omega
  have HS2 := hid hs2
  have d0 : W.cell? ⟨g, 0, none⟩ = some (.slice A m c) := hB2.cell 0
  have d1 : W.cell? ⟨g, 1, none⟩ = some (.int .i64 ((t : Int) + (n : Int))) := hB2.cell 1
  clear c0 c1 c2 f1 hs2 hR hB
  have hbase : w.heap.size ≤ W.heap.size := by rw [HS2.out]; exact Nat.le_refl _
  have o1 : 0 + n ≤ maxLen := by unfold maxLen; omega
  have o2 : (0 + n) * 1 ≤ 140737488355328 := by omega
  have o3 : n ≤ m - t := by omega
  have o4 : g ≤ W.heap.size := by omega
  have hd2 := (hR2.drop ht hnc).take o3
  rw [U_drop, U_take, ← HL.out] at hd2
  have HA2 : Hid ((if c = t then A else Option.map (fun x => x.add t) A) = none → c - t = 0) := hid (by
    intro h
    by_cases hct : c = t
    · omega
    · rw [if_neg hct] at h
      have : A = none := by simpa using h
      have := HA.out this
      omega)
  have q1 : (0 : Int) ≤ (t : Int) + (n : Int) := by omega
  have q2 : (t : Int) + (n : Int) ≤ (c : Int) := by omega
  have q5 : (t : Int) ≤ max ((t : Int) + (n : Int)) 0 := by omega
  have q3 : IntKind.i64.wrap (t : Int) = (t : Int) := IntWalk.i64_in _ (by omega)
  have q6 : ((t : Int) + (n : Int)).toNat = t + n := by omega
  have HW := hid hgr2
  have HB2 := hid hB2
  have HR2 := hid hR2
  clear hgr2 hB2 hR2
  go_region_held3 (fun w' => w'.cell? ⟨g, 0, none⟩ = some (.slice A m c) ∧ w'.cell? ⟨g, 1, none⟩ = some (.int .i64 ((t : Int) + (n : Int))))
    (first | go_keep | (go_split_ands; refine ⟨?_, ?_⟩ <;> (rw [hgrow.cell_far _ (by simp; omega) (by simp [Value.ownBlock]; omega)]; assumption)))
    ((refine step_append_row _ rfl (.tmp 53) (.tmp 68) 24 rfl W.heap.size 5 i0 (.int .u8 0) 1 Try.underlying24 hi hz0 hz1 hz2 rfl (.slice (some ⟨W.heap.size, 0, none⟩) 0 0) 0 [] rfl (by exact World.ownsRow_made W #[] 0 (Nat.le_refl _) (by decide) rfl) lo g (if c = t then A else Option.map (fun x => x.add t) A) n (c - t) rfl HA2.out (U (l.take n)) (by exact hd2.alloc o4 _) (U_one _) o1 o2 (by simp) ?_; intro v' w1 hown hgrow hat))
  clear q3 q6 q5
  have hgrow := only_undrew hgrow
  have hgr3 : w.grownBy w1 (some g) := HW.out.trans (only_of_below (((Below.refl _ _).alloc (Nat.le_refl _) _).grown hgrow (by simp) (by intro j hj; simp [Value.ownBlock] at hj; omega)) _)
  have hB3 : Blk w1 g 46 #[.slice A m c, .int .i64 ((t : Int) + (n : Int)), .int .i64 0] := (HB2.out.alloc _).grown hgrow (by intro h; simp [Value.ownBlock] at h; omega)
  have hR3 : Row w1 lo g A m (U L) := (HR2.out.alloc o4 _).grown hgrow (by simp; omega) (by intro j hj; simp [Value.ownBlock] at hj; omega)
  rw [Nat.zero_add, List.nil_append, HS2.out] at hown
  obtain ⟨A4, c4, rfl, hA4, hc4⟩ := own_shape hown
  have HA4 := hid hA4
  have HF : RGave w lo g (l.take n, l.drop n, 0) (.returned (.slice A4 n c4)) w1 := by
    refine ⟨A4, n, c4, rfl, hid (by show (l.take n).length = n; rw [List.length_take]; omega), HA4, hown, by omega, ⟨A, m, c, t + n, L, ?_, hR3, HA.out, hnc, hn, by omega, ?_⟩, hgr3⟩
    · rw [Int.natCast_add]; exact hB3
    · show l.drop n = _; rw [HL.out, List.drop_drop]
  clear hA4 hat hgrow hd2 hown hB3 hR3 hgr3
  go_wp2
  all_goals
    go_ret
    exact HF

/-- All of the reference's take. -/
theorem rtake_any (w : World) (lo g : Nat) (l : List UInt8) (er n most : Int) (hm : n ≤ most) (h : RR w lo g l er) :
    Calls Try.prog 36 #[.pointer (some ⟨g, 0, none⟩), .int .i64 n] w (RGave w lo g (tk l er n most)) := by
  by_cases he : er = 0
  · subst he
    by_cases hn : n < 0
    · have e : tk l 0 n most = ([], l, 2) := by
        have hw : why n most l.length = 2 := by unfold why; rw [if_pos (.inl hn)]
        unfold tk; rw [if_neg (by simp), if_neg (by omega), hw]
      rw [e]
      exact rtake_neg w lo g l n h hn
    · obtain ⟨k, rfl⟩ := Int.eq_ofNat_of_zero_le (show 0 ≤ n by omega)
      by_cases hl : k ≤ l.length
      · have e : tk l 0 k most = (l.take k, l.drop k, 0) := by
          have hw : why k most l.length = 0 := by unfold why; rw [if_neg (by omega), if_neg (by omega)]
          unfold tk; rw [if_neg (by simp), if_pos hw, Int.toNat_natCast]
        rw [e]
        exact rtake_ok w lo g l k h hl
      · have e : tk l 0 k most = ([], l, 5) := by
          have hw : why k most l.length = 5 := by unfold why; rw [if_neg (by omega), if_pos (by omega)]
          unfold tk; rw [if_neg (by simp), if_neg (by omega), hw]
        rw [e]
        exact rtake_more w lo g l k h (by omega)
  · have e : tk l er n most = ([], l, er) := by unfold tk; rw [if_pos he]
    rw [e]
    exact rtake_err w lo g l er n h he

theorem rbytes_any (w : World) (lo g : Nat) (l : List UInt8) (er n most : Int) (hm : n ≤ most) (h : RR w lo g l er) :
    Calls Try.prog 30 #[.pointer (some ⟨g, 0, none⟩), .int .i64 n] w (RGave w lo g (tk l er n most)) := by
  have H := hid (rtake_any w lo g l er n most hm h)
  go_enter Try.func30, Try.ntmps30
  go_wp2_with fail
  refine H.out.mono ?_
  rintro e w1 ⟨A, m, c, rfl, r⟩
  have HR := hid r
  clear r
  go_wp2
  go_ret
  exact ⟨A, m, c, rfl, HR.out⟩

/-- What the reference's Number, Signed hand back. -/
def RTold (w : World) (lo g : Nat) (v : Value) (t : List UInt8 × List UInt8 × Int) (e : Ending) (w' : World) : Prop :=
  e = .returned v ∧ RR w' lo g t.2.1 t.2.2 ∧ w.grownBy w' (some g)

set_option maxHeartbeats 800000 in
theorem rnumber_any (w : World) (lo g : Nat) (l : List UInt8) (er n : Int) (h : RR w lo g l er) :
    Calls Try.prog 27 #[.pointer (some ⟨g, 0, none⟩), .int .i64 n] w (RTold w lo g (.int .u64 (num (tk l er n 8).1)) (tk l er n 8)) := by
  have HT : Hid ((tk l er n 8).1.take 8 = (tk l er n 8).1) := tk_len8 l er n
  have c2 : w.cell? ⟨g, 2, none⟩ = some (.int .i64 er) := by
    obtain ⟨A, m, c, t, L, hB, _⟩ := h
    exact hB.cell 2
  by_cases hb : er = 0 ∧ 8 < n
  · obtain ⟨rfl, hn8⟩ := hb
    have e : tk l 0 n 8 = ([], l, 2) := by
      have hw : why n 8 l.length = 2 := by unfold why; rw [if_pos (.inr hn8)]
      unfold tk; rw [if_neg (by simp), if_neg (by omega), hw]
    rw [e]
    obtain ⟨A, m, c, t, L, hB, hR, hA, hnc, hn, ht, hl⟩ := h
    have f2 := hB.frozen 2
    have H2 := hid (rr_set2 2 hB hR hA hnc hn ht hl)
    have HG : Hid (w.grownBy (w.setCell ⟨g, 2, none⟩ (.int .i64 2)) (some g)) := only_set (World.grownBy.refl _ _) 2 _
    clear hl hA hR hB HT
    go_enter Try.func27, Try.ntmps27
    go_wp2_with fail
    refine (rtake_err _ lo g l 2 _ H2.out (by decide)).mono ?_
    rintro e w1 ⟨A1, n1, c1, rfl, hl1, hA1, hown1, hn1, hrr1, hgr1⟩
    have hr1 := Row.of_own hown1
    have hgr : w.grownBy w1 (some g) := HG.out.trans hgr1
    clear hown1 hgr1
    go_wp2_with fail
    refine (rof_any A1 n1 c1 _ _ _ _ hr1 (by omega)).mono ?_
    rintro e w2 ⟨rfl, rfl⟩
    go_wp2
    go_ret
    exact ⟨rfl, hrr1, hgr⟩
  · have H := hid (fun (hm : n ≤ 8) => rtake_any w lo g l er n 8 hm h)
    have HE := hid (fun (he : er ≠ 0) => rtake_err w lo g l er n h he)
    by_cases he : er = 0
    · subst he
      have hn8 : n ≤ 8 := by omega
      clear hb
      go_enter Try.func27, Try.ntmps27
      go_wp2_with fail
      refine (H.out hn8).mono ?_
      rintro e w1 ⟨A1, n1, c1, rfl, hl1, hA1, hown1, hn1, hrr1, hgr1⟩
      have hr1 := Row.of_own hown1
      clear hown1
      go_wp2_with fail
      refine (rof_any A1 n1 c1 _ _ _ _ hr1 (by omega)).mono ?_
      rintro e w2 ⟨rfl, rfl⟩
      go_wp2
      go_ret
      exact ⟨by rw [HT.out]; rfl, hrr1, hgr1⟩
    · have hbe : (er == 0) = false := by simpa using he
      have e : tk l er n 8 = ([], l, er) := by unfold tk; rw [if_pos he]
      rw [e]
      have HN := hid he
      clear he hb HT
      go_enter Try.func27, Try.ntmps27
      go_wp2_with fail
      refine (HE.out HN.out).mono ?_
      rintro e w1 ⟨A1, n1, c1, rfl, hl1, hA1, hown1, hn1, hrr1, hgr1⟩
      have hr1 := Row.of_own hown1
      clear hown1
      go_wp2_with fail
      refine (rof_any A1 n1 c1 _ _ _ _ hr1 (by omega)).mono ?_
      rintro e w2 ⟨rfl, rfl⟩
      go_wp2
      go_ret
      exact ⟨rfl, hrr1, hgr1⟩

theorem rrsigned_any (w : World) (lo g : Nat) (l : List UInt8) (er n : Int) (h : RR w lo g l er) :
    Calls Try.prog 29 #[.pointer (some ⟨g, 0, none⟩), .int .i64 n] w (RTold w lo g (.int .i64 (sgn (num (tk l er n 8).1) n)) (tk l er n 8)) := by
  have HB : Hid ((num (tk l er n 8).1 : Int) ≤ 18446744073709551615) := by have := num_take8 (tk l er n 8).1; rw [tk_len8] at this; exact this
  go_enter Try.func29, Try.ntmps29
  go_wp2_with fail
  refine (rnumber_any _ lo g l er _ h).mono ?_
  rintro e w1 ⟨rfl, hrd, hgr⟩
  go_wp2_with fail
  refine (rsigned_any _ _ _ (by omega) HB.out).mono ?_
  rintro e w' ⟨rfl, rfl⟩
  go_wp2
  go_ret
  exact ⟨rfl, hrd, hgr⟩
end Go.Proofs.Ytglmkbdkhcapaaa
