/-
  Contracts of octet's Reader: New, take, Number, Signed, Bytes, Left, Err, End, of a reader that New made, and of the nil one.
-/
import Derived.Test.YtcaleaecjoafhaaNums
namespace Go.Proofs.Ytcaleaecjoafhaa
open Go.RowKit

/-- Block g is a reader that New made, l is what is left, er its error; the bytes lie from lo on, below g. -/
def Rd (w : World) (lo g : Nat) (l : List UInt8) (er : Int) : Prop :=
  ∃ A n c, Blk w g 76 #[.bool true, .slice A n c, .int .i64 er] ∧ Row w lo g A n (U l) ∧ (A = none → c = 0) ∧ n ≤ c ∧ n ≤ 140737488350000

theorem unmade_nil (w : World) : Calls Try.prog 68 #[.pointer none] w fun e w' => e = .returned (.bool true) ∧ w = w' := by
  go_enter Try.func68, Try.ntmps68
  go_wp2
  go_ret
  exact ⟨rfl, rfl⟩
theorem unmade_made (w : World) (g : Nat) (hc : w.cell? ⟨g, 0, none⟩ = some (.bool true)) : Calls Try.prog 68 #[.pointer (some ⟨g, 0, none⟩)] w fun e w' => e = .returned (.bool false) ∧ w = w' := by
  go_enter Try.func68, Try.ntmps68
  go_wp2
  go_ret
  exact ⟨rfl, rfl⟩
theorem err_nil (w : World) : Calls Try.prog 66 #[.pointer none] w fun e w' => e = .returned (.int .i64 1) ∧ w = w' := by
  go_enter Try.func66, Try.ntmps66
  go_wp2_with (go_at_call 68; refine (unmade_nil _).mono ?_; rintro e w' ⟨rfl, rfl⟩)
  go_ret
  exact ⟨rfl, rfl⟩
theorem err_made (w : World) (g : Nat) (er : Int) (hc : w.cell? ⟨g, 0, none⟩ = some (.bool true)) (h2 : w.cell? ⟨g, 2, none⟩ = some (.int .i64 er)) : Calls Try.prog 66 #[.pointer (some ⟨g, 0, none⟩)] w fun e w' => e = .returned (.int .i64 er) ∧ w = w' := by
  go_enter Try.func66, Try.ntmps66
  go_wp2_with (go_at_call 68; refine (unmade_made _ _ hc).mono ?_; rintro e w' ⟨rfl, rfl⟩)
  go_ret
  exact ⟨rfl, rfl⟩
/-- Why n bytes of len can not be taken, most being the most that may be asked. -/
def why (n most : Int) (len : Nat) : Int := if n < 0 ∨ most < n then 2 else if (len : Int) < n then 5 else 0

theorem refusal_made (w : World) (g : Nat) (A : Option Addr) (len c : Nat) (n most : Int) (h1 : w.cell? ⟨g, 1, none⟩ = some (.slice A len c)) :
    Calls Try.prog 67 #[.pointer (some ⟨g, 0, none⟩), .int .i64 n, .int .i64 most] w fun e w' => e = .returned (.int .i64 (why n most len)) ∧ w = w' := by
  by_cases ha : n < 0
  · have HW : Hid (why n most len = 2) := show why n most len = 2 by unfold why; rw [if_pos (.inl ha)]
    go_enter Try.func67, Try.ntmps67
    go_wp2
    go_ret
    exact ⟨by rw [HW.out]; rfl, rfl⟩
  · have ha' : 0 ≤ n := by omega
    by_cases hb : most < n
    · have HW : Hid (why n most len = 2) := show why n most len = 2 by unfold why; rw [if_pos (.inr hb)]
      go_enter Try.func67, Try.ntmps67
      go_wp2
      go_ret
      exact ⟨by rw [HW.out]; rfl, rfl⟩
    · have hb' : n ≤ most := by omega
      by_cases hd : (len : Int) < n
      · have HW : Hid (why n most len = 5) := show why n most len = 5 by unfold why; rw [if_neg (by omega), if_pos hd]
        go_enter Try.func67, Try.ntmps67
        go_wp2
        go_ret
        exact ⟨by rw [HW.out]; rfl, rfl⟩
      · have hd' : n ≤ (len : Int) := by omega
        have HW : Hid (why n most len = 0) := show why n most len = 0 by unfold why; rw [if_neg (by omega), if_neg hd]
        go_enter Try.func67, Try.ntmps67
        go_wp2
        go_ret
        exact ⟨by rw [HW.out]; rfl, rfl⟩

theorem take_nil (n most : Int) (w : World) : Calls Try.prog 65 #[.pointer none, .int .i64 n, .int .i64 most] w fun e w' => e = .returned (.slice none 0 0) ∧ w = w' := by
  go_enter Try.func65, Try.ntmps65
  go_wp2_with (go_at_call 66; refine (err_nil _).mono ?_; rintro e w' ⟨rfl, rfl⟩)
  go_ret
  exact ⟨rfl, rfl⟩

/-- What a reader with l left and the error er takes by n, most being the most: the bytes, what is left, its error. -/
def tk (l : List UInt8) (er n most : Int) : List UInt8 × List UInt8 × Int :=
  if er ≠ 0 then ([], l, er) else if why n most l.length = 0 then (l.take n.toNat, l.drop n.toNat, 0) else ([], l, why n most l.length)

/-- What take hands back: a slice of the reader's own bytes; only the reader's block has changed. -/
def Took (w : World) (lo g : Nat) (t : List UInt8 × List UInt8 × Int) (e : Ending) (w' : World) : Prop :=
  ∃ A n c, e = .returned (.slice A n c) ∧ Hid (t.1.length = n) ∧ n ≤ 140737488350000 ∧ Hid (A = none → c = 0) ∧ Row w' lo g A n (U t.1) ∧ Rd w' lo g t.2.1 t.2.2 ∧ w.grownBy w' (some g) ∧ w'.heap.size = w.heap.size

theorem took_ok {w : World} {lo g : Nat} {l : List UInt8} {A A' : Option Addr} {len c c' cr m : Nat} (hB : Blk w g 76 #[.bool true, .slice A len c, .int .i64 0]) (hR : Row w lo g A len (U l)) (hA : A = none → c = 0) (hlc : len ≤ c) (hlen : len ≤ 140737488350000) (hml : m ≤ len)
    (hA' : A' = if c = m then A else A.map (·.add m)) (hc' : c' = c - m) (hcr : A = none → cr = 0) :
    Took w lo g (l.take m, l.drop m, 0) (.returned (.slice A m cr)) ((w.setCell ⟨g, 2, none⟩ (.int .i64 0)).setCell ⟨g, 1, none⟩ (.slice A' (len - m) c')) := by
  have hg := hB.lt
  have hgr : w.grownBy ((w.setCell ⟨g, 2, none⟩ (.int .i64 0)).setCell ⟨g, 1, none⟩ (.slice A' (len - m) c')) (some g) := only_set (only_set (World.grownBy.refl _ _) 2 _) 1 _
  have hll : l.length = len := by have := hR.len; rwa [U_len] at this
  have hR' := hR.grown hgr (by omega) (fun g' h => .inr (by injection h with h; omega))
  have ht := hR'.take hml
  rw [U_take] at ht
  have hd := hR'.drop hml hlc
  rw [U_drop, ← hA'] at hd
  refine ⟨A, m, cr, rfl, show (l.take m).length = m by rw [List.length_take]; omega, by omega, hcr, ht, ⟨A', len - m, c', ?_, hd, ?_, by omega, by omega⟩, hgr, by simp [World.setCell]⟩
  · exact (hB.set 2 (.int .i64 0)).set 1 (.slice A' (len - m) c')
  · intro h
    by_cases hcm : c = m
    · omega
    · rw [hA', if_neg hcm] at h
      have : A = none := by simpa using h
      have := hA this
      omega

set_option maxHeartbeats 800000 in
theorem take_made (w : World) (lo g : Nat) (l : List UInt8) (er n most : Int) (h : Rd w lo g l er) :
    Calls Try.prog 65 #[.pointer (some ⟨g, 0, none⟩), .int .i64 n, .int .i64 most] w (Took w lo g (tk l er n most)) := by
  obtain ⟨A, len, c, hB, hR, hA, hlc, hlen⟩ := h
  have hl : l.length = len := by have := hR.len; rwa [U_len] at this
  have c0 : w.cell? ⟨g, 0, none⟩ = some (.bool true) := hB.cell 0
  have c1 : w.cell? ⟨g, 1, none⟩ = some (.slice A len c) := hB.cell 1
  have c2 : w.cell? ⟨g, 2, none⟩ = some (.int .i64 er) := hB.cell 2
  have f1 := hB.frozen 1
  have f2 := hB.frozen 2
  by_cases he : er = 0
  · subst he
    by_cases hw : why n most len = 0
    · obtain ⟨hn0, hnm, hnl⟩ : 0 ≤ n ∧ n ≤ most ∧ n ≤ (len : Int) := by
        unfold why at hw
        split at hw
        · omega
        · split at hw
          · omega
          · omega
      obtain ⟨m, rfl⟩ := Int.eq_ofNat_of_zero_le hn0
      have HT : Hid (tk l 0 m most = (l.take m, l.drop m, 0)) := show tk l 0 m most = _ by unfold tk; rw [if_neg (by simp), hl, if_pos hw, Int.toNat_natCast]
      have HY : Hid (why m most len = 0) := hw
      clear hl hw
      have hml : m ≤ len := by omega
      go_enter Try.func65, Try.ntmps65
      go_wp2_with (first
        | (go_at_call 66; refine (err_made _ _ _ c0 c2).mono ?_; rintro e w' ⟨rfl, rfl⟩)
        | (go_at_call 67; refine (refusal_made _ _ _ _ _ _ _ c1).mono ?_; rw [HY.out]; rintro e w' ⟨rfl, rfl⟩))
      · have hcm : c = m := by assumption
        go_ret
        rw [HT.out]
        exact took_ok hB hR hA hlc hlen hml (by rw [if_pos hcm]) (by omega) (fun h => by have := hA h; omega)
      · have hcm : ¬ c = m := by assumption
        go_ret
        rw [HT.out]
        exact took_ok hB hR hA hlc hlen hml (by rw [if_neg hcm]) rfl hA
    · have HT : Hid (tk l 0 n most = ([], l, why n most len)) := show tk l 0 n most = _ by unfold tk; rw [if_neg (by simp), hl, if_neg hw]
      obtain ⟨y, hy⟩ : ∃ y, y = why n most len := ⟨_, rfl⟩
      have hb : (y != 0) = true := by rw [hy]; simpa using hw
      have HY : Hid (y = why n most len) := hy
      clear hl hw hy
      go_enter Try.func65, Try.ntmps65
      go_wp2_with (first
        | (go_at_call 66; refine (err_made _ _ _ c0 c2).mono ?_; rintro e w' ⟨rfl, rfl⟩)
        | (go_at_call 67; refine (refusal_made _ _ _ _ _ _ _ c1).mono ?_; rw [← HY.out]; rintro e w' ⟨rfl, rfl⟩))
      go_ret
      rw [HT.out]
      refine ⟨none, 0, 0, rfl, rfl, by omega, fun _ => rfl, Row.empty, ⟨A, len, c, ?_, ?_, hA, hlc, hlen⟩, only_set (World.grownBy.refl _ _) 2 _, by simp [World.setCell]⟩
      · rw [← HY.out]; exact hB.set 2 (.int .i64 y)
      · exact hR.grown (only_set (World.grownBy.refl _ _) 2 _) (by have := hB.lt; omega) (fun g' h => .inr (by injection h with h; omega))
  · have hb : (er != 0) = true := by simpa using he
    have HT : Hid (tk l er n most = ([], l, er)) := show tk l er n most = _ by unfold tk; rw [if_pos he]
    go_enter Try.func65, Try.ntmps65
    go_wp2_with (go_at_call 66; refine (err_made _ _ _ c0 c2).mono ?_; rintro e w' ⟨rfl, rfl⟩)
    go_ret
    rw [HT.out]
    exact ⟨none, 0, 0, rfl, rfl, by omega, fun _ => rfl, Row.empty, ⟨A, len, c, hB, hR, hA, hlc, hlen⟩, World.grownBy.refl _ _, rfl⟩

/-- What New hands back. -/
def Made (w : World) (l : List UInt8) (e : Ending) (w' : World) : Prop :=
  ∃ g, e = .returned (.pointer (some ⟨g, 0, none⟩)) ∧ w.heap.size ≤ g ∧ g < w'.heap.size ∧ Rd w' w.heap.size g l 0 ∧ Below w.heap.size w w'

theorem new_any (A : Option Addr) (n c lo up : Nat) (l : List UInt8) (w : World) (h : Row w lo up A n (U l)) (hA : A = none → c = 0) (hup : up ≤ w.heap.size) (hn : n ≤ 140737488350000) :
    Calls Try.prog 43 #[.slice A n c] w (Made w l) := by
  have hl : Hid (l.length = n) := by have := h.len; rwa [U_len] at this
  have HA : Hid (A = none → c = 0) := hA
  clear hA
  go_enter Try.func43, Try.ntmps43
  go_wp2_with fail
  refine (clone_any A n c lo up l _ h HA.out hup (by omega)).mono ?_
  rintro e w1 ⟨A1, n1, c1, rfl, hl1, hA1, hown, hb⟩
  have hz := hb.size
  have hr := Row.of_own hown
  have hc := own_cap hown
  clear hown
  go_wp2
  go_ret
  exact ⟨w1.heap.size, rfl, hz, by simp, ⟨A1, n1, c1, Blk.new w1 _ _, hr.alloc (Nat.le_refl _) _, hA1.out, hc, by rw [← hl1.out, hl.out]; exact hn⟩, hb.alloc hz _⟩

/-- What Number, Signed hand back: a number; only the reader's block has changed. -/
def Told (w : World) (lo g : Nat) (v : Value) (t : List UInt8 × List UInt8 × Int) (e : Ending) (w' : World) : Prop :=
  e = .returned v ∧ Rd w' lo g t.2.1 t.2.2 ∧ w.grownBy w' (some g) ∧ w'.heap.size = w.heap.size

theorem tk_len8 (l : List UInt8) (er n : Int) : (tk l er n 8).1.take 8 = (tk l er n 8).1 := by
  refine List.take_of_length_le ?_
  unfold tk
  split
  · simp
  · split
    · rename_i h
      unfold why at h
      split at h
      · omega
      · simp; omega
    · simp

theorem number_nil (n : Int) (w : World) : Calls Try.prog 63 #[.pointer none, .int .i64 n] w fun e w' => e = .returned (.int .u64 0) ∧ w = w' := by
  go_enter Try.func63, Try.ntmps63
  go_wp2_with fail
  refine (take_nil _ _ _).mono ?_
  rintro e w' ⟨rfl, rfl⟩
  go_wp2_with fail
  refine (of_any none 0 0 0 0 [] _ Row.empty (by omega)).mono ?_
  rintro e w' ⟨rfl, rfl⟩
  go_wp2
  go_ret
  exact ⟨rfl, rfl⟩
theorem number_made (w : World) (lo g : Nat) (l : List UInt8) (er n : Int) (h : Rd w lo g l er) :
    Calls Try.prog 63 #[.pointer (some ⟨g, 0, none⟩), .int .i64 n] w (Told w lo g (.int .u64 (num (tk l er n 8).1)) (tk l er n 8)) := by
  have HT : Hid ((tk l er n 8).1.take 8 = (tk l er n 8).1) := tk_len8 l er n
  go_enter Try.func63, Try.ntmps63
  go_wp2_with fail
  refine (take_made _ lo g l er _ _ h).mono ?_
  rintro e w1 ⟨A, m, c, rfl, hl, hm, hA, hr, hrd, hgr, hsz⟩
  have HZ : Hid (w1.heap.size = w.heap.size) := hsz
  clear hsz
  go_wp2_with fail
  refine (of_any A m c lo g _ _ hr (by omega)).mono ?_
  rintro e w' ⟨rfl, rfl⟩
  go_wp2
  go_ret
  exact ⟨by rw [HT.out]; rfl, hrd, hgr, HZ.out⟩
theorem rsigned_nil (n : Int) (w : World) : Calls Try.prog 46 #[.pointer none, .int .i64 n] w fun e w' => e = .returned (.int .i64 (sgn 0 n)) ∧ w = w' := by
  go_enter Try.func46, Try.ntmps46
  go_wp2_with fail
  refine (number_nil _ _).mono ?_
  rintro e w' ⟨rfl, rfl⟩
  go_wp2_with fail
  refine (signed_any _ _ _ (by omega) (by omega)).mono ?_
  rintro e w' ⟨rfl, rfl⟩
  go_wp2
  go_ret
  exact ⟨rfl, rfl⟩
theorem rsigned_made (w : World) (lo g : Nat) (l : List UInt8) (er n : Int) (h : Rd w lo g l er) :
    Calls Try.prog 46 #[.pointer (some ⟨g, 0, none⟩), .int .i64 n] w (Told w lo g (.int .i64 (sgn (num (tk l er n 8).1) n)) (tk l er n 8)) := by
  have HB : Hid ((num (tk l er n 8).1 : Int) ≤ 18446744073709551615) := by have := num_take8 (tk l er n 8).1; rw [tk_len8] at this; exact this
  go_enter Try.func46, Try.ntmps46
  go_wp2_with fail
  refine (number_made _ lo g l er _ h).mono ?_
  rintro e w1 ⟨rfl, hrd, hgr, hsz⟩
  have HZ : Hid (w1.heap.size = w.heap.size) := hsz
  clear hsz
  go_wp2_with fail
  refine (signed_any _ _ _ (by omega) HB.out).mono ?_
  rintro e w' ⟨rfl, rfl⟩
  go_wp2
  go_ret
  exact ⟨rfl, hrd, hgr, HZ.out⟩
/-- What Bytes hands back: bytes in memory of their own; of what was there only the reader's block has changed. -/
def Gave (w : World) (lo g : Nat) (t : List UInt8 × List UInt8 × Int) (e : Ending) (w' : World) : Prop :=
  ∃ A n c, e = .returned (.slice A n c) ∧ Hid (t.1.length = n) ∧ Hid (A = none → c = 0) ∧ w'.ownsRow w.heap.size 5 1 (.slice A n c) n (U t.1) ∧ n ≤ 140737488350000 ∧ Rd w' lo g t.2.1 t.2.2 ∧ w.grownBy w' (some g)
theorem Rd.lt {w : World} {lo g : Nat} {l : List UInt8} {er : Int} (h : Rd w lo g l er) : g < w.heap.size := by
  obtain ⟨_, _, _, hB, _⟩ := h
  exact hB.lt
theorem Rd.below {w w' : World} {lo g B : Nat} {l : List UInt8} {er : Int} (h : Rd w lo g l er) (hb : Below B w w') (hg : g < B) : Rd w' lo g l er := by
  obtain ⟨A, n, c, hB, hr, r⟩ := h
  exact ⟨A, n, c, hB.below hb hg, hr.below hb (by omega), r⟩
theorem Rd.grown {w w' : World} {lo g g' : Nat} {l : List UInt8} {er : Int} (h : Rd w lo g l er) (hb : w.grownBy w' (some g')) (hne : g' ≠ g) (hr : g' < lo ∨ g < g') : Rd w' lo g l er := by
  have hg := h.lt
  obtain ⟨A, n, c, hB, hR, r⟩ := h
  exact ⟨A, n, c, hB.grown hb (fun e => hne (by injection e with e; exact e.symm)), hR.grown hb (by omega) (fun k hk => by injection hk with hk; omega), r⟩
/-! The same, with what is taken written out. -/
theorem number_at (w : World) (lo g : Nat) (l : List UInt8) (er n : Int) (a b : List UInt8) (er' : Int) (x : Int) (ht : tk l er n 8 = (a, b, er')) (hx : (num a : Int) = x) (h : Rd w lo g l er) :
    Calls Try.prog 63 #[.pointer (some ⟨g, 0, none⟩), .int .i64 n] w fun e w' => e = .returned (.int .u64 x) ∧ Rd w' lo g b er' ∧ w.grownBy w' (some g) ∧ w'.heap.size = w.heap.size := by
  have := number_made w lo g l er n h
  rw [ht] at this
  rw [← hx]
  exact this
theorem signed_at (w : World) (lo g : Nat) (l : List UInt8) (er n : Int) (a b : List UInt8) (er' : Int) (x : Int) (ht : tk l er n 8 = (a, b, er')) (hx : sgn (num a) n = x) (h : Rd w lo g l er) :
    Calls Try.prog 46 #[.pointer (some ⟨g, 0, none⟩), .int .i64 n] w fun e w' => e = .returned (.int .i64 x) ∧ Rd w' lo g b er' ∧ w.grownBy w' (some g) ∧ w'.heap.size = w.heap.size := by
  have := rsigned_made w lo g l er n h
  rw [ht] at this
  rw [← hx]
  exact this
theorem err_rd (w : World) (lo g : Nat) (l : List UInt8) (er : Int) (h : Rd w lo g l er) : Calls Try.prog 66 #[.pointer (some ⟨g, 0, none⟩)] w fun e w' => e = .returned (.int .i64 er) ∧ w = w' := by
  obtain ⟨A, n, c, hB, _⟩ := h
  exact err_made w g er (hB.cell 0) (hB.cell 2)
end Go.Proofs.Ytcaleaecjoafhaa
