/-
  Contract: Crash.
-/
import Derived.Test.YtkadljomimpnjaaDiskNames
import Derived.Test.YtkadljomimpnjaaDiskCut
import Derived.Test.YtkadljomimpnjaaCrashMath
namespace Go.Proofs.Ytkadljomimpnjaa
open Go.RowKit Go.Maps Go.Shelf Dsk

def isNeg : Value → Bool
  | .int _ z => decide (z < 0)
  | _ => false
theorem any_neg (l : List Int) : (I l).any isNeg = l.any fun x => decide (x < 0) := by
  induction l with
  | nil => rfl
  | cons c r ih =>
    have : I (c :: r) = .int .i64 c :: I r := rfl
    rw [this, List.any_cons, List.any_cons, ih]
    rfl
theorem neg_any (z : Int) (W : World) : Calls Try.prog 42 #[.int .i64 z] W fun e w' => e = .returned (.bool (isNeg (.int .i64 z))) ∧ Below W.heap.size W w' := by
  go_enter Try.func42, Try.ntmps42
  go_wp2
  go_ret
  exact ⟨rfl, Below.refl _ _⟩
section
variable {w : World} {d M : Nat} {Dm : DataW Unit} {gb : Nm → Nat} {hb : Nm → Option Nat} {F : List Nat} {D : Dk}
/-- The disk while a crash goes through its files. -/
def Goes (w wr : World) (d M : Nat) (Dm : DataW Unit) (gb : Nm → Nat) (F : List Nat) (D : Dk) (l : List Int) (k : Nat) : Prop :=
  ∃ hb F', DM wr d M Dm gb hb F' { D with fs := fsK D.fs l k } ∧ Touch w wr F ∧ ∀ y ∈ F', y ∈ F
theorem Goes.step {wr w' : World} {l : List Int} {k : Nat} {n : Nm} {f : Fil} {hb' : Nm → Option Nat} {F' : List Nat} (h : DM wr d M Dm gb hb' F' { D with fs := fsK D.fs l k }) (ht : Touch w wr F) (hF : ∀ y ∈ F', y ∈ F) (hr : Rises D.fs) (hk : D.fs[k]? = some (n, f))
    (hf : FileAt w' (gb n) (hb' n) (cutFil f (l.getD k 0))) (htw : Touch wr w' [gb n]) : Goes w w' d M Dm gb F D l (k + 1) := by
  obtain ⟨h1, h2⟩ := fsK_step hr l hk
  have hw := h.write (fsK_rises hr l k) h2 (htw.mono (F' := gb n :: (hb' n).toList) (fun i _ hi => by rw [List.mem_singleton.1 hi]; simp)) hf (fun x hx => .inl hx)
  unfold Goes
  rw [h1]
  refine ⟨_, _, hw, ht.then htw (fun i _ hi => by rw [List.mem_singleton.1 hi]; exact hF _ (h.mem.2.2 n f h2).1), ?_⟩
  intro y hy
  rcases List.mem_append.1 hy with hy | hy
  · exact hF y hy
  · exact hF y ((h.mem.2.2 n f h2).2 y (by simpa using hy))
theorem cut_fil (f : Fil) (x : Int) (hs : f.s ≤ f.b.length) : (f.s + x.toNat % (f.b.length - f.s + 1) ≤ f.b.length) ∧ cutFil f x = ⟨f.b.take (f.s + x.toNat % (f.b.length - f.s + 1)), f.s + x.toNat % (f.b.length - f.s + 1)⟩ := by
  have hmod : x.toNat % (f.b.length - f.s + 1) < f.b.length - f.s + 1 := Nat.mod_lt _ (by omega)
  exact ⟨by omega, rfl⟩
theorem tmod_nat (x : Int) (s q : Nat) (hx : 0 ≤ x) (hs : s ≤ q) : x.tmod ((q : Int) - (s : Int) + 1) = ((x.toNat % (q - s + 1) : Nat) : Int) := by
  obtain ⟨n, rfl⟩ := Int.eq_ofNat_of_zero_le hx
  have e : (q : Int) - (s : Int) + 1 = ((q - s + 1 : Nat) : Int) := by omega
  have e2 : ((n : Nat) : Int).toNat = n := by simp
  rw [e, e2, Int.ofNat_tmod]
set_option maxHeartbeats 4000000 in
set_option maxRecDepth 20000 in
theorem crash_m (h : DM w d M Dm gb hb F D) (hw : Whole D) (hlen : D.fs.length < 1000000) (H : Nat) (A : Option Addr) (len cap : Nat) (l : List Int) (harg : Arg w F H A len cap (I l)) (hwf : ∀ x ∈ l, (Lit.int .i64 x).wf = true) :
    Calls Try.prog 15 #[ptr d, .slice A len cap] w fun e w' => Did0 w d F (dCrash D l) e w' := by
  obtain ⟨lo, hR, hH, hFR, hA, hlc, hcm⟩ := harg
  have hll : l.length = len := by have := hR.len; rwa [I_len] at this
  have W1 := hid (unmade_any h)
  have hmx : len ≤ 9223372036854775807 := by unfold maxLen at hcm; omega
  have W2 := hid (contains_int 42 A len cap lo H (I l) isNeg w hR hH hmx (enters_of Try.func42 (by kernel_rfl) rfl) (by
    intro k u hu W hb
    obtain ⟨hk, rfl⟩ := List.getElem?_eq_some_iff.1 hu
    have hk' : k < l.length := by rwa [I_len] at hk
    have : (I l)[k] = .int .i64 l[k] := by simp [I]
    rw [this]
    exact neg_any _ W))
  rw [any_neg] at W2
  have HD := hid h
  have HW := hid hw
  have HR := hid hR
  have HLL := hid hll
  have HWF := hid hwf
  clear h hw hR hll hwf hA hcm
  cases hneg : l.any (fun x => decide (x < 0)) with
  | true =>
    rw [hneg] at W2
    go_enter Try.func15, Try.ntmps15
    go_wp2_with fail
    refine W1.out.mono ?_
    rintro e w1 ⟨rfl, rfl⟩
    go_wp2_with fail
    refine W2.out.mono ?_
    rintro e w2 ⟨rfl, hb2⟩
    go_wp2_with fail
    go_ret
    unfold dCrash
    rw [if_pos hneg]
    exact ⟨rfl, F, ⟨_, _, _, _, HD.out.below hb2⟩, touch_below hb2 _, fun _ h => .inl h⟩
  | false =>
    rw [hneg] at W2
    have hnn : ∀ x ∈ l, 0 ≤ x := by
      intro x hx
      have := List.any_eq_false.1 hneg x hx
      simpa using this
    have HNN := hid hnn
    have HNEG := hid hneg
    clear hnn hneg
    go_enter Try.func15, Try.ntmps15
    go_wp2_with fail
    refine W1.out.mono ?_
    rintro e w1 ⟨rfl, rfl⟩
    go_wp2_with fail
    refine W2.out.mono ?_
    rintro e w2 ⟨rfl, hb2⟩
    have W3 := hid (names_m (HD.out.below hb2) HW.out hlen)
    have HB2 := hid hb2
    clear hb2
    go_wp2_with fail
    refine W3.out.mono ?_
    rintro e w3 ⟨v, rfl, A3, n3, c3, rfl, hR3, _, _, _, hb3⟩
    have HB3 := hid (HB2.out.trans (hb3.mono HB2.out.size))
    have HR3 := hid hR3
    have HS2 := hid HB2.out.size
    have hn3 : n3 = D.fs.length := by have := hR3.len; rw [List.length_map] at this; exact this.symm
    have HN3 := hid hn3
    have hn3' : n3 < 1000000 := by omega
    clear hb3 hR3 hn3
    go_wp2_with fail
    go_loopw [16] (fun i wr => ∃ k : Nat, k ≤ n3 ∧ i = .int .i64 k ∧ Touch w3 wr F ∧ Goes w1 wr d M Dm gb F D l k) (fun i _ => n3 - (intOf i).toNat)
    case atStart =>
      refine ⟨0, Nat.zero_le _, rfl, Touch.refl _ _, hb, F, ?_, touch_below HB3.out F, fun _ h => h⟩
      rw [fsK_zero]
      exact HD.out.below HB3.out
    case round =>
      obtain ⟨k, hk, rfl, ht3, hb', F', hDk, htk, hFk⟩ := hrel
      by_cases hlt : k < n3
      · have hkl : k < D.fs.length := by rw [← HN3.out]; exact hlt
        obtain ⟨nf, hnf⟩ : ∃ nf, D.fs[k]? = some nf := ⟨_, List.getElem?_eq_getElem hkl⟩
        obtain ⟨n, f⟩ := nf
        have hFlt : ∀ i ∈ F, i < w1.heap.size := HD.out.lt
        obtain ⟨b, off, u, rfl, _, _, hu, hcu⟩ := (HR3.out.touch ht3 (Nat.le_refl _) (fun i hi => by have := hFlt i hi; have := HS2.out; omega)).at_ hlt
        obtain rfl : u = S n := by
          have : (D.fs.map fun x => S x.1)[k]? = some (S n) := by simp [hnf]
          rw [this] at hu
          injection hu with hu
          exact hu.symm
        have hstep := fsK_step HW.out.rises l hnf
        have hmem : (n, f) ∈ D.fs := List.mem_of_getElem? hnf
        have hnl : n.length ≤ 1000 := by
          have h1 := HW.out.names _ hmem
          simp [okN] at h1
          omega
        have hlk := (hDk.look n hnl false).1 f hstep.2
        rw [if_neg (by decide)] at hlk
        have hsy : f.s ≤ f.b.length := HW.out.synced _ hmem
        have hrm : f.b.length ≤ 1099511627776 := file_room HW.out (get_of_mem HW.out.rises hmem)
        obtain ⟨Af, cf, hblk, hrow, hAf⟩ := (hDk.at_ n f hstep.2).2
        have cb := hblk.cell 0
        have csy := hblk.cell 1
        have cd := hDk.blk.cell 0
        simp at cb csy cd
        have HFA := hid (hDk.at_ n f hstep.2).2
        have HDK := hid hDk
        have HTK := hid htk
        have HFK := hid hFk
        have HT3 := hid ht3
        have HNF := hid hnf
        have HSY := hid hsy
        have HRM := hid hrm
        clear hDk htk hFk ht3 hstep hmem hblk hrow hAf hnf
        obtain ⟨sb, hsb⟩ : ∃ sb, S n = .string sb := ⟨_, rfl⟩
        rw [hsb] at hcu hlk hu
        clear hu hsb
        by_cases hkk : k < len
        · have hkl2 : k < l.length := by rw [HLL.out]; exact hkk
          obtain ⟨b2, off2, u2, rfl, _, _, hu2, hc2⟩ := (HR.out.touch HTK.out hH hFR).at_ hkk
          rw [I_get l k hkl2] at hu2
          injection hu2 with hu2
          subst hu2
          have hget : l.getD k 0 = l[k] := by rw [List.getD_eq_getElem?_getD, List.getElem?_eq_getElem hkl2]; rfl
          have hx0 : 0 ≤ l[k] := HNN.out _ (List.getElem_mem hkl2)
          have hxw := wf_i64 (HWF.out _ (List.getElem_mem hkl2))
          obtain ⟨x, hx⟩ : ∃ x, x = l[k] := ⟨_, rfl⟩
          rw [← hx] at hc2 hx0 hxw hget
          clear hx
          have hcut := cut_fil f x HSY.out
          obtain ⟨q, hq⟩ : ∃ q, q = f.b.length := ⟨_, rfl⟩
          obtain ⟨s, hs⟩ : ∃ s, s = f.s := ⟨_, rfl⟩
          have hrem := tmod_nat x f.s f.b.length hx0 HSY.out
          have hsy2 := HSY.out
          have hrm2 := HRM.out
          rw [← hq, ← hs] at hcut hrem hsy2
          rw [← hq] at hrm2 cb
          rw [← hs] at csy
          obtain ⟨r, hr⟩ : ∃ r, r = x.toNat % (q - s + 1) := ⟨_, rfl⟩
          rw [← hr] at hcut hrem
          have HHR := hid hr
          have W4 := hid (keep_any (w := wr.drew) (HFA.out.touch (touch_drew wr []) (by simp) (by simp)) (s + r) (by rw [← hq]; exact hcut.1) HRM.out)
          have hcf : cutFil f (l.getD k 0) = ⟨f.b.take (s + r), s + r⟩ := by rw [hget, hcut.2]
          have HCF := hid hcf
          have hle := hcut.1
          have o1 : IntKind.i64.wrap ((q : Int) - (s : Int)) = (q : Int) - (s : Int) := by simp [IntKind.wrap, IntKind.bits, IntKind.signed]; omega
          have o2 : IntKind.i64.wrap ((q : Int) - (s : Int) + 1) = (q : Int) - (s : Int) + 1 := by simp [IntKind.wrap, IntKind.bits, IntKind.signed]; omega
          have o3 : IntKind.i64.wrap (r : Int) = (r : Int) := by simp [IntKind.wrap, IntKind.bits, IntKind.signed]; omega
          have o4 : IntKind.i64.wrap ((s : Int) + (r : Int)) = (s : Int) + (r : Int) := by simp [IntKind.wrap, IntKind.bits, IntKind.signed]; omega
          have o5 : ¬ ((q : Int) - (s : Int) + 1 = 0) := by omega
          have e4 : ((s + r : Nat) : Int) = (s : Int) + (r : Int) := by omega
          rw [e4] at W4
          have HQ := hid hq
          have HS := hid hs
          clear hcf hcut hget hq hs hr e4
          go_wp2_with fail
          go_region
          go_wp2_with fail
          refine W4.out.mono ?_
          rintro e w5 ⟨rfl, hf5, ht5⟩
          have ht6 : Touch wr w5 [gb n] := (touch_drew wr [gb n]).then ht5 (fun _ _ h => h)
          go_wp2_with fail
          go_roundw
          case rel =>
            refine ⟨k + 1, by omega, by go_num, HT3.out.then ht6 (fun i _ hi => by rw [List.mem_singleton.1 hi]; exact HFK.out _ (HDK.out.mem.2.2 n f (fsK_step HW.out.rises l HNF.out).2).1), ?_⟩
            exact Goes.step HDK.out HTK.out HFK.out HW.out.rises HNF.out (by rw [HCF.out]; exact hf5) ht6
          case measure => simp [intOf]; omega
        · have hget : l.getD k 0 = 0 := by rw [List.getD_eq_getElem?_getD, List.getElem?_eq_none (by rw [HLL.out]; omega)]; rfl
          have hcut := cut_fil f 0 HSY.out
          have W4 := hid (keep_any HFA.out f.s HSY.out HRM.out)
          have hcf : cutFil f (l.getD k 0) = ⟨f.b.take f.s, f.s⟩ := by rw [hget, hcut.2]; simp
          have HCF := hid hcf
          have hwr : IntKind.i64.wrap ((f.s : Int) + 0) = (f.s : Int) := by simp [IntKind.wrap, IntKind.bits, IntKind.signed]; omega
          clear hcf hcut hget
          go_wp2_with fail
          refine W4.out.mono ?_
          rintro e w5 ⟨rfl, hf5, ht5⟩
          go_wp2_with fail
          go_roundw
          case rel =>
            refine ⟨k + 1, by omega, by go_num, HT3.out.then ht5 (fun i _ hi => by rw [List.mem_singleton.1 hi]; exact HFK.out _ (HDK.out.mem.2.2 n f (fsK_step HW.out.rises l HNF.out).2).1), ?_⟩
            exact Goes.step HDK.out HTK.out HFK.out HW.out.rises HNF.out (by rw [HCF.out]; exact hf5) ht5
          case measure => simp [intOf]; omega
      · obtain rfl : k = n3 := by omega
        have cz := hDk.blk.frozen 2
        have cz3 := hDk.blk.frozen 3
        have c2 := hDk.blk.cell 2
        have c3 := hDk.blk.cell 3
        simp at c2 c3
        have HDK := hid hDk
        have HTK := hid htk
        have HFK := hid hFk
        clear hDk htk hFk ht3
        go_wp2_with fail
        go_ret
        have hts : Touch wr ((wr.setCell ⟨d, 3, none⟩ (.bool false)).setCell ⟨d, 2, none⟩ (.int .i64 (-1))) [d] := touch_grown (only_set (only_set (World.grownBy.refl _ _) 3 _) 2 _) (by simp)
        have hset := HDK.out.set (fu := -1) (off := false) hts (by
          have h1 := (HDK.out.blk.set 3 (.bool false)).set 2 (.int .i64 (-1))
          simpa using h1)
        unfold dCrash
        rw [if_neg (by rw [HNEG.out]; decide)]
        rw [fsK_all D.fs l k (by rw [← HN3.out]; exact Nat.le_refl _)] at hset
        exact ⟨rfl, F', ⟨_, _, _, _, hset⟩, HTK.out.then hts (fun i _ hi => by rw [List.mem_singleton.1 hi]; exact HFK.out d HDK.out.mem.1), fun y hy => .inl (HFK.out y hy)⟩
end
end Go.Proofs.Ytkadljomimpnjaa
