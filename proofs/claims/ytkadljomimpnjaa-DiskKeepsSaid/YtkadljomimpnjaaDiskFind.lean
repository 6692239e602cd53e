/-
  Contracts: finding a file, how many bytes are used, reading a file.
-/
import Derived.Test.YtkadljomimpnjaaDiskReads
import Derived.Test.YtkadljomimpnjaaKit
namespace Go.Proofs.Ytkadljomimpnjaa
open Go.RowKit Go.Maps Go.Shelf Dsk

theorem infoS : (Try.prog.info? 9).map (fun i => (i.zero, i.size, i.bytes)) = some (some (.string ⟨#[]⟩), 1, 16) := by kernel_rfl
theorem Ss_one (l : List Nm) : ∀ u ∈ Ss l, u.oneCell' = true := by
  intro u hu
  simp only [Ss, List.mem_map] at hu
  obtain ⟨n, _, rfl⟩ := hu
  rfl
def found (D : Dk) (l : List Nm) (n : Nm) : Int := if wrong D (l ++ [n]) ≠ 0 then wrong D (l ++ [n]) else if get D.fs n = none then 6 else 0
def fptr (g : Nat) (r : Int) : Value := if r = 0 then ptr g else .pointer none
theorem found_ready (D : Dk) (n : Nm) : found D [] n = ready D n := by
  unfold found ready wrong
  simp only [List.nil_append, List.all_cons, List.all_nil, Bool.and_true]
  cases D.off <;> cases okN n <;> simp
section
variable {w : World} {d M : Nat} {Dm : DataW Unit} {gb : Nm → Nat} {hb : Nm → Option Nat} {F : List Nat} {D : Dk}
set_option maxHeartbeats 1000000 in
set_option maxRecDepth 20000 in
theorem find_any (h : DM w d M Dm gb hb F D) (n : Nm) (hl : n.length ≤ 1000) (A : Option Addr) (k c base : Nat) (l : List Nm) (hll : ∀ m ∈ l, m.length ≤ 1000) (hk : k ≤ 900) (hown : w.ownsRow base 9 1 (.slice A k c) k (Ss l)) (hbase : base ≤ w.heap.size) (hF : ∀ g, A.map (·.block) = some g → g ∉ F) :
    Calls Try.prog 38 #[ptr d, S n, .slice A k c] w fun e w' => e = .returned (.tuple #[fptr (gb n) (found D l n), .int .i64 (found D l n)]) ∧ Touch w w' (A.map (·.block)).toList := by
  obtain ⟨i0, hi, hz0, hz1, hz2⟩ := info_parts infoS
  have HD := hid h
  obtain ⟨sb, hsb⟩ : ∃ sb, S n = .string sb := ⟨_, rfl⟩
  have HSB := hid hsb
  have HR : Hid (Row (w.alloc (.cells #[.string sb] 9)) w.heap.size (w.heap.size + 1) (some ⟨w.heap.size, 0, none⟩) 1 (Ss [n])) := hid (by rw [← hsb]; exact row_one w 9 (S n))
  have HO := hid (hown.alloc (.cells #[.string sb] 9))
  rw [hsb]
  clear h hsb
  go_enter Try.func38, Try.ntmps38
  go_wp2_with (at_builtin; go_loud (refine wpList_append_row _ rfl _ _ 40 rfl base 9 i0 (.string ⟨#[]⟩) 16 Try.underlying40 hi hz0 hz1 hz2 rfl (.slice A k c) k (Ss l) rfl HO.out w.heap.size (w.heap.size + 1) (some ⟨w.heap.size, 0, none⟩) 1 1 rfl (fun e => by cases e) (Ss [n]) HR.out (Ss_one _) (by unfold maxLen; omega) (by omega) (by simp; omega) ?_); intro v' w1 hown1 hgrow hblk)
  obtain ⟨A', c', rfl, _, _⟩ := own_shape hown1
  have e1 : Ss l ++ Ss [n] = Ss (l ++ [n]) := by simp [Ss]
  rw [e1] at hown1
  have ht1 : Touch w w1 (A.map (·.block)).toList := by
    have ha : Touch w (w.alloc (.cells #[.string sb] 9)) (A.map (·.block)).toList := touch_below ((Below.refl _ w).alloc (Nat.le_refl _) _) _
    refine ha.then (touch_grown (F := (A.map (·.block)).toList) hgrow (fun g hg => ?_)) (fun _ _ h => h)
    cases A with
    | none => cases hg
    | some a => simpa [Value.ownBlock] using hg.symm
  have hD1 : DM w1 d M Dm gb hb F D := HD.out.touch ht1 (fun b hb hm => hF b (by simpa using hm) hb)
  have W2 := hid (refusal_any hD1 A' (k + 1) c' base w1.heap.size (l ++ [n]) (by
    intro m hm
    rcases List.mem_append.1 hm with hm | hm
    · exact hll m hm
    · rw [List.mem_singleton.1 hm]; exact hl) (Row.of_own hown1) (Nat.le_refl _) (by omega))
  have hc := hD1.blk.cell 0
  simp at hc
  have HT := hid ht1
  have HD1 := hid hD1
  clear hown1 hgrow hblk ht1 hD1
  have HF : Hid (found D l n = if wrong D (l ++ [n]) ≠ 0 then wrong D (l ++ [n]) else if get D.fs n = none then 6 else 0) := hid rfl
  generalize wrong D (l ++ [n]) = r1 at *
  generalize hgg : gb n = g
  have HG := hid hgg
  clear hgg
  go_wp2_with fail
  refine W2.out.mono ?_
  rintro e w2 ⟨rfl, hb2⟩
  have hc2 := (hb2.cell (p := ⟨d, 0, none⟩) HD1.out.blk.lt).trans hc
  have hlk := (HD1.out.below hb2).look n hl true
  rw [HSB.out, HG.out] at hlk
  have HT2 := hid (HT.out.then (touch_below hb2 []) (fun _ _ h => by cases h))
  by_cases h0 : r1 = 0
  · subst h0
    cases hg : Dsk.get D.fs n with
    | none =>
      have h1 := hlk.2 hg
      rw [if_pos rfl] at h1
      clear hlk
      go_wp2_with fail
      go_ret2
      refine ⟨?_, HT2.out⟩
      rw [HF.out, hg]
      rfl
    | some f =>
      have h1 := hlk.1 f hg
      rw [if_pos rfl] at h1
      clear hlk
      go_wp2_with fail
      go_ret2
      refine ⟨?_, HT2.out⟩
      rw [HF.out, hg, HG.out]
      rfl
  · clear hlk
    go_wp2_with fail
    go_ret2
    refine ⟨?_, HT2.out⟩
    rw [HF.out, if_pos h0]
    unfold fptr
    rw [if_neg h0]
    rfl
end
end Go.Proofs.Ytkadljomimpnjaa
