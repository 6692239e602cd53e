/-
  rank's Sorted and List: a copy that is sorted, by the library's contract of slices.SortFunc.
-/
import Derived.Test.YtdknjeikhdodeaaAdd
import Derived.Test.YtdknjeikhdodeaaSortLaid
namespace Go.Proofs.Ytdknjeikhdodeaa
open Go.RowKit Go.Sort

theorem lt_co (x y : Int × Int) : ltOf co x y = nlt x y := co_lt x y
theorem swo_co : SWO (ltOf co) where
  irrefl x := by rw [lt_co]; exact nle_refl x
  trans x y z h1 h2 := by
    rw [lt_co] at *
    have a := nlt_iff.1 h1
    have b := nlt_iff.1 h2
    exact nlt_iff.2 (by omega)
  ntrans x y z h1 h2 := by
    rw [lt_co] at *
    exact nle_trans h2 h1
theorem holds_heap {w : World} {g cap : Nat} {l : List (Int × Int)} (h : HeapAt w g cap l) : HoldsK enc 2 w g 0 l.toArray := by
  intro t ht
  rw [size_flatK, List.size_toArray] at ht
  rw [get_flatK _ _ _ _ (by simpa using ht), Nat.zero_add]
  refine ⟨?_, h.frozen t⟩
  have hj : t / 2 < l.length := by omega
  have hd : l.toArray[t / 2]! = l.getD (t / 2) (0, 0) := by
    simp [List.getD_eq_getElem?_getD, hj]
  obtain ⟨a, b⟩ := h.cell hj
  rw [hd]
  rcases (show t % 2 = 0 ∨ t % 2 = 1 by omega) with e | e
  · rw [e]
    rw [show t / 2 * 2 = t by omega] at a
    exact a
  · rw [e]
    rw [show t / 2 * 2 + 1 = t by omega] at b
    exact b
theorem nears_holds {w : World} {g n : Nat} {d : Array (Int × Int)} (h : HoldsK enc 2 w g 0 d) (hn : d.size = n) : Nears w g (g + 1) (some ⟨g, 0, none⟩) n d.toList := by
  refine ⟨by simpa using hn, fun _ => ⟨g, 0, rfl, Nat.le_refl _, Nat.lt_succ_self _, fun j hj => ?_⟩⟩
  have hj' : j < d.size := by simpa using hj
  have a := (HoldsK.cell h (i := j) (c := 0) hj' (by decide)).1
  have b := (HoldsK.cell h (i := j) (c := 1) hj' (by decide)).1
  have e : d[j]! = d.toList.getD j (0, 0) := by
    simp [List.getD_eq_getElem?_getD, hj']
  rw [e] at a b
  exact ⟨a, b⟩
theorem sort_below {w : World} {g m : Nat} {d : Array (Int × Int)} {os : Array Obj} (hg : g < w.heap.size) : Below g w (sortWorldK enc 2 w g 0 m d os) := by
  refine ⟨rfl, rfl, rfl, size_sortWorldK_c enc 2 w g 0 m d os, fun i hi => ?_⟩
  unfold sortWorldK
  rw [heap_grow_old _ _ (by rw [size_putRowK]; exact Nat.lt_trans hi hg)]
  unfold putRowK putRow mapBlock
  simp only [Array.getElem?_modify]
  rw [if_neg (by omega)]
  rfl
theorem sort_srt {l : List (Int × Int)} {d : Array (Int × Int)} (hp : PermIn 0 l.toArray.size l.toArray d) (hs : SortedIn (ltOf co) 0 l.toArray.size d) : d.toList = srt l := by
  obtain ⟨hsz, _, hperm⟩ := hp
  have e1 : d.extract 0 l.toArray.size = d := by rw [← hsz]; exact Array.extract_size
  rw [e1, Array.extract_size] at hperm
  refine srt_is ?_ (by simpa using hperm)
  unfold Ord
  rw [List.pairwise_iff_getElem]
  intro i j hi hj hij
  have hi' : i < d.size := by simpa using hi
  have hj' : j < d.size := by simpa using hj
  have := hs i j (Nat.zero_le _) hij (by rw [← hsz]; exact hj')
  rw [lt_co, getElem!_pos d i hi', getElem!_pos d j hj'] at this
  simpa [nle] using this
theorem cmpLays (blk off size : Nat) (w : World) : CmpLays Try.prog 29 #[] enc 2 co blk off size w := fun _ _ _ _ x y => order_any x y _
theorem sort_any (g n cap : Nat) (l : List (Int × Int)) (w : World) (h : HeapAt w g cap l) (hn : l.length = n) (hsz : n ≤ 8000000000) :
    Calls Try.prog 31 #[.slice (some ⟨g, 0, none⟩) n cap, .func (.func 29) #[] #[]] w fun e w' => e = .returned (.tuple #[]) ∧ Nears w' g (g + 1) (some ⟨g, 0, none⟩) n (srt l) ∧ Below g w w' ∧ w.heap.size ≤ w'.heap.size := by
  have eg : ∀ args w, (callFunc 29 args).run Try.prog w = .ok (.enter 29 args) w := enters_of Try.func29 (by kernel_rfl) rfl
  have hH := holds_heap h
  have hcon := AnyQ.slices_SortFunc sortLaid 2 Try.isAgg29 Try.sizeOf29 enc (fun _ => rfl) (fun x v hv => by simp [enc] at hv; rcases hv with rfl | rfl <;> rfl) co swo_co 29 #[] g 0 cap l.toArray w eg (cmpLays g 0 l.toArray.size w) hH h.lt (by simp; omega)
  change Calls Try.prog 31 _ _ _ at hcon
  rw [List.size_toArray, hn] at hcon
  refine hcon.mono ?_
  rintro e w' ⟨rfl, d', m, os, hp, hs, rfl⟩
  have hn' : l.toArray.size = n := by simpa using hn
  rw [← hn'] at hp hs
  have hd := sort_srt hp hs
  refine ⟨rfl, ?_, sort_below h.lt, size_sortWorldK_c enc 2 w g 0 m d' os⟩
  rw [← hd]
  exact nears_holds (holdsK_sortWorldK_c enc 2 w g 0 l.toArray d' m os hH h.lt hp.1) (by rw [hp.1]; exact hn')
theorem sort_none (p : Option Addr) (cap : Nat) (fv : Value) (w : World) : Calls Try.prog 31 #[.slice p 0 cap, fv] w fun e w' => e = .returned (.tuple #[]) ∧ w = w' :=
  (AnyF.slices_SortFunc_none sortLaid p cap fv w).mono fun _ _ ⟨a, b⟩ => ⟨a, b.symm⟩

set_option maxHeartbeats 800000 in
theorem clone_any (A : Option Addr) (n c lo up : Nat) (l : List (Int × Int)) (w : World) (h : Nears w lo up A n l) (hA : A = none → c = 0) (hup : up ≤ w.heap.size) (hn : n ≤ 7000000000) :
    Calls Try.prog 30 #[.slice A n c] w fun e w' => ∃ v, e = .returned v ∧ w'.ownsRow w.heap.size 29 2 v n (NC l) ∧ Below w.heap.size w w' := by
  rcases A with _ | ad
  · have hn0 : n = 0 := by
      by_cases h0 : 0 < n
      · obtain ⟨b, off, e, _⟩ := h.2 h0
        cases e
      · omega
    subst hn0
    obtain rfl : l = [] := List.eq_nil_of_length_eq_zero h.1
    obtain rfl : c = 0 := hA rfl
    have q := fun (W : World) => Lib.run_eql_slice_nil (P := Try.prog) W 35 29 none 0 0 0 0 Try.underlying35
    go_enter Try.func30, Try.ntmps30
    go_wp2
    go_ret
    exact ⟨_, rfl, World.ownsRow_nil _ _ _ _, Below.refl _ _⟩
  · have q := fun (W : World) => Lib.run_eql_slice_nil (P := Try.prog) W 35 29 (some ad) n c 0 0 Try.underlying35
    go_enter Try.func30, Try.ntmps30
    go_wp2_with (at_builtin; refine wpList_append_pairs _ rfl _ _ 35 rfl w.heap.size Try.underlying35 (.slice (some ⟨w.heap.size, 0, none⟩) 0 0) 0 [] rfl (World.ownsRow_made w #[] 0 (Nat.le_refl _) (by decide) rfl) lo up (some ad) n c rfl hA l (h.lays (lays_alloc _ _) hup) (by omega) (by simp) ?_; intro v' w1 hown hgrow _)
    have hb : Below w.heap.size w w1 := ((Below.refl _ _).alloc (Nat.le_refl _) _).grown hgrow (by simp) (by intro k hk; simp [Value.ownBlock] at hk; omega)
    go_ret
    rw [Nat.zero_add, List.nil_append] at hown
    exact ⟨v', rfl, hown, hb⟩
/-- A slice of pairs that was made anew. -/
def FreshN (w : World) (l : List (Int × Int)) (e : Ending) (w' : World) : Prop :=
  ∃ A n c, e = .returned (.slice A n c) ∧ Hid (l.length = n) ∧ Hid (A = none → c = 0) ∧ n ≤ c ∧ c ≤ maxLen ∧ Nears w' w.heap.size w'.heap.size A n l ∧ Below w.heap.size w w'
set_option maxHeartbeats 800000 in
theorem sorted_any (A : Option Addr) (n c lo up : Nat) (l : List (Int × Int)) (w : World) (h : Nears w lo up A n l) (hA : A = none → c = 0) (hup : up ≤ w.heap.size) (hn : n ≤ 7000000000) :
    Calls Try.prog 19 #[.slice A n c] w (FreshN w (srt l)) := by
  have HL := hid h.1
  go_enter Try.func19, Try.ntmps19
  go_wp2_with fail
  refine (clone_any A n c lo up l w h hA hup hn).mono ?_
  rintro e w1 ⟨v, rfl, hown, hb⟩
  obtain ⟨hl, ⟨hv, h0⟩ | ⟨g, cap, hv, hg, hh⟩⟩ := heap_of_own hown
  · subst hv h0
    obtain rfl : n = 0 := hl.symm
    clear hown
    go_wp2_with (go_at_call 31; refine (sort_none _ _ _ _).mono ?_; rintro e w2 ⟨rfl, rfl⟩)
    go_ret
    exact ⟨none, 0, 0, rfl, hid rfl, hid (fun _ => rfl), Nat.le_refl _, Nat.zero_le _, Nears.none_, hb⟩
  · subst hv
    have hcap : n ≤ cap ∧ cap ≤ maxLen := by
      obtain ⟨cs, _, _, h1, _⟩ := hh
      omega
    clear hown
    go_wp2_with (go_at_call 31; refine (sort_any g n cap l _ hh hl (by omega)).mono ?_; rintro e w2 ⟨rfl, hs, hb2, hsz⟩)
    go_ret
    have hg2 := hh.lt
    refine ⟨some ⟨g, 0, none⟩, n, cap, rfl, hid (by rw [srt_len]; exact HL.out), hid (fun e => by cases e), hcap.1, hcap.2, hs.wide hg (by omega), hb.trans (hb2.mono hg)⟩
theorem list_nil (w : World) : Calls Try.prog 24 #[.pointer none] w fun e w' => e = .returned (.slice none 0 0) ∧ w = w' := by
  go_enter Try.func24, Try.ntmps24
  go_wp2_with (go_at_call 26; refine (unmade_nil _).mono ?_; rintro e w' ⟨rfl, rfl⟩)
  go_ret
  exact ⟨rfl, rfl⟩
set_option maxHeartbeats 800000 in
theorem list_any (w : World) (T k : Nat) (G : Option Nat) (l : List (Int × Int)) (hT : TopAt w T G k l) (hk : k ≤ 16777216) :
    Calls Try.prog 24 #[.pointer (some ⟨T, 0, none⟩)] w (FreshN w (keep k l)) := by
  obtain ⟨h, ⟨A, c, hB, hG, hown⟩, hh, hp⟩ := hT
  have hle : h.length ≤ k := by rw [hp.length_eq, keep_len]; omega
  have hs : srt h = keep k l := (srt_is (keep_ord k l) hp.symm).symm
  have hN : Nears w 0 w.heap.size A h.length h ∧ (A = none → c = 0) := by
    obtain ⟨hl, ⟨hv, h0⟩ | ⟨g, cap, hv, hg, hh⟩⟩ := heap_of_own hown
    · injection hv with e1 _ e2
      subst h0 e1 e2
      exact ⟨Nears.none_, fun _ => rfl⟩
    · injection hv with e1 _ e2
      subst e1 e2
      exact ⟨(Nears.of_heap hh).wide (Nat.zero_le _) hh.lt, fun e => by cases e⟩
  have c0 : w.cell? ⟨T, 0, none⟩ = some (.bool true) := hB.cell 0
  have c2 : w.cell? ⟨T, 2, none⟩ = some (.slice A h.length c) := hB.cell 2
  rw [← hs]
  clear hs hown hG hB
  go_enter Try.func24, Try.ntmps24
  go_wp2_with (first
    | (go_at_call 26; refine (unmade_made _ _ c0).mono ?_; rintro e w' ⟨rfl, rfl⟩)
    | (go_at_call 19; refine (sorted_any A h.length c 0 w.heap.size h w hN.1 hN.2 (Nat.le_refl _) (by omega)).mono ?_; rintro e w1 ⟨A1, n1, c1, rfl, a1, a2, a3, a4, a5, a6⟩))
  go_ret
  exact ⟨A1, n1, c1, rfl, a1, a2, a3, a4, a5, a6⟩
end Go.Proofs.Ytdknjeikhdodeaa
