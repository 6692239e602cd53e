/-
  Contract: Rename.
-/
import Derived.Test.YtkadljomimpnjaaDiskNames
namespace Go.Proofs.Ytkadljomimpnjaa
open Go.RowKit Go.Maps Go.Shelf Dsk

theorem put_del {fs : Fs} (hr : Rises fs) {n : Nm} {f : Fil} (h : Dsk.get fs n = some f) : put (del fs n) n f = fs :=
  rises_ext (put_rises (del_rises hr n) n f) hr fun m => by
    rw [get_put, get_del hr]
    by_cases e : m = n
    · subst e; rw [if_pos rfl, h]
    · rw [if_neg e, if_neg e]
theorem rename_found (D : Dk) (n m : Nm) : (found D [m] n ≠ 0 → dRename D n m = (found D [m] n, D)) ∧
    (found D [m] n = 0 → D.off = false ∧ ready D n = 0 ∧ dRename D n m = if (file D n).s < (file D n).b.length then (10, D) else burn D (if n = m then D.fs else put (del D.fs n) m (file D n))) := by
  unfold found wrong dRename ready
  simp only [List.cons_append, List.nil_append, List.all_cons, List.all_nil, Bool.and_true]
  cases ho : D.off <;> cases hm : okN m <;> cases hn : okN n <;> cases hg : Dsk.get D.fs n <;> simp
section
variable {w : World} {d M : Nat} {Dm : DataW Unit} {gb : Nm → Nat} {hb : Nm → Option Nat} {F : List Nat} {D : Dk}
set_option maxHeartbeats 2000000 in
set_option maxRecDepth 20000 in
theorem rename1_any (h : DM w d M Dm gb hb F D) (hr : Rises D.fs) (hlen : D.fs.length < 1000000) (n m : Nm) (hl : n.length ≤ 1000) (hlm : m.length ≤ 1000) {f : Fil} (hn : get D.fs n = some f) (bd bn bm bf : Nat) (hbd : w.cell? ⟨bd, 0, none⟩ = some (ptr d)) (hbn : w.cell? ⟨bn, 0, none⟩ = some (S n)) (hbm : w.cell? ⟨bm, 0, none⟩ = some (S m)) (hbf : w.cell? ⟨bf, 0, none⟩ = some (ptr (gb n)))
    (hout : bd ≠ M ∧ bm ≠ M ∧ bf ≠ M) (hlt : bd < w.heap.size ∧ bm < w.heap.size ∧ bf < w.heap.size) :
    Calls Try.prog 44 #[.pointer (some ⟨bd, 0, none⟩), .pointer (some ⟨bn, 0, none⟩), .pointer (some ⟨bm, 0, none⟩), .pointer (some ⟨bf, 0, none⟩)] w fun e w' => e = .returned (.tuple #[]) ∧ ∃ F', DAt w' d F' { D with fs := put (del D.fs n) m f } ∧ Touch w w' F ∧ ∀ y ∈ F', y ∈ F ∨ w.heap.size ≤ y := by
  have hc := h.blk.cell 0
  simp at hc
  have hD := h.touch (touch_drew w []) (by simp)
  obtain ⟨sb, hsb⟩ : ∃ sb, S n = .string sb := ⟨_, rfl⟩
  obtain ⟨sm, hsm⟩ : ∃ sm, S m = .string sm := ⟨_, rfl⟩
  have hkey := keyS n hl
  rw [hsb] at hbn hkey
  rw [hsm] at hbm
  obtain ⟨w2, hrun, hmap, hturn⟩ := hD.map.drop keyedS Try.underlying59 hkey 0
  have ht2 : Touch w.drew w2 [M] := touch_grown hturn.grown (by simp)
  have ht02 : Touch w w2 [M] := (touch_drew w [M]).then ht2 (fun _ _ h => h)
  have hD2 := hD.drop hr n (fun _ => hmap) ht2
  have hf2 : FileAt w2 (gb n) (hb n) f := by
    have h1 := (hD.at_ n f hn).2
    have h2 := h.ne_gb hn
    exact h1.touch ht2 (by simpa using h2.2.1.symm) (fun x hx => by simpa using (h2.2.2.1 x hx).2.symm)
  have W3 := hid (put_any hD2 (del_rises hr n) (by have := del_len_some hn; show (del D.fs n).length < _; omega) m hlm hf2 (fun k fk hk hfk => by
    have hkn : k ≠ n := fun e => by
      have h1 : Dsk.get (del D.fs n) k = some fk := hfk
      rw [get_del hr, if_pos e] at h1
      cases h1
    have h1 : Dsk.get D.fs k = some fk := by
      have h1 : Dsk.get (del D.fs n) k = some fk := hfk
      rwa [get_del hr, if_neg hkn] at h1
    have h2 := h.inj k n hkn (by rw [h1]; rfl) (by rw [hn]; rfl)
    exact ⟨h2.1, fun y hy e => h2.2 y hy e⟩))
  rw [hsm] at W3
  have d0 := (ht02.cell (p := ⟨bd, 0, none⟩) hlt.1 (by simpa using hout.1)).trans hbd
  have d1 := (ht02.cell (p := ⟨bm, 0, none⟩) hlt.2.1 (by simpa using hout.2.1)).trans hbm
  have d2 := (ht02.cell (p := ⟨bf, 0, none⟩) hlt.2.2 (by simpa using hout.2.2)).trans hbf
  have HD := hid h
  have HT := hid ht02
  have HN := hid hn
  clear h hD hmap hturn hkey hsb hsm hD2 hf2 ht2 ht02 hn
  go_enter Try.func44, Try.ntmps44
  go_wp2
  go_region
  go_wp2_with fail
  refine W3.out.mono ?_
  rintro e w3 ⟨rfl, ht3, hD3⟩
  go_wp2_with fail
  go_end0
  refine ⟨rfl, _, ⟨_, _, _, _, hD3⟩, (HT.out.then ht3 (fun _ _ h => h)).mono (fun i _ hi => by rw [List.mem_singleton.1 hi]; exact HD.out.mem.2.1), fun y hy => ?_⟩
  rcases List.mem_append.1 hy with hy | hy
  · exact .inl hy
  · rcases List.mem_cons.1 hy with rfl | hy
    · exact .inl (HD.out.mem.2.2 n f HN.out).1
    · exact .inl ((HD.out.mem.2.2 n f HN.out).2 y (by simpa using hy))
end
end Go.Proofs.Ytkadljomimpnjaa
