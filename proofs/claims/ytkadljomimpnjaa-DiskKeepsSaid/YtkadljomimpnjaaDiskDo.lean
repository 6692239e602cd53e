/-
  Contracts: a file laid under a name; what each operation does.
-/
import Derived.Test.YtkadljomimpnjaaDiskUsed
import Derived.Test.YtkadljomimpnjaaIterLaid
namespace Go.Proofs.Ytkadljomimpnjaa
open Go.RowKit Go.Maps Go.Shelf Dsk

theorem below_undrew {B : Nat} {a b : World} (h : Below B a.drew b) : Below B a b := ⟨h.os, h.tape, h.output, h.size, h.block⟩
theorem cell_grown {a b : World} {row : Option Nat} (h : a.grownBy b row) {p : Addr} (hlt : p.block < a.heap.size) (hne : some p.block ≠ row) : b.cell? p = a.cell? p := World.cell?_of_block (w := a) (h.block p.block hlt hne)
theorem strclone_any (s : ByteArray) (w : World) (h : s.size ≤ 1000) : Calls Try.prog 57 #[.string s] w fun e w' => e = .returned (.string s) ∧ Below w.heap.size w w' := by
  have W1 : Hid (Calls Try.prog 67 #[.string s] w fun e w' => e = .returned (.string s) ∧ Below w.heap.size w w') := hid (Any.stringslite_Clone cloneLaid s w (by omega))
  clear h
  go_enter Try.func57, Try.ntmps57
  go_wp2_with fail
  refine W1.out.mono ?_
  rintro e w1 ⟨rfl, hb⟩
  go_wp2_with fail
  go_ret
  exact ⟨rfl, hb⟩
section
variable {w : World} {d M : Nat} {Dm : DataW Unit} {gb : Nm → Nat} {hb : Nm → Option Nat} {F : List Nat} {D : Dk}
set_option maxHeartbeats 1000000 in
theorem put_any (h : DM w d M Dm gb hb F D) (hr : Rises D.fs) (hlen : D.fs.length < 1000000) (n : Nm) (hl : n.length ≤ 1000) {g : Nat} {x : Option Nat} {f : Fil} (hf : FileAt w g x f) (hap : ∀ m fm, m ≠ n → get D.fs m = some fm → gb m ≠ g ∧ ∀ y, hb m = some y → x ≠ some y) :
    Calls Try.prog 37 #[ptr d, S n, ptr g] w fun e w' => e = .returned (.tuple #[]) ∧ Touch w w' [M] ∧ DM w' d M (Dm.put (.string n) (.lit (.int .i64 (g : Int)))) (fun m => if m = n then g else gb m) (fun m => if m = n then x else hb m) (F ++ g :: x.toList) { D with fs := put D.fs n f } := by
  have hc := h.blk.cell 0
  simp at hc
  have hdl := h.blk.lt
  have hdM : some d ≠ some M := fun e => h.map_ne (by injection e)
  obtain ⟨sb, hsb⟩ : ∃ sb, S n = .string sb := ⟨_, rfl⟩
  have hkey := keyS n hl
  rw [hsb] at hkey
  have hsz : sb.size ≤ 1000 := by
    have : sb = ⟨n.toArray⟩ := by simpa [S] using hsb.symm
    rw [this]
    show n.toArray.size ≤ 1000
    simpa using hl
  have W1 := fun W => hid (strclone_any sb W hsz)
  have HD := hid h
  have HF := hid hf
  have HP := hid hap
  clear hf hap hsz
  have hup : ∀ W, Below w.heap.size w W → ∃ W', (Instr.mapUpdate 59 (.map (some M)) (.string sb) (ptr g)).run Try.prog W = .ok () W' ∧ W'.ownsMap Try.prog 9 ptrElem M (D.fs.length + 1) (Dm.put (.string n) (.lit (.int .i64 (g : Int)))) ∧ W.grownBy W' (some M) := by
    intro W hW
    exact (HD.out.below hW).map.update keyedS Try.underlying59 (by unfold maxLen; omega) hkey (ptr_elem g)
  have HU := hid hup
  clear hup h hkey
  rw [hsb]
  go_enter Try.func37, Try.ntmps37
  go_region_held3 (fun W => W.cell? ⟨d, 0, none⟩ = some (.map (some M))) (first | exact hc | exact (hb2.cell hdl).trans hc | exact (cell_grown hgr3 (Nat.lt_of_lt_of_le hdl hb2.size) hdM).trans ((hb2.cell hdl).trans hc))
    (first | (go_at_call 57; refine (W1 _).out.mono ?_; rintro e w2 ⟨rfl, hb2⟩; obtain ⟨w3, hup3, hmap3, hgr3⟩ := HU.out w2 (below_undrew hb2)))
  go_end0
  have hb3 := below_undrew hb2
  have ht3 : Touch w2 w3 [M] := touch_grown hgr3 (by simp)
  refine ⟨rfl, (touch_below hb3 [M]).then ht3 (fun _ _ h => h), (HD.out.below hb3).store hr n (HF.out.touch (touch_below hb3 []) (by simp) (by simp)) (fun _ => hmap3) ht3 HP.out⟩
end
end Go.Proofs.Ytkadljomimpnjaa
