/-
  The library's contracts of slices.Sorted over maps.Keys, of slices.Sort at texts and of strings' Clone, laid at this program: tables of numbers, and that each body is the one that the contract was proved of. Written by the kit's plain mode.
  Contracts: a file laid under a name; what each operation does.
  Contract: what Append does when it is done.
  Contracts of the operations on a disk: Append, Sync, Delete, Cut.
  Contracts: Sync and Delete.
  Contracts: Delete, and what any operation comes to.
-/
import Derived.Shelf.SlIter.Nil
import Derived.Shelf.SortM.Plain
import Derived.Shelf.SortM.SortNone
import Derived.Shelf.Strconv.Clone
import Derived.Test.YtpckloafdlkefaaGreatProg
import Derived.Test.YtpckloafdlkefaaGreatDiskA
import Derived.Deep.RegionLaw
namespace Go.Proofs.YtpckloafdlkefaaGreat
set_option maxRecDepth 40000
open Go.RowKit Go.Maps Go.Sort Go.Shelf
def keysRen : Go.Shelf.Ren := ⟨fun | 7 => 87 | 10 => 108 | n => n, fun | 23 => 68 | 26 => 9 | 3 => 85 | 28 => 122 | 0 => 0 | 27 => 121 | 33 => 128 | 4 => 4 | n => n, fun | n => n⟩
theorem keysLaid : Go.Proofs.SlLaysZ.n7 Tryz.prog keysRen := {
  mixed := by kernel_rfl
  f7 := ⟨Tryz.f87.name, by decide, Tryz.func87.trans (congrArg some (by kernel_rfl))⟩
  f10 := ⟨Tryz.f108.name, by decide, Tryz.func108.trans (congrArg some (by kernel_rfl))⟩
  t0 := Tryz.underlying0
  a0 := Tryz.isAgg0
  z0 := Tryz.sizeOf0
  v0 := Tryz.zeroValue0
  t4 := Tryz.underlying4
  a4 := Tryz.isAgg4
  z4 := Tryz.sizeOf4
  v4 := Tryz.zeroValue4
  t23 := Tryz.underlying68
  a23 := Tryz.isAgg68
  z23 := Tryz.sizeOf68
  v23 := Tryz.zeroValue68
  t26 := Tryz.underlying9
  a26 := Tryz.isAgg9
  z26 := Tryz.sizeOf9
  v26 := Tryz.zeroValue9
  t27 := Tryz.underlying121
  a27 := Tryz.isAgg121
  z27 := Tryz.sizeOf121
  v27 := Tryz.zeroValue121
  t28 := Tryz.underlying122
  a28 := Tryz.isAgg122
  z28 := Tryz.sizeOf122
  v28 := Tryz.zeroValue122
  t33 := Tryz.underlying128
  a33 := Tryz.isAgg128
  z33 := Tryz.sizeOf128
  v33 := Tryz.zeroValue128 }
def sortedRen : Go.Shelf.Ren := ⟨fun | 6 => 86 | 8 => 106 | 9 => 107 | 11 => 114 | 13 => 116 | 12 => 115 | 23 => 132 | 24 => 133 | 14 => 123 | 15 => 124 | 16 => 125 | 17 => 126 | 18 => 127 | 19 => 128 | 20 => 129 | 21 => 130 | 22 => 131 | 25 => 137 | 26 => 138 | 27 => 139 | 28 => 140 | 29 => 141 | 30 => 142 | 31 => 144 | n => n, fun | 26 => 9 | 28 => 122 | 24 => 83 | 0 => 0 | 3 => 3 | 37 => 149 | 48 => 144 | 50 => 38 | 4 => 4 | 40 => 156 | 39 => 155 | 45 => 126 | 5 => 5 | 9 => 9 | 51 => 168 | 55 => 171 | 57 => 173 | 58 => 174 | 33 => 128 | n => n, fun | n => n⟩
theorem sortedLaid : Go.Proofs.SlLaysZ.n6 Tryz.prog sortedRen := {
  mixed := by kernel_rfl
  f6 := ⟨Tryz.f86.name, by decide, Tryz.func86.trans (congrArg some (by kernel_rfl))⟩
  f8 := ⟨Tryz.f106.name, by decide, Tryz.func106.trans (congrArg some (by kernel_rfl))⟩
  f11 := ⟨Tryz.f114.name, by decide, Tryz.func114.trans (congrArg some (by kernel_rfl))⟩
  t0 := Tryz.underlying0
  a0 := Tryz.isAgg0
  z0 := Tryz.sizeOf0
  v0 := Tryz.zeroValue0
  t24 := Tryz.underlying83
  a24 := Tryz.isAgg83
  z24 := Tryz.sizeOf83
  v24 := Tryz.zeroValue83
  t26 := Tryz.underlying9
  a26 := Tryz.isAgg9
  z26 := Tryz.sizeOf9
  v26 := Tryz.zeroValue9
  t28 := Tryz.underlying122
  a28 := Tryz.isAgg122
  z28 := Tryz.sizeOf122
  v28 := Tryz.zeroValue122
  i26 := by kernel_rfl }
def sortRen : Go.Shelf.Ren := ⟨fun | 6 => 107 | 8 => 116 | 9 => 115 | 19 => 132 | 20 => 133 | 21 => 123 | 22 => 124 | 23 => 125 | 24 => 126 | 25 => 127 | 26 => 128 | 27 => 129 | 28 => 130 | 29 => 131 | 36 => 137 | 31 => 138 | 32 => 139 | 37 => 140 | 38 => 141 | 39 => 142 | 41 => 144 | n => n, fun | 27 => 83 | 29 => 9 | 3 => 3 | 32 => 149 | 26 => 83 | 0 => 0 | 44 => 144 | 46 => 38 | 4 => 4 | 36 => 156 | 35 => 155 | 41 => 126 | 5 => 5 | 9 => 9 | 53 => 168 | 57 => 171 | 63 => 173 | 64 => 174 | n => n, fun | n => n⟩
theorem sortLaid : Go.Proofs.SlLaysM.n6 Tryz.prog sortRen := {
  mixed := by kernel_rfl
  f6 := ⟨Tryz.f107.name, by decide, Tryz.func107.trans (congrArg some (by kernel_rfl))⟩
  f8 := Tryz.func116.trans (congrArg some (by kernel_rfl))
  f9 := ⟨Tryz.f115.name, by decide, Tryz.func115.trans (congrArg some (by kernel_rfl))⟩
  f19 := Tryz.func132.trans (congrArg some (by kernel_rfl))
  f20 := Tryz.func133.trans (congrArg some (by kernel_rfl))
  f21 := ⟨Tryz.f123.name, by decide, Tryz.func123.trans (congrArg some (by kernel_rfl))⟩
  f22 := ⟨Tryz.f124.name, by decide, Tryz.func124.trans (congrArg some (by kernel_rfl))⟩
  f23 := ⟨Tryz.f125.name, by decide, Tryz.func125.trans (congrArg some (by kernel_rfl))⟩
  f24 := ⟨Tryz.f126.name, by decide, Tryz.func126.trans (congrArg some (by kernel_rfl))⟩
  f25 := ⟨Tryz.f127.name, by decide, Tryz.func127.trans (congrArg some (by kernel_rfl))⟩
  f26 := ⟨Tryz.f128.name, by decide, Tryz.func128.trans (congrArg some (by kernel_rfl))⟩
  f27 := ⟨Tryz.f129.name, by decide, Tryz.func129.trans (congrArg some (by kernel_rfl))⟩
  f28 := ⟨Tryz.f130.name, by decide, Tryz.func130.trans (congrArg some (by kernel_rfl))⟩
  f29 := ⟨Tryz.f131.name, by decide, Tryz.func131.trans (congrArg some (by kernel_rfl))⟩
  f31 := Tryz.func138.trans (congrArg some (by kernel_rfl))
  f32 := Tryz.func139.trans (congrArg some (by kernel_rfl))
  f36 := ⟨Tryz.f137.name, by decide, Tryz.func137.trans (congrArg some (by kernel_rfl))⟩
  f37 := ⟨Tryz.f140.name, by decide, Tryz.func140.trans (congrArg some (by kernel_rfl))⟩
  f38 := ⟨Tryz.f141.name, by decide, Tryz.func141.trans (congrArg some (by kernel_rfl))⟩
  f39 := ⟨Tryz.f142.name, by decide, Tryz.func142.trans (congrArg some (by kernel_rfl))⟩
  f41 := ⟨Tryz.f144.name, by decide, Tryz.func144.trans (congrArg some (by kernel_rfl))⟩
  t0 := Tryz.underlying0
  a0 := Tryz.isAgg0
  z0 := Tryz.sizeOf0
  v0 := Tryz.zeroValue0
  t3 := Tryz.underlying3
  a3 := Tryz.isAgg3
  z3 := Tryz.sizeOf3
  v3 := Tryz.zeroValue3
  t4 := Tryz.underlying4
  a4 := Tryz.isAgg4
  z4 := Tryz.sizeOf4
  v4 := Tryz.zeroValue4
  t5 := Tryz.underlying5
  a5 := Tryz.isAgg5
  z5 := Tryz.sizeOf5
  v5 := Tryz.zeroValue5
  t9 := Tryz.underlying9
  a9 := Tryz.isAgg9
  z9 := Tryz.sizeOf9
  v9 := Tryz.zeroValue9
  t26 := Tryz.underlying83
  a26 := Tryz.isAgg83
  z26 := Tryz.sizeOf83
  v26 := Tryz.zeroValue83
  t27 := Tryz.underlying83
  a27 := Tryz.isAgg83
  z27 := Tryz.sizeOf83
  v27 := Tryz.zeroValue83
  t29 := Tryz.underlying9
  a29 := Tryz.isAgg9
  z29 := Tryz.sizeOf9
  v29 := Tryz.zeroValue9
  t32 := Tryz.underlying149
  a32 := Tryz.isAgg149
  z32 := Tryz.sizeOf149
  v32 := Tryz.zeroValue149
  t35 := Tryz.underlying155
  a35 := Tryz.isAgg155
  z35 := Tryz.sizeOf155
  v35 := Tryz.zeroValue155
  t36 := Tryz.underlying156
  a36 := Tryz.isAgg156
  z36 := Tryz.sizeOf156
  v36 := Tryz.zeroValue156
  t41 := Tryz.underlying126
  a41 := Tryz.isAgg126
  z41 := Tryz.sizeOf126
  v41 := Tryz.zeroValue126
  t44 := Tryz.underlying144
  a44 := Tryz.isAgg144
  z44 := Tryz.sizeOf144
  v44 := Tryz.zeroValue144
  t46 := Tryz.underlying38
  a46 := Tryz.isAgg38
  z46 := Tryz.sizeOf38
  v46 := Tryz.zeroValue38
  t53 := Tryz.underlying168
  a53 := Tryz.isAgg168
  z53 := Tryz.sizeOf168
  v53 := Tryz.zeroValue168
  t57 := Tryz.underlying171
  a57 := Tryz.isAgg171
  z57 := Tryz.sizeOf171
  v57 := Tryz.zeroValue171
  t63 := Tryz.underlying173
  a63 := Tryz.isAgg173
  z63 := Tryz.sizeOf173
  v63 := Tryz.zeroValue173
  t64 := Tryz.underlying174
  a64 := Tryz.isAgg174
  z64 := Tryz.sizeOf174
  v64 := Tryz.zeroValue174 }
def cloneRen : Go.Shelf.Ren := ⟨fun | 316 => 121 | n => n, fun | 0 => 0 | 3 => 3 | 4 => 4 | 5 => 5 | 9 => 9 | 37 => 33 | 127 => 166 | n => n, fun | n => n⟩
theorem cloneLaid : Go.Proofs.LaysM.n316 Tryz.prog cloneRen := {
  mixed := by kernel_rfl
  f316 := Tryz.func121.trans (congrArg some (by kernel_rfl))
  t0 := Tryz.underlying0
  a0 := Tryz.isAgg0
  z0 := Tryz.sizeOf0
  v0 := Tryz.zeroValue0
  t3 := Tryz.underlying3
  a3 := Tryz.isAgg3
  z3 := Tryz.sizeOf3
  v3 := Tryz.zeroValue3
  t4 := Tryz.underlying4
  a4 := Tryz.isAgg4
  z4 := Tryz.sizeOf4
  v4 := Tryz.zeroValue4
  t9 := Tryz.underlying9
  a9 := Tryz.isAgg9
  z9 := Tryz.sizeOf9
  v9 := Tryz.zeroValue9
  t37 := Tryz.underlying33
  a37 := Tryz.isAgg33
  z37 := Tryz.sizeOf33
  v37 := Tryz.zeroValue33
  t127 := Tryz.underlying166
  a127 := Tryz.isAgg166
  z127 := Tryz.sizeOf166
  v127 := Tryz.zeroValue166
  t5 := Tryz.underlying5
  a5 := Tryz.isAgg5
  z5 := Tryz.sizeOf5
  v5 := Tryz.zeroValue5
  i0 := by kernel_rfl
  i3 := by kernel_rfl
  i4 := by kernel_rfl
  i5 := by kernel_rfl
  i9 := by kernel_rfl
  i37 := by kernel_rfl
  i127 := by kernel_rfl }
theorem sorts (m : Nat) : AnyZ.SortsIn Tryz.prog sortedRen Fence.wide m :=
  ⟨fun blk off cap ss W hH hblk hsz => callsIn_wide.2 (AnyM.slices_Sort_string sortLaid blk off cap ss W hH hblk hsz),
   fun p cap W => callsIn_wide.2 (AnyM.slices_Sort_string_none sortLaid p cap W)⟩

theorem maps_keys (mb : Option Nat) (W : World) : CallsIn Fence.wide 5 Tryz.prog 87 #[.map mb] W fun e w' => e = .returned (.func (.func 108) #[] #[.pointer (some ⟨W.heap.size, 0, none⟩)]) ∧ w' = W.alloc (.cells #[.map mb] 68) :=
  AnyZ.keys_in keysLaid Fence.wide 5 trivial rfl mb W

set_option maxHeartbeats 1000000 in
theorem sorted_keys {H : Type} (b nn : Nat) (D0 : DataW H) (R : Value → Option (DataW H × List MemPlace)) (w : World) (hown : w.ownsMap Tryz.prog 9 R b nn D0) (hmax : Maps.size D0 ≤ maxLen) (hbytes : Maps.size D0 * 16 ≤ 140737488355328) :
    CallsIn Fence.wide 5 Tryz.prog 86 #[.func (.func 108) #[] #[.pointer (some ⟨w.heap.size, 0, none⟩)]] (w.alloc (.cells #[.map (some b)] 68)) fun e w' => ∃ (v : Value) (ss : List (List UInt8)), e = .returned v ∧ ss.Perm (strKeys D0) ∧
      w'.ownsRow (w.alloc (.cells #[.map (some b)] 68)).heap.size 9 1 v ss.length ((ss.mergeSort (fun x y => decide (x ≤ y))).map encStr) ∧ (v = .slice none 0 0 ↔ ss = []) ∧ Below (w.alloc (.cells #[.map (some b)] 68)).heap.size (w.alloc (.cells #[.map (some b)] 68)) w' := by
  have hbl := hown.lt
  have hseq : SeqGives Fence.wide 2 Tryz.prog 108 #[.pointer (some ⟨w.heap.size, 0, none⟩)] encStr (fun ss => ss.Perm (strKeys D0)) (Maps.size D0) (w.alloc (.cells #[.map (some b)] 68)) :=
    AnyZ.keys_gives (ρ := keysRen) { keysLaid with } Fence.wide _ trivial rfl (by omega) w.heap.size b nn D0 _ (by simp) (by simp) (by
      obtain ⟨es, clock, hb, Ft, hs, hD⟩ := hown
      exact ⟨es, clock, (Below.heap_alloc _ _ b hbl).trans hb, Ft, hs, hD⟩)
  exact AnyZ.sorted_in sortedLaid Fence.wide 5 trivial trivial trivial trivial rfl (by omega) (sorts _) (enters_of Tryz.func107 (by kernel_rfl) rfl) 108 #[.pointer (some ⟨w.heap.size, 0, none⟩)] trivial (enters_of Tryz.func108 (by kernel_rfl) rfl) _ _ hmax hbytes _ hseq

set_option maxHeartbeats 1000000 in
theorem sorted_keys_nil (w : World) :
    CallsIn Fence.wide 5 Tryz.prog 86 #[.func (.func 108) #[] #[.pointer (some ⟨w.heap.size, 0, none⟩)]] (w.alloc (.cells #[.map none] 68)) fun e w' => ∃ (v : Value) (ss : List (List UInt8)), e = .returned v ∧ ss = [] ∧
      w'.ownsRow (w.alloc (.cells #[.map none] 68)).heap.size 9 1 v ss.length ((ss.mergeSort (fun x y => decide (x ≤ y))).map encStr) ∧ (v = .slice none 0 0 ↔ ss = []) ∧ Below (w.alloc (.cells #[.map none] 68)).heap.size (w.alloc (.cells #[.map none] 68)) w' := by
  have hseq : SeqGives Fence.wide 2 Tryz.prog 108 #[.pointer (some ⟨w.heap.size, 0, none⟩)] encStr (fun ss : List (List UInt8) => ss = []) 0 (w.alloc (.cells #[.map none] 68)) :=
    AnyZ.keys_gives_nil (ρ := keysRen) { keysLaid with } Fence.wide _ trivial rfl w.heap.size _ (by simp) (by simp)
  exact AnyZ.sorted_in sortedLaid Fence.wide 5 trivial trivial trivial trivial rfl (by omega) (sorts _) (enters_of Tryz.func107 (by kernel_rfl) rfl) 108 #[.pointer (some ⟨w.heap.size, 0, none⟩)] trivial (enters_of Tryz.func108 (by kernel_rfl) rfl) _ 0 (Nat.zero_le _) (by omega) _ hseq



end Go.Proofs.YtpckloafdlkefaaGreat
namespace Go.Proofs.YtpckloafdlkefaaGreat
set_option maxRecDepth 40000
open Go.RowKit Go.Maps Go.Shelf Dsk

theorem below_undrew {B : Nat} {a b : World} (h : Below B a.drew b) : Below B a b := ⟨h.os, h.tape, h.output, h.size, h.block⟩
theorem cell_grown {a b : World} {row : Option Nat} (h : a.grownBy b row) {p : Addr} (hlt : p.block < a.heap.size) (hne : some p.block ≠ row) : b.cell? p = a.cell? p := World.cell?_of_block (w := a) (h.block p.block hlt hne)
theorem strclone_any (s : ByteArray) (w : World) (h : s.size ≤ 1000) : Calls Tryz.prog 110 #[.string s] w fun e w' => e = .returned (.string s) ∧ Below w.heap.size w w' := by
  have W1 : Hid (Calls Tryz.prog 121 #[.string s] w fun e w' => e = .returned (.string s) ∧ Below w.heap.size w w') := hid (Any.stringslite_Clone cloneLaid s w (by omega))
  clear h
  go_enter Tryz.func110, Tryz.ntmps110
  go_wp2_with fail
  refine W1.out.mono ?_
  rintro e w1 ⟨rfl, hb⟩
  go_wp2_with fail
  go_ret
  exact ⟨rfl, hb⟩
section
variable {w : World} {d M : Nat} {Dm : DataW Unit} {gb : Nm → Nat} {hb : Nm → Option Nat} {F : List Nat} {D : Dk}
set_option maxHeartbeats 1000000 in
theorem dput_any (h : DM w d M Dm gb hb F D) (hr : Rises D.fs) (hlen : D.fs.length < 1000000) (n : Nm) (hl : n.length ≤ 1000) {g : Nat} {x : Option Nat} {f : Fil} (hf : FileAt w g x f) (hap : ∀ m fm, m ≠ n → get D.fs m = some fm → gb m ≠ g ∧ ∀ y, hb m = some y → x ≠ some y) :
    Calls Tryz.prog 90 #[ptr d, S n, ptr g] w fun e w' => e = .returned (.tuple #[]) ∧ Touch w w' [M] ∧ DM w' d M (Dm.put (.string n) (.lit (.int .i64 (g : Int)))) (fun m => if m = n then g else gb m) (fun m => if m = n then x else hb m) (F ++ g :: x.toList) { D with fs := put D.fs n f } := by
  have hc := h.blk.cell 0
  simp at hc
  have hdl := h.blk.lt
  have hdM : some d ≠ some M := fun e => h.map_ne (by injection e)
  obtain ⟨sb, hsb⟩ : ∃ sb, S n = .string sb := ⟨_, rfl⟩
  have hkey := keyS n hl
  rw [hsb] at hkey
  have hsz : sb.size ≤ 1000 := by
    have : sb = ⟨n.toArray⟩ := by simpa [S] using hsb.symm
    rw [this]
    show n.toArray.size ≤ 1000
    simpa using hl
  have W1 := fun W => hid (strclone_any sb W hsz)
  have HD := hid h
  have HF := hid hf
  have HP := hid hap
  clear hf hap hsz
  have hup : ∀ W, Below w.heap.size w W → ∃ W', (Instr.mapUpdate 68 (.map (some M)) (.string sb) (ptr g)).run Tryz.prog W = .ok () W' ∧ W'.ownsMap Tryz.prog 9 ptrElem M (D.fs.length + 1) (Dm.put (.string n) (.lit (.int .i64 (g : Int)))) ∧ W.grownBy W' (some M) := by
    intro W hW
    exact (HD.out.below hW).map.update keyedS Tryz.underlying68 (by unfold maxLen; omega) hkey (ptr_elem g)
  have HU := hid hup
  clear hup h hkey
  rw [hsb]
  go_enter Tryz.func90, Tryz.ntmps90
  go_region_held3 (fun W => W.cell? ⟨d, 0, none⟩ = some (.map (some M))) (first | exact hc | exact (hb2.cell hdl).trans hc | exact (cell_grown hgr3 (Nat.lt_of_lt_of_le hdl hb2.size) hdM).trans ((hb2.cell hdl).trans hc))
    (first | (go_at_call 110; refine (W1 _).out.mono ?_; rintro e w2 ⟨rfl, hb2⟩; obtain ⟨w3, hup3, hmap3, hgr3⟩ := HU.out w2 (below_undrew hb2)))
  go_end0
  have hb3 := below_undrew hb2
  have ht3 : Touch w2 w3 [M] := touch_grown hgr3 (by simp)
  refine ⟨rfl, (touch_below hb3 [M]).then ht3 (fun _ _ h => h), (HD.out.below hb3).store hr n (HF.out.touch (touch_below hb3 []) (by simp) (by simp)) (fun _ => hmap3) ht3 HP.out⟩
end
end Go.Proofs.YtpckloafdlkefaaGreat
namespace Go.Proofs.YtpckloafdlkefaaGreat
set_option maxRecDepth 40000
open Go.RowKit Go.Maps Go.Shelf Dsk

theorem FileAt.own {w : World} {g : Nat} {h : Option Nat} {f : Fil} (hf : FileAt w g h f) : ∃ A cap, Blk w g 87 #[.slice A f.b.length cap, .int .i64 (f.s : Int)] ∧ w.ownsRow 0 5 1 (.slice A f.b.length cap) f.b.length (U f.b) ∧ A.map (·.block) = h := hf
theorem touch_drew (w : World) (F : List Nat) : Touch w w.drew F := ⟨rfl, rfl, rfl, Nat.le_refl _, fun _ _ _ => rfl⟩
theorem Touch.cell {a b : World} {F : List Nat} (h : Touch a b F) {p : Addr} (hlt : p.block < a.heap.size) (hn : p.block ∉ F) : b.cell? p = a.cell? p := World.cell?_of_block (w := a) (h.block p.block hlt hn)
theorem touch_drewN (w : World) (k : Nat) (F : List Nat) : Touch w (w.drewN k) F := ⟨rfl, rfl, rfl, Nat.le_refl _, fun _ _ _ => rfl⟩
section
variable {w : World} {d M : Nat} {Dm : DataW Unit} {gb : Nm → Nat} {hb : Nm → Option Nat} {F : List Nat} {D : Dk}
set_option maxHeartbeats 2000000 in
set_option maxRecDepth 20000 in
/-- The last part: bytes behind a file's. -/
theorem behind_file {g : Nat} {x : Option Nat} {f : Fil} {b : List UInt8} {len : Nat} (hf : FileAt w g x f) (hl : len = b.length) :
    ∃ (Af : Option Addr) (cf : Nat), w.cell? ⟨g, 0, none⟩ = some (.slice Af f.b.length cf) ∧ w.frozen? ⟨g, 0, none⟩ = false ∧ w.ownsRow 0 5 1 (.slice Af f.b.length cf) f.b.length (U f.b) ∧ Af.map (·.block) = x ∧
      ∀ (v' : Value) (w' : World), w'.ownsRow 0 5 1 v' (f.b.length + len) (U f.b ++ U b) → w.grownBy w' (Value.slice Af f.b.length cf).ownBlock → (v'.ownBlock = (Value.slice Af f.b.length cf).ownBlock ∨ v'.ownBlock = some w.heap.size) →
        w'.cell? ⟨g, 0, none⟩ = some (.slice Af f.b.length cf) ∧ w'.frozen? ⟨g, 0, none⟩ = false ∧ ∃ x', FileAt (w'.setCell ⟨g, 0, none⟩ v') g x' ⟨f.b ++ b, f.s⟩ ∧ Touch w (w'.setCell ⟨g, 0, none⟩ v') (g :: x.toList) ∧ ∀ y, x' = some y → x = some y ∨ w.heap.size ≤ y := by
  obtain ⟨Af, cf, hfb, hfo, hfh⟩ := hf
  have hc := hfb.cell 0
  simp at hc
  have hob : (Value.slice Af f.b.length cf).ownBlock = x := by
    cases Af with
    | none => simpa [Value.ownBlock] using hfh
    | some a => simpa [Value.ownBlock] using hfh
  refine ⟨Af, cf, hc, hfb.frozen 0, hfo, hfh, fun v' w' hown hgr hat => ?_⟩
  rw [hob] at hgr hat
  have hgx : some g ≠ x := by
    intro e
    obtain ⟨cur, hcur⟩ := own_lt hfo (hfh.trans e.symm)
    exact ne_of_type hfb hcur (by decide) rfl
  have hfb' := hfb.grown hgr hgx
  have hc' := hfb'.cell 0
  simp at hc'
  obtain ⟨A', c', rfl, hA', hle⟩ := own_shape hown
  have hlen := hl
  have hob' : (Value.slice A' (f.b.length + len) c').ownBlock = A'.map (·.block) := by cases A' <;> rfl
  rw [hob'] at hat
  have hA'lt : ∀ y, A'.map (·.block) = some y → ∃ cur, w'.heap[y]? = some (.cells cur 5 (0, 0)) := fun y hy => own_lt hown hy
  have hne : ∀ y, A'.map (·.block) = some y → y ≠ g := by
    intro y hy
    obtain ⟨cur, hcur⟩ := hA'lt y hy
    exact fun e => ne_of_type hfb' hcur (by decide) e.symm
  have hts : Touch w' (w'.setCell ⟨g, 0, none⟩ (.slice A' (f.b.length + len) c')) [g] := touch_grown (only_set (World.grownBy.refl _ _) 0 _) (by simp)
  refine ⟨hc', hfb'.frozen 0, A'.map (·.block), ⟨A', c', ?_, ?_, rfl⟩, ?_, ?_⟩
  · have h1 := hfb'.set 0 (.slice A' (f.b.length + len) c')
    have e : (f.b ++ b).length = f.b.length + len := by rw [List.length_append, hlen]
    simp only [e]
    simpa using h1
  · have e : (f.b ++ b).length = f.b.length + len := by rw [List.length_append, hlen]
    simp only [e, U_append]
    exact own_touch hown hts (fun y hy => by simpa using hne y hy)
  · refine (touch_grown (F := g :: x.toList) hgr (fun y hy => by rw [hy]; simp)).then hts (fun i _ hi => ?_)
    rw [List.mem_singleton.1 hi]
    simp
  · intro y hy
    rcases hat with e | e
    · rw [e] at hy; exact .inl hy
    · rw [hy] at e; injection e with e; exact .inr (by omega)

theorem DM.wrote {w' : World} (h : DM w d M Dm gb hb F D) (hr : Rises D.fs) {n : Nm} {f f' : Fil} (hn : get D.fs n = some f) (ht : Touch w w' (gb n :: (hb n).toList)) {x' : Option Nat} (hf : FileAt w' (gb n) x' f') (hx : ∀ x, x' = some x → hb n = some x ∨ w.heap.size ≤ x) :
    ∃ F', DAt w' d F' { D with fs := put D.fs n f' } ∧ Touch w w' F ∧ ∀ y ∈ F', y ∈ F ∨ w.heap.size ≤ y := by
  refine ⟨_, ⟨_, _, _, _, h.write hr hn ht hf hx⟩, ht.mono ?_, ?_⟩
  · intro i _ hi
    rcases List.mem_cons.1 hi with rfl | hi
    · exact (h.mem.2.2 n f hn).1
    · exact (h.mem.2.2 n f hn).2 i (by simpa using hi)
  · intro y hy
    rcases List.mem_append.1 hy with hy | hy
    · exact .inl hy
    · rcases hx y (by simpa using hy) with e | e
      · exact .inl ((h.mem.2.2 n f hn).2 y e)
      · exact .inr e
theorem dput_put {fs : Fs} (hr : Rises fs) (n : Nm) (f g : Fil) : put (put fs n f) n g = put fs n g :=
  rises_ext (put_rises (put_rises hr n f) n g) (put_rises hr n g) fun m => by
    simp only [get_put]
    by_cases e : m = n
    · rw [if_pos e, if_pos e]
    · rw [if_neg e, if_neg e, if_neg e]
set_option maxHeartbeats 4000000 in
set_option maxRecDepth 20000 in
theorem append1_any (h : DM w d M Dm gb hb F D) (hw : Whole D) (hlen : D.fs.length < 1000000) (n : Nm) (hl : n.length ≤ 1000) (bd bs bb : Nat) (hbd : w.cell? ⟨bd, 0, none⟩ = some (ptr d)) (hbs : w.cell? ⟨bs, 0, none⟩ = some (S n)) (A : Option Addr) (len cap lo H : Nat) (b : List UInt8)
    (hbb : w.cell? ⟨bb, 0, none⟩ = some (.slice A len cap)) (hR : Row w lo H A len (U b)) (hA : A = none → cap = 0) (hH : H ≤ w.heap.size) (hFR : ∀ x ∈ F, x < lo ∨ H ≤ x) (hout : bd ∉ F ∧ bs ∉ F ∧ bb ∉ F) (hlt : bd < w.heap.size ∧ bs < w.heap.size ∧ bb < w.heap.size) (hsz : used D.fs + b.length ≤ 1099511627776) :
    Calls Tryz.prog 89 #[.pointer (some ⟨bd, 0, none⟩), .pointer (some ⟨bs, 0, none⟩), .pointer (some ⟨bb, 0, none⟩)] w fun e w' => e = .returned (.tuple #[]) ∧ ∃ F', DAt w' d F' { D with fs := put D.fs n ⟨(file D n).b ++ b, (file D n).s⟩ } ∧ Touch w w' F ∧ ∀ y ∈ F', y ∈ F ∨ w.heap.size ≤ y := by
  obtain ⟨i0, hi, hz0, hz1, hz2⟩ := info_parts info5
  have hll : len = b.length := by have := hR.len; rw [U_len] at this; exact this.symm
  have hc := h.blk.cell 0
  simp at hc
  have hlk := (h.touch (touch_drew w []) (by simp)).look n hl false
  have HD := hid h
  have HW := hid hw
  obtain ⟨sb, hsb⟩ : ∃ sb, S n = .string sb := ⟨_, rfl⟩
  rw [hsb] at hbs hlk
  have HSB := hid hsb
  have HLL := hid hll
  have HSZ := hid hsz
  clear h hw hsb hll
  go_enter Tryz.func89, Tryz.ntmps89
  cases hg : Dsk.get D.fs n with
  | some f =>
    have h1 := hlk.1 f hg
    rw [if_neg (by decide)] at h1
    clear hlk
    have HG := hid hg
    have hfile : file D n = f := by unfold file; rw [hg]; rfl
    have HFI := hid hfile
    clear hg hfile
    have hfl : f.b.length + b.length ≤ 1099511627776 := by
      have e := file_used (D := D) n
      rw [HFI.out] at e
      have e2 := used_put HW.out.rises n f
      have e3 := HSZ.out
      have e4 : ((Dsk.get D.fs n).map (·.b.length)).getD 0 = f.b.length := e.symm
      rw [e4] at e2
      have e5 := used_del (fs := D.fs) n
      rw [e4] at e5
      omega
    obtain ⟨Af, cf, hc4, hfz4, hown, hAf, after⟩ := behind_file (len := len) (b := b) (HD.out.at_ n f HG.out).2 HLL.out
    have AFT := hid after
    have o1 : f.b.length + len ≤ maxLen := by unfold maxLen; rw [HLL.out]; omega
    have o2 : (f.b.length + len) * 1 ≤ 140737488355328 := by rw [HLL.out]; omega
    have hne : (ptr (gb n)) ≠ .pointer none := by intro e; cases e
    have HFL := hid hfl
    have HGB := hid (rfl : gb n = gb n)
    clear after hfl hAf
    go_wp2
    go_region
    go_wp2
    go_region_law (first
      | (refine step_append_row _ rfl (.tmp 22) (.tmp 23) 33 rfl 0 5 i0 (.int .u8 0) 1 Tryz.underlying33 hi hz0 hz1 hz2 rfl (.slice Af f.b.length cf) f.b.length (U f.b) rfl (by exact hown) lo H A len cap rfl hA (U b) (by exact hR) (U_one b) o1 o2 (Nat.zero_le _) ?_; intro v7 w7 own7 grow7 at7; obtain ⟨A7, c7, rfl, _, _⟩ := own_shape own7; obtain ⟨hc7, hf7, post7⟩ := AFT.out _ w7 own7 (only_undrew (only_undrew grow7)) at7))
    all_goals
      go_end0
      obtain ⟨x', hfx, htx, hxx⟩ := post7
      rw [HFI.out]
      exact ⟨rfl, HD.out.wrote HW.out.rises HG.out htx hfx hxx⟩
  | none =>
    have h1 := hlk.2 hg
    rw [if_neg (by decide)] at h1
    clear hlk
    have hfile : file D n = ⟨[], 0⟩ := file_none hg
    have HFI := hid hfile
    have hbl0 : b.length ≤ 1099511627776 := by have := HSZ.out; omega
    obtain ⟨wB, hwB⟩ : ∃ wB, wB = (w.alloc (.cells #[.slice none 0 0, .int .i64 0] 87)).drew := ⟨_, rfl⟩
    have htB : Touch w wB [] := by rw [hwB]; exact (touch_below ((Below.refl _ w).alloc (Nat.le_refl _) _) []).then (touch_drew _ []) (fun _ _ h => h)
    have hDB := HD.out.touch htB (by simp)
    have hFB : FileAt wB w.heap.size none ⟨[], 0⟩ := ⟨none, 0, by rw [hwB]; exact Blk.new w _ _, ⟨rfl, .inl ⟨rfl, rfl⟩⟩, rfl⟩
    have hsB : wB.heap.size = w.heap.size + 1 := by rw [hwB]; simp
    have W3 := hid (dput_any hDB HW.out.rises hlen n hl hFB (fun m fm hm hfm => ⟨fun e => by have := (HD.out.at_ m fm hfm).2.lt.1; omega, fun y _ e => by cases e⟩))
    rw [HSB.out] at W3
    have hbdB := (htB.cell (p := ⟨bd, 0, none⟩) hlt.1 (by simp)).trans hbd
    have hbsB := (htB.cell (p := ⟨bs, 0, none⟩) hlt.2.1 (by simp)).trans hbs
    have HWB := hid hwB
    have HTB := hid htB
    have HDB := hid hDB
    have HSB2 := hid hsB
    clear hFB hDB htB hsB
    go_wp2
    go_region
    go_wp2_with fail
    rw [← HWB.out]
    refine W3.out.mono ?_
    rintro e w3 ⟨rfl, ht3, hD3⟩
    have ht03 : Touch w w3 [M] := (HTB.out.mono (by simp)).then ht3 (fun _ _ h => h)
    have hMF := HD.out.mem.2.1
    have hbb3 := (ht03.cell (p := ⟨bb, 0, none⟩) hlt.2.2 (by simp; intro e; exact hout.2.2 (e ▸ hMF))).trans hbb
    have hR3 : Row w3 lo H A len (U b) := hR.touch ht03 hH (fun i hi => by rw [List.mem_singleton.1 hi]; exact hFR M hMF)
    have hf3 : FileAt w3 w.heap.size none ⟨[], 0⟩ := by
      have := (hD3.at_ n ⟨[], 0⟩ (by simp [get_put])).2
      simpa using this
    obtain ⟨Af, cf, hc4, hfz4, hown, hAf, after⟩ := behind_file (len := len) (b := b) hf3 HLL.out
    have AFT := hid after
    have o1 : 0 + len ≤ maxLen := by unfold maxLen; rw [HLL.out]; omega
    have o2 : (0 + len) * 1 ≤ 140737488355328 := by rw [HLL.out]; omega
    have HD3 := hid hD3
    have HT03 := hid ht03
    have HF3 := hid hf3
    clear after hD3 ht03 hf3 ht3 hAf
    go_wp2
    go_region_law (first
      | (refine step_append_row _ rfl (.tmp 22) (.tmp 23) 33 rfl 0 5 i0 (.int .u8 0) 1 Tryz.underlying33 hi hz0 hz1 hz2 rfl (.slice Af 0 cf) 0 (U []) rfl (by exact hown) lo H A len cap rfl hA (U b) (by exact hR3) (U_one b) o1 o2 (Nat.zero_le _) ?_; intro v7 w7 own7 grow7 at7; obtain ⟨A7, c7, rfl, _, _⟩ := own_shape own7; obtain ⟨hc7, hf7, post7⟩ := AFT.out _ w7 own7 (only_undrew grow7) at7))
    all_goals
      go_end0
      obtain ⟨x', hfx, htx, hxx⟩ := post7
      have hget : Dsk.get (put D.fs n ⟨[], 0⟩) n = some ⟨[], 0⟩ := by simp [get_put]
      obtain ⟨F', hF1, hF2, hF3⟩ := HD3.out.wrote (put_rises HW.out.rises n _) (n := n) (x' := x') hget (by simpa using htx) (by simpa using hfx) (by simpa using hxx)
      rw [HFI.out]
      refine ⟨rfl, F', ?_, ?_, ?_⟩
      · have e := dput_put HW.out.rises n ⟨[], 0⟩ ⟨[] ++ b, 0⟩
        rw [← e]
        exact hF1
      · refine (HT03.out.mono (F' := F) (fun i _ hi => by rw [List.mem_singleton.1 hi]; exact hMF)).then hF2 (fun i hi hm => ?_)
        rcases List.mem_append.1 hm with hm | hm
        · exact hm
        · simp at hm; omega
      · intro y hy
        rcases hF3 y hy with hy | hy
        · rcases List.mem_append.1 hy with hy | hy
          · exact .inl hy
          · simp at hy; exact .inr (by omega)
        · exact .inr (Nat.le_trans HT03.out.size hy)
end
end Go.Proofs.YtpckloafdlkefaaGreat
namespace Go.Proofs.YtpckloafdlkefaaGreat
set_option maxRecDepth 40000
open Go.RowKit Go.Maps Go.Shelf Dsk

def Did0 (w : World) (d : Nat) (F : List Nat) (r : Int × Dk) (e : Ending) (w' : World) : Prop :=
  e = .returned (.int .i64 r.1) ∧ ∃ F', DAt w' d F' r.2 ∧ Touch w w' F ∧ ∀ b ∈ F', b ∈ F ∨ w.heap.size ≤ b
theorem burn_zero {D : Dk} (fs : Fs) (h : D.fuse = 0) : burn D fs = (9, { D with off := true }) := by unfold burn; rw [if_pos h]
theorem burn_do {D : Dk} (fs : Fs) (h : D.fuse ≠ 0) : burn D fs = (0, { D with fs := fs, fuse := burnt D.fuse }) := by unfold burn burnt; rw [if_neg h]
theorem append_wrong {D : Dk} {n : Nm} {b : List UInt8} (h : wrong D [n] ≠ 0) : dAppend D n b = (wrong D [n], D) := by
  unfold wrong at h
  unfold dAppend wrong
  simp only [List.all_cons, List.all_nil, Bool.and_true] at h ⊢
  cases ho : D.off <;> cases hk : okN n <;> simp [ho, hk] at h ⊢
theorem append_right {D : Dk} {n : Nm} {b : List UInt8} (h : wrong D [n] = 0) : dAppend D n b = if D.size < used D.fs + b.length then (7, D) else burn D (put D.fs n ⟨(file D n).b ++ b, (file D n).s⟩) := by
  unfold wrong at h
  unfold dAppend
  simp only [List.all_cons, List.all_nil, Bool.and_true] at h ⊢
  cases ho : D.off <;> cases hk : okN n <;> simp [ho, hk] at h ⊢
theorem whole_burnt {D : Dk} (h : Whole D) : Whole { D with fuse := burnt D.fuse } :=
  ⟨h.rises, h.names, h.synced, h.room, h.top, by have := h.fuse; show -1 ≤ burnt D.fuse; unfold burnt; split <;> omega⟩
section
variable {w : World} {d M : Nat} {Dm : DataW Unit} {gb : Nm → Nat} {hb : Nm → Option Nat} {F : List Nat} {D : Dk}
set_option maxHeartbeats 4000000 in
set_option maxRecDepth 20000 in
theorem append_m (h : DM w d M Dm gb hb F D) (hw : Whole D) (hfu : D.fuse ≤ 9223372036854775807) (n : Nm) (hl : n.length ≤ 1000) (hlen : D.fs.length < 1000000) (H : Nat) (A : Option Addr) (len cap : Nat) (b : List UInt8) (harg : Arg w F H A len cap (U b)) :
    Calls Tryz.prog 46 #[ptr d, S n, .slice A len cap] w fun e w' => Did0 w d F (dAppend D n b) e w' := by
  obtain ⟨lo, hR, hH, hFR, hA, hlc, hcm⟩ := harg
  obtain ⟨sb, hsb⟩ : ∃ sb, S n = .string sb := ⟨_, rfl⟩
  rw [hsb]
  obtain ⟨w4, hw4⟩ : ∃ w4, w4 = ((((w.alloc (.cells #[ptr d] 25)).alloc (.cells #[.string sb] 9)).alloc (.cells #[.slice A len cap] 33)).alloc (.cells #[.string sb] 9)) := ⟨_, rfl⟩
  have hb4 : Below w.heap.size w w4 := by
    rw [hw4]
    exact ((((Below.refl _ w).alloc (Nat.le_refl _) _).alloc (by simp) _).alloc (by simp; omega) _).alloc (by simp; omega) _
  have hs4 : w4.heap.size = w.heap.size + 4 := by rw [hw4]; simp
  have hD4 := h.below hb4
  have hR4 : Row w4 (w.heap.size + 3) (w.heap.size + 4) (some ⟨w.heap.size + 3, 0, none⟩) 1 (Ss [n]) := by
    rw [hw4]
    have := row_one (((w.alloc (.cells #[ptr d] 25)).alloc (.cells #[.string sb] 9)).alloc (.cells #[.slice A len cap] 33)) 9 (.string sb)
    rw [← hsb] at this ⊢
    simp at this
    exact this
  have W1 := hid (refusal_any hD4 (some ⟨w.heap.size + 3, 0, none⟩) 1 1 _ _ [n] (by simpa using hl) hR4 (by omega) (by omega))
  have k0 : w4.cell? ⟨w.heap.size, 0, none⟩ = some (ptr d) := by
    rw [hw4]
    exact (((Blk.new w 25 #[ptr d]).alloc _).alloc _).alloc _ |>.cell 0
  have k1 : w4.cell? ⟨w.heap.size + 1, 0, none⟩ = some (.string sb) := by
    rw [hw4]
    have := ((Blk.new (w.alloc (.cells #[ptr d] 25)) 9 #[.string sb]).alloc (.cells #[.slice A len cap] 33)).alloc (.cells #[.string sb] 9) |>.cell 0
    simpa using this
  have k2 : w4.cell? ⟨w.heap.size + 1 + 1, 0, none⟩ = some (.slice A len cap) := by
    rw [hw4]
    have := (Blk.new ((w.alloc (.cells #[ptr d] 25)).alloc (.cells #[.string sb] 9)) 33 #[.slice A len cap]).alloc (.cells #[.string sb] 9) |>.cell 0
    simpa using this
  have HD := hid h
  have HW := hid hw
  have HW4 := hid hw4
  have HB4 := hid hb4
  have HD4 := hid hD4
  have HS4 := hid hs4
  have HR := hid hR
  have HSB := hid hsb
  clear h hw hw4 hb4 hD4 hs4 hR4 hR hsb
  go_enter Tryz.func46, Tryz.ntmps46
  go_wp2_with fail
  rw [← HW4.out]
  refine W1.out.mono ?_
  rintro e w5 ⟨rfl, hb5⟩
  have c0 := (hb5.cell (p := ⟨w.heap.size, 0, none⟩) (by have := HS4.out; show w.heap.size < _; omega)).trans k0
  have c1 := (hb5.cell (p := ⟨w.heap.size + 1, 0, none⟩) (by have := HS4.out; show w.heap.size + 1 < _; omega)).trans k1
  have c2 := (hb5.cell (p := ⟨w.heap.size + 1 + 1, 0, none⟩) (by have := HS4.out; show w.heap.size + 1 + 1 < _; omega)).trans k2
  have HB5 := hid (HB4.out.trans (hb5.mono (by have := HS4.out; omega)))
  have HS5 : Hid (w.heap.size + 4 ≤ w5.heap.size) := hid (by have := HS4.out; have := hb5.size; omega)
  have HD5 := hid (HD4.out.below hb5)
  clear k0 k1 k2 hb5
  by_cases h0 : wrong D [n] = 0
  · have cd := HD5.out.blk.cell 1
    simp at cd
    have hdl := HD5.out.blk.lt
    have hll : len = b.length := by have := HR.out.len; rw [U_len] at this; exact this.symm
    have KP : ∀ W, Below w5.drew.heap.size w5.drew W → W.cell? ⟨w.heap.size, 0, none⟩ = some (ptr d) ∧ W.cell? ⟨w.heap.size + 1 + 1, 0, none⟩ = some (.slice A len cap) ∧ W.cell? ⟨d, 1, none⟩ = some (.int .i64 D.size) := fun W hW =>
      ⟨((below_undrew hW).cell (p := ⟨w.heap.size, 0, none⟩) (by have := HS5.out; show w.heap.size < w5.heap.size; omega)).trans c0, ((below_undrew hW).cell (p := ⟨w.heap.size + 1 + 1, 0, none⟩) (by have := HS5.out; show w.heap.size + 1 + 1 < w5.heap.size; omega)).trans c2, ((below_undrew hW).cell (p := ⟨d, 1, none⟩) hdl).trans cd⟩
    have W3 := hid (used_m (HD5.out.touch (touch_drew w5 []) (by simp)) HW.out)
    have hroom := HW.out.room
    have htop := HW.out.top
    obtain ⟨us, hus⟩ : ∃ us, us = used D.fs := ⟨_, rfl⟩
    rw [← hus] at W3 hroom
    have hwrap : IntKind.i64.wrap (D.size - (us : Int)) = D.size - (us : Int) := by simp [IntKind.wrap, IntKind.bits, IntKind.signed]; omega
    have HUS := hid hus
    have HLL := hid hll
    clear hus hll
    rw [h0]
    go_wp2_with fail
    go_region_held3 (fun W => W.cell? ⟨w.heap.size, 0, none⟩ = some (ptr d) ∧ W.cell? ⟨w.heap.size + 1 + 1, 0, none⟩ = some (.slice A len cap) ∧ W.cell? ⟨d, 1, none⟩ = some (.int .i64 D.size)) (first | exact ⟨c0, c2, cd⟩ | exact KP _ hb6)
      (first | (go_at_call 62; refine W3.out.mono ?_; rintro e w6 ⟨rfl, hb6⟩))
    have HK := hid (KP _ hb6)
    have hb6' := below_undrew hb6
    have HD6 := hid (HD5.out.below hb6')
    have HB6 := hid (HB5.out.trans (hb6'.mono HB5.out.size))
    obtain ⟨e0, e2, _⟩ := HK.out
    have e1 := (hb6'.cell (p := ⟨w.heap.size + 1, 0, none⟩) (by have := HS5.out; show w.heap.size + 1 < w5.heap.size; omega)).trans c1
    have HS6 : Hid (w.heap.size + 4 ≤ w6.heap.size) := hid (Nat.le_trans HS5.out hb6'.size)
    clear hb6 hb6' KP c0 c1 c2 cd
    by_cases hfull : D.size < (us : Int) + (len : Int)
    · have hf1 : D.size - (us : Int) < (len : Int) := by omega
      have W2 := hid (operate_any (w := w6) HD6.out ⟨HW.out.fuse, hfu⟩ 7 89 #[.pointer (some ⟨w.heap.size, 0, none⟩), .pointer (some ⟨w.heap.size + 1, 0, none⟩), .pointer (some ⟨w.heap.size + 1 + 1, 0, none⟩)] (enters_of Tryz.func89 (by kernel_rfl) rfl) (fun y w' => y = 7 ∧ w' = w6) (fun _ => ⟨rfl, rfl⟩) (fun e => absurd e (by decide)) (fun e => absurd e (by decide)))
      go_wp2_with fail
      refine W2.out.mono ?_
      rintro e w7 ⟨y, rfl, rfl, rfl⟩
      go_wp2_with fail
      go_ret
      rw [append_right h0, if_pos (by rw [← HUS.out, ← HLL.out]; exact hfull)]
      exact ⟨rfl, F, ⟨_, _, _, _, HD6.out⟩, touch_below HB6.out _, fun _ h => .inl h⟩
    · have hf1 : ¬ D.size - (us : Int) < (len : Int) := by omega
      have hbm : ∀ x ∈ F, x < w.heap.size := HD.out.lt
      have W2 := hid (operate_any (w := w6) HD6.out ⟨HW.out.fuse, hfu⟩ 0 89 #[.pointer (some ⟨w.heap.size, 0, none⟩), .pointer (some ⟨w.heap.size + 1, 0, none⟩), .pointer (some ⟨w.heap.size + 1 + 1, 0, none⟩)] (enters_of Tryz.func89 (by kernel_rfl) rfl)
        (fun y w' => Did0 w d F (dAppend D n b) (.returned (.int .i64 y)) w') (fun e => absurd rfl e) (fun _ hz w7 hD7 ht7 _ => by
          rw [append_right h0, if_neg (by rw [← HUS.out, ← HLL.out]; exact hfull), burn_zero _ hz]
          exact ⟨rfl, F, ⟨_, _, _, _, hD7⟩, (touch_below HB6.out _).then ht7 (fun i _ hi => by rw [List.mem_singleton.1 hi]; exact HD.out.mem.1), fun _ h => .inl h⟩) (fun _ hz w7 hD7 ht7 hs7 => by
          have hdF : d ∈ F := HD.out.mem.1
          have hdlt : d < w.heap.size := HD.out.lt d hdF
          have hH6 : H ≤ w6.heap.size := Nat.le_trans hH HB6.out.size
          refine (append1_any hD7 (whole_burnt HW.out) hlen n hl w.heap.size (w.heap.size + 1) (w.heap.size + 1 + 1) ((ht7.cell (p := ⟨w.heap.size, 0, none⟩) (by have := HS6.out; show w.heap.size < _; omega) (by simp; omega)).trans e0)
            (by rw [HSB.out]; exact (ht7.cell (p := ⟨w.heap.size + 1, 0, none⟩) (by have := HS6.out; show w.heap.size + 1 < _; omega) (by simp; omega)).trans e1) A len cap lo H b ((ht7.cell (p := ⟨w.heap.size + 1 + 1, 0, none⟩) (by have := HS6.out; show w.heap.size + 1 + 1 < _; omega) (by simp; omega)).trans e2)
            ((HR.out.below HB6.out hH).touch ht7 hH6 (fun i hi => by rw [List.mem_singleton.1 hi]; exact hFR d hdF)) hA (by rw [hs7]; exact hH6) hFR ⟨fun e => by have := hbm _ e; omega, fun e => by have := hbm _ e; omega, fun e => by have := hbm _ e; omega⟩ ⟨by have := HS6.out; omega, by have := HS6.out; omega, by have := HS6.out; omega⟩ (by
              have h1 := HUS.out
              have h2 := HLL.out
              show used D.fs + b.length ≤ _
              omega)).mono ?_
          rintro x w8 ⟨rfl, F', hF1, hF2, hF3⟩
          refine ⟨rfl, ?_⟩
          rw [append_right h0, if_neg (by rw [← HUS.out, ← HLL.out]; exact hfull), burn_do _ hz]
          refine ⟨rfl, F', hF1, ((touch_below HB6.out F).then ht7 (fun i _ hi => by rw [List.mem_singleton.1 hi]; exact hdF)).then hF2 (fun _ _ h => h), fun y hy => ?_⟩
          rcases hF3 y hy with hy | hy
          · exact .inl hy
          · exact .inr (by have := HS6.out; omega)))
      go_wp2_with fail
      refine W2.out.mono ?_
      rintro e w7 ⟨y, rfl, hdid⟩
      go_wp2_with fail
      go_ret
      exact hdid
  · have HAW := hid (append_wrong (b := b) h0)
    have hcase : wrong D [n] = 9 ∨ wrong D [n] = 2 := by
      unfold wrong at h0 ⊢
      cases ho : D.off <;> cases hk : [n].all okN <;> simp [ho, hk] at h0 ⊢
    rcases hcase with hr | hr
    all_goals
      rw [hr] at HAW ⊢
      clear h0
    · have W2 := fun q => hid (operate_any (w := w5.drewN q) (HD5.out.touch (touch_drewN w5 q []) (by simp)) ⟨HW.out.fuse, hfu⟩ 9 89 #[.pointer (some ⟨w.heap.size, 0, none⟩), .pointer (some ⟨w.heap.size + 1, 0, none⟩), .pointer (some ⟨w.heap.size + 1 + 1, 0, none⟩)] (enters_of Tryz.func89 (by kernel_rfl) rfl) (fun y w' => y = 9 ∧ w' = w5.drewN q) (fun _ => ⟨rfl, rfl⟩) (fun e => absurd e (by decide)) (fun e => absurd e (by decide)))
      clear hr
      go_wp2_with fail
      go_quiet (fail)
      go_wp2_with fail
      refine (W2 _).out.mono ?_
      rintro e w7 ⟨y, rfl, rfl, rfl⟩
      go_wp2_with fail
      go_ret
      rw [HAW.out]
      exact ⟨rfl, F, ⟨_, _, _, _, HD5.out.touch (touch_drewN w5 _ []) (by simp)⟩, (touch_below HB5.out F).then (touch_drewN w5 _ []) (fun _ _ h => by cases h), fun _ h => .inl h⟩
    · have W2 := fun q => hid (operate_any (w := w5.drewN q) (HD5.out.touch (touch_drewN w5 q []) (by simp)) ⟨HW.out.fuse, hfu⟩ 2 89 #[.pointer (some ⟨w.heap.size, 0, none⟩), .pointer (some ⟨w.heap.size + 1, 0, none⟩), .pointer (some ⟨w.heap.size + 1 + 1, 0, none⟩)] (enters_of Tryz.func89 (by kernel_rfl) rfl) (fun y w' => y = 2 ∧ w' = w5.drewN q) (fun _ => ⟨rfl, rfl⟩) (fun e => absurd e (by decide)) (fun e => absurd e (by decide)))
      clear hr
      go_wp2_with fail
      go_quiet (fail)
      go_wp2_with fail
      refine (W2 _).out.mono ?_
      rintro e w7 ⟨y, rfl, rfl, rfl⟩
      go_wp2_with fail
      go_ret
      rw [HAW.out]
      exact ⟨rfl, F, ⟨_, _, _, _, HD5.out.touch (touch_drewN w5 _ []) (by simp)⟩, (touch_below HB5.out F).then (touch_drewN w5 _ []) (fun _ _ h => by cases h), fun _ h => .inl h⟩
end
end Go.Proofs.YtpckloafdlkefaaGreat
namespace Go.Proofs.YtpckloafdlkefaaGreat
set_option maxRecDepth 40000
open Go.RowKit Go.Maps Go.Shelf Dsk

theorem touch_new {w w' : World} (h : Touch w w' []) : Below w.heap.size w w' := h.below (Nat.le_refl _) (by simp)
section
variable {w : World} {d M : Nat} {Dm : DataW Unit} {gb : Nm → Nat} {hb : Nm → Option Nat} {F : List Nat} {D : Dk}
theorem find_nil (h : DM w d M Dm gb hb F D) (n : Nm) (hl : n.length ≤ 1000) :
    Calls Tryz.prog 71 #[ptr d, S n, .slice none 0 0] w fun e w' => e = .returned (.tuple #[fptr (gb n) (ready D n), .int .i64 (ready D n)]) ∧ Below w.heap.size w w' := by
  refine (find_any h n hl none 0 0 w.heap.size [] (by simp) (by omega) (World.ownsRow_nil _ _ _ _) (Nat.le_refl _) (by simp)).mono ?_
  rintro e w' ⟨rfl, ht⟩
  rw [found_ready]
  exact ⟨rfl, touch_new (by simpa using ht)⟩
theorem sync1_any {g bx : Nat} {x : Option Nat} {f : Fil} (hf : FileAt w g x f) (hbx : w.cell? ⟨bx, 0, none⟩ = some (ptr g)) :
    Calls Tryz.prog 91 #[.pointer (some ⟨bx, 0, none⟩)] w fun e w' => e = .returned (.tuple #[]) ∧ FileAt w' g x ⟨f.b, f.b.length⟩ ∧ Touch w w' [g] := by
  have HF := hid hf
  obtain ⟨A, cap, hblk, hown, hx⟩ := hf
  have c0 := hblk.cell 0
  have c1 := hblk.cell 1
  simp at c0 c1
  have hfz := hblk.frozen 1
  have HB := hid hblk
  have HO := hid hown
  have HX := hid hx
  clear hblk hown hx
  obtain ⟨m, hm⟩ : ∃ m, m = f.b.length := ⟨_, rfl⟩
  rw [← hm] at c0
  have HM := hid hm
  clear hm
  go_enter Tryz.func91, Tryz.ntmps91
  go_wp2
  go_region
  go_end0
  have hts : Touch w (w.drew.setCell ⟨g, 1, none⟩ (.int .i64 (m : Int))) [g] := (touch_drew w [g]).then (touch_grown (only_set (World.grownBy.refl _ _) 1 _) (by simp)) (fun _ _ h => h)
  refine ⟨rfl, ⟨A, cap, ?_, own_touch HO.out hts ?_, HX.out⟩, hts⟩
  · have h1 := HB.out.set 1 (.int .i64 (m : Int))
    simp at h1
    rw [HM.out] at h1 ⊢
    exact h1
  · intro y hy e
    obtain ⟨cur, hc⟩ := own_lt HO.out hy
    rw [List.mem_singleton.1 e] at hc
    exact ne_of_type HB.out hc (by decide) rfl
theorem ready_ne {D : Dk} {n : Nm} (h : ready D n ≠ 0) : ready D n = 9 ∨ ready D n = 2 ∨ ready D n = 6 := by
  unfold ready at h ⊢
  split
  · exact .inl rfl
  · split
    · exact .inr (.inl rfl)
    · split
      · exact .inr (.inr rfl)
      · rename_i h1 h2 h3
        rw [if_neg h1, if_neg h2, if_neg h3] at h
        exact absurd rfl h
/-- What an operation on one file that is there comes to. -/
theorem done_file {w1 : World} (HD : DM w d M Dm gb hb F D) (hw : Whole D) (n : Nm) {f f' : Fil} (hn : get D.fs n = some f) (hb1 : Below w.heap.size w w1) (hfu : D.fuse ≤ 9223372036854775807) (fn : Nat) (cap : Array Value) (hent : ∀ args W, (callFunc fn args).run Tryz.prog W = .ok (.enter fn args) W)
    (hdo : ∀ w2, DM w2 d M Dm gb hb F { D with fuse := burnt D.fuse } → Touch w1 w2 [d] → w2.heap.size = w1.heap.size → Calls Tryz.prog fn cap w2 fun e w' => e = .returned (.tuple #[]) ∧ ∃ x', FileAt w' (gb n) x' f' ∧ Touch w2 w' (gb n :: (hb n).toList) ∧ ∀ x, x' = some x → hb n = some x ∨ w2.heap.size ≤ x) :
    Calls Tryz.prog 77 #[ptr d, .int .i64 0, .func (.func fn) #[] cap] w1 fun x w' => ∃ y, x = .returned (.int .i64 y) ∧ Did0 w d F (burn D (put D.fs n f')) (.returned (.int .i64 y)) w' := by
  refine operate_any (HD.below hb1) ⟨hw.fuse, hfu⟩ 0 fn cap hent _ (fun e => absurd rfl e) (fun _ hz w2 hD2 ht2 _ => ?_) (fun _ hz w2 hD2 ht2 hs2 => ?_)
  · rw [burn_zero _ hz]
    exact ⟨rfl, F, ⟨_, _, _, _, hD2⟩, (touch_below hb1 F).then ht2 (fun i _ hi => by rw [List.mem_singleton.1 hi]; exact HD.mem.1), fun _ h => .inl h⟩
  · refine (hdo w2 hD2 ht2 hs2).mono ?_
    rintro e w3 ⟨rfl, x', hfx, htx, hxx⟩
    refine ⟨rfl, ?_⟩
    rw [burn_do _ hz]
    obtain ⟨F', h1, h2, h3⟩ := hD2.wrote hw.rises (f' := f') hn htx hfx hxx
    refine ⟨rfl, F', h1, ((touch_below hb1 F).then ht2 (fun i _ hi => by rw [List.mem_singleton.1 hi]; exact HD.mem.1)).then h2 (fun _ _ h => h), fun y hy => ?_⟩
    rcases h3 y hy with hy | hy
    · exact .inl hy
    · exact .inr (by have := hb1.size; omega)
/-- .. that has an error. -/
theorem done_err {w1 : World} (HD : DM w d M Dm gb hb F D) (hw : Whole D) (hb1 : Below w.heap.size w w1) (hfu : D.fuse ≤ 9223372036854775807) (fn : Nat) (cap : Array Value) (hent : ∀ args W, (callFunc fn args).run Tryz.prog W = .ok (.enter fn args) W) (r : Int) (hr : r ≠ 0) :
    Calls Tryz.prog 77 #[ptr d, .int .i64 r, .func (.func fn) #[] cap] w1 fun x w' => ∃ y, x = .returned (.int .i64 y) ∧ Did0 w d F (r, D) (.returned (.int .i64 y)) w' := by
  refine operate_any (HD.below hb1) ⟨hw.fuse, hfu⟩ r fn cap hent _ (fun _ => ?_) (fun e => absurd e hr) (fun e => absurd e hr)
  exact ⟨rfl, F, ⟨_, _, _, _, HD.below hb1⟩, touch_below hb1 _, fun _ h => .inl h⟩
set_option maxHeartbeats 2000000 in
set_option maxRecDepth 20000 in
theorem sync_m (h : DM w d M Dm gb hb F D) (hw : Whole D) (hfu : D.fuse ≤ 9223372036854775807) (n : Nm) (hl : n.length ≤ 1000) :
    Calls Tryz.prog 47 #[ptr d, S n] w fun e w' => Did0 w d F (dSync D n) e w' := by
  have W1 := hid (find_nil h n hl)
  have HD := hid h
  have HW := hid hw
  clear h hw
  generalize hs : S n = s at *
  clear hs
  have hent := enters_of Tryz.func91 (by kernel_rfl) rfl
  have HE := hid hent
  clear hent
  go_enter Tryz.func47, Tryz.ntmps47
  go_wp2_with fail
  refine W1.out.mono ?_
  rintro e w1 ⟨rfl, hb1⟩
  have HB1 := hid hb1
  clear hb1
  by_cases h0 : ready D n = 0
  · obtain ⟨_, _, f, hf, hfile⟩ := ready_zero h0
    obtain ⟨w2, hw2⟩ : ∃ w2, w2 = w1.alloc (.cells #[ptr (gb n)] 85) := ⟨_, rfl⟩
    have hb2 : Below w.heap.size w w2 := by
      rw [hw2]
      exact HB1.out.alloc HB1.out.size _
    rw [h0]
    have e1 : fptr (gb n) 0 = ptr (gb n) := rfl
    rw [e1]
    have HF := hid hf
    have HFI := hid hfile
    have HB2 := hid hb2
    have HW2 := hid hw2
    have hbx : w2.cell? ⟨w1.heap.size, 0, none⟩ = some (ptr (gb n)) := by
      rw [hw2]
      exact (Blk.new w1 85 #[ptr (gb n)]).cell 0
    have hs2 : w2.heap.size = w1.heap.size + 1 := by rw [hw2]; simp
    have HBX := hid hbx
    have HS2 := hid hs2
    have HR0 := hid h0
    clear hf hfile hb2 hw2 hbx hs2 h0
    go_wp2_with fail
    rw [← HW2.out]
    have hdlt : d < w.heap.size := HD.out.lt d HD.out.mem.1
    refine (done_file HD.out HW.out n HF.out (f' := ⟨f.b, f.b.length⟩) HB2.out hfu 91 #[.pointer (some ⟨w1.heap.size, 0, none⟩)] HE.out (fun w3 hD3 ht3 hs3 => ?_)).mono ?_
    · refine (sync1_any (hD3.at_ n f HF.out).2 ((ht3.cell (p := ⟨w1.heap.size, 0, none⟩) (by have := HS2.out; show w1.heap.size < _; omega) (by simp; have := HB1.out.size; omega)).trans HBX.out)).mono ?_
      rintro e w4 ⟨rfl, hf4, ht4⟩
      exact ⟨rfl, hb n, hf4, ht4.mono (fun i _ hi => by simp at hi; simp [hi]), fun x hx => .inl hx⟩
    · rintro e w4 ⟨y, rfl, hdid⟩
      go_wp2_with fail
      go_ret
      unfold dSync
      rw [if_neg (by simp [HR0.out]), HFI.out]
      exact hdid
  · rcases ready_ne h0 with hr | hr | hr
    · rw [hr]
      have e1 : fptr (gb n) 9 = .pointer none := rfl
      rw [e1]
      have HR := hid hr
      clear h0 hr e1
      go_wp2_with fail
      refine (done_err HD.out HW.out (w1 := _) ?_ hfu 91 _ HE.out 9 (by decide)).mono ?_
      · exact HB1.out.alloc HB1.out.size _
      rintro e w3 ⟨y, rfl, hdid⟩
      go_wp2_with fail
      go_ret
      unfold dSync
      rw [if_pos (by rw [HR.out]; decide), HR.out]
      exact hdid
    · rw [hr]
      have e1 : fptr (gb n) 2 = .pointer none := rfl
      rw [e1]
      have HR := hid hr
      clear h0 hr e1
      go_wp2_with fail
      refine (done_err HD.out HW.out (w1 := _) ?_ hfu 91 _ HE.out 2 (by decide)).mono ?_
      · exact HB1.out.alloc HB1.out.size _
      rintro e w3 ⟨y, rfl, hdid⟩
      go_wp2_with fail
      go_ret
      unfold dSync
      rw [if_pos (by rw [HR.out]; decide), HR.out]
      exact hdid
    · rw [hr]
      have e1 : fptr (gb n) 6 = .pointer none := rfl
      rw [e1]
      have HR := hid hr
      clear h0 hr e1
      go_wp2_with fail
      refine (done_err HD.out HW.out (w1 := _) ?_ hfu 91 _ HE.out 6 (by decide)).mono ?_
      · exact HB1.out.alloc HB1.out.size _
      rintro e w3 ⟨y, rfl, hdid⟩
      go_wp2_with fail
      go_ret
      unfold dSync
      rw [if_pos (by rw [HR.out]; decide), HR.out]
      exact hdid
end
end Go.Proofs.YtpckloafdlkefaaGreat
namespace Go.Proofs.YtpckloafdlkefaaGreat
set_option maxRecDepth 40000
open Go.RowKit Go.Maps Go.Shelf Dsk

section
variable {w : World} {d M : Nat} {Dm : DataW Unit} {gb : Nm → Nat} {hb : Nm → Option Nat} {F : List Nat} {D : Dk}
theorem done_any {w1 : World} (HD : DM w d M Dm gb hb F D) (hw : Whole D) (fs' : Fs) (hb1 : Below w.heap.size w w1) (hfu : D.fuse ≤ 9223372036854775807) (fn : Nat) (cap : Array Value) (hent : ∀ args W, (callFunc fn args).run Tryz.prog W = .ok (.enter fn args) W)
    (hdo : ∀ w2, DM w2 d M Dm gb hb F { D with fuse := burnt D.fuse } → Touch w1 w2 [d] → w2.heap.size = w1.heap.size → Calls Tryz.prog fn cap w2 fun e w' => e = .returned (.tuple #[]) ∧ ∃ F', DAt w' d F' { D with fuse := burnt D.fuse, fs := fs' } ∧ Touch w2 w' F ∧ ∀ y ∈ F', y ∈ F ∨ w2.heap.size ≤ y) :
    Calls Tryz.prog 77 #[ptr d, .int .i64 0, .func (.func fn) #[] cap] w1 fun x w' => ∃ y, x = .returned (.int .i64 y) ∧ Did0 w d F (burn D fs') (.returned (.int .i64 y)) w' := by
  refine operate_any (HD.below hb1) ⟨hw.fuse, hfu⟩ 0 fn cap hent _ (fun e => absurd rfl e) (fun _ hz w2 hD2 ht2 _ => ?_) (fun _ hz w2 hD2 ht2 hs2 => ?_)
  · rw [burn_zero _ hz]
    exact ⟨rfl, F, ⟨_, _, _, _, hD2⟩, (touch_below hb1 F).then ht2 (fun i _ hi => by rw [List.mem_singleton.1 hi]; exact HD.mem.1), fun _ h => .inl h⟩
  · refine (hdo w2 hD2 ht2 hs2).mono ?_
    rintro e w3 ⟨rfl, F', h1, h2, h3⟩
    refine ⟨rfl, ?_⟩
    rw [burn_do _ hz]
    refine ⟨rfl, F', h1, ((touch_below hb1 F).then ht2 (fun i _ hi => by rw [List.mem_singleton.1 hi]; exact HD.mem.1)).then h2 (fun _ _ h => h), fun y hy => ?_⟩
    rcases h3 y hy with hy | hy
    · exact .inl hy
    · exact .inr (by have := hb1.size; omega)
set_option maxHeartbeats 2000000 in
theorem delete1_any (h : DM w d M Dm gb hb F D) (hr : Rises D.fs) (n : Nm) (hl : n.length ≤ 1000) (bd bs : Nat) (hbd : w.cell? ⟨bd, 0, none⟩ = some (ptr d)) (hbs : w.cell? ⟨bs, 0, none⟩ = some (S n)) :
    Calls Tryz.prog 93 #[.pointer (some ⟨bd, 0, none⟩), .pointer (some ⟨bs, 0, none⟩)] w fun e w' => e = .returned (.tuple #[]) ∧ DM w' d M (Dm.del (.string n)) gb hb F { D with fs := del D.fs n } ∧ Touch w w' [M] := by
  have hc := h.blk.cell 0
  simp at hc
  have hD := h.touch (touch_drew w []) (by simp)
  obtain ⟨sb, hsb⟩ : ∃ sb, S n = .string sb := ⟨_, rfl⟩
  have hkey := keyS n hl
  rw [hsb] at hbs hkey
  obtain ⟨w2, hrun, hmap, hturn⟩ := hD.map.drop keyedS Tryz.underlying68 hkey 0
  have HD := hid hD
  have HM := hid hmap
  have HT := hid hturn
  clear h hD hmap hturn hkey hsb
  go_enter Tryz.func93, Tryz.ntmps93
  go_wp2
  go_region
  go_end0
  have ht2 : Touch w.drew w2 [M] := touch_grown HT.out.grown (by simp)
  exact ⟨rfl, HD.out.drop hr n (fun _ => HM.out) ht2, (touch_drew w [M]).then ht2 (fun _ _ h => h)⟩
set_option maxHeartbeats 2000000 in
set_option maxRecDepth 20000 in
theorem delete_m (h : DM w d M Dm gb hb F D) (hw : Whole D) (hfu : D.fuse ≤ 9223372036854775807) (n : Nm) (hl : n.length ≤ 1000) :
    Calls Tryz.prog 51 #[ptr d, S n] w fun e w' => Did0 w d F (dDelete D n) e w' := by
  obtain ⟨sb, hsb⟩ : ∃ sb, S n = .string sb := ⟨_, rfl⟩
  obtain ⟨w2, hw2⟩ : ∃ w2, w2 = (w.alloc (.cells #[ptr d] 25)).alloc (.cells #[.string sb] 9) := ⟨_, rfl⟩
  have hb2 : Below w.heap.size w w2 := by rw [hw2]; exact ((Below.refl _ w).alloc (Nat.le_refl _) _).alloc (by simp) _
  have hs2 : w2.heap.size = w.heap.size + 2 := by rw [hw2]; simp
  have k0 : w2.cell? ⟨w.heap.size, 0, none⟩ = some (ptr d) := by
    rw [hw2]
    exact (Blk.new w 25 #[ptr d]).alloc _ |>.cell 0
  have k1 : w2.cell? ⟨w.heap.size + 1, 0, none⟩ = some (.string sb) := by
    rw [hw2]
    simp
  have W1 := hid (find_nil (h.below hb2) n hl)
  have HD := hid h
  have HW := hid hw
  rw [hsb] at W1 ⊢
  have HSB := hid hsb
  have HW2 := hid hw2
  have HB2 := hid hb2
  have HS2 := hid hs2
  clear h hw hsb hw2 hb2 hs2
  have HE := hid (enters_of Tryz.func93 (by kernel_rfl) rfl)
  go_enter Tryz.func51, Tryz.ntmps51
  go_wp2_with fail
  rw [← HW2.out]
  refine W1.out.mono ?_
  rintro e w3 ⟨rfl, hb3⟩
  have c0 := (hb3.cell (p := ⟨w.heap.size, 0, none⟩) (by have := HS2.out; show w.heap.size < _; omega)).trans k0
  have c1 := (hb3.cell (p := ⟨w.heap.size + 1, 0, none⟩) (by have := HS2.out; show w.heap.size + 1 < _; omega)).trans k1
  have HB3 := hid (HB2.out.trans (hb3.mono (by have := HS2.out; omega)))
  have HS3 : Hid (w.heap.size + 2 ≤ w3.heap.size) := hid (by have := HS2.out; have := hb3.size; omega)
  clear hb3 k0 k1
  by_cases h0 : ready D n = 0
  · rw [h0]
    have HR0 := hid h0
    clear h0
    have e1 : fptr (gb n) 0 = ptr (gb n) := rfl
    rw [e1]
    go_wp2_with fail
    have hdlt : d < w.heap.size := HD.out.lt d HD.out.mem.1
    refine (done_any HD.out HW.out (del D.fs n) HB3.out hfu 93 #[.pointer (some ⟨w.heap.size, 0, none⟩), .pointer (some ⟨w.heap.size + 1, 0, none⟩)] HE.out (fun w4 hD4 ht4 _ => ?_)).mono ?_
    · refine (delete1_any hD4 HW.out.rises n hl w.heap.size (w.heap.size + 1) ((ht4.cell (p := ⟨w.heap.size, 0, none⟩) (by have := HS3.out; show w.heap.size < _; omega) (by simp; omega)).trans c0) (by rw [HSB.out]; exact (ht4.cell (p := ⟨w.heap.size + 1, 0, none⟩) (by have := HS3.out; show w.heap.size + 1 < _; omega) (by simp; omega)).trans c1)).mono ?_
      rintro e w5 ⟨rfl, hD5, ht5⟩
      exact ⟨rfl, F, ⟨_, _, _, _, hD5⟩, ht5.mono (fun i _ hi => by rw [List.mem_singleton.1 hi]; exact HD.out.mem.2.1), fun _ h => .inl h⟩
    · rintro e w5 ⟨y, rfl, hdid⟩
      go_wp2_with fail
      go_ret
      unfold dDelete
      rw [if_neg (by simp [HR0.out])]
      exact hdid
  · rcases ready_ne h0 with hr | hr | hr
    · rw [hr]
      have e1 : fptr (gb n) 9 = .pointer none := rfl
      rw [e1]
      have HR := hid hr
      clear h0 hr e1
      go_wp2_with fail
      refine (done_err HD.out HW.out HB3.out hfu 93 _ HE.out 9 (by decide)).mono ?_
      rintro e w4 ⟨y, rfl, hdid⟩
      go_wp2_with fail
      go_ret
      unfold dDelete
      rw [if_pos (by rw [HR.out]; decide), HR.out]
      exact hdid
    · rw [hr]
      have e1 : fptr (gb n) 2 = .pointer none := rfl
      rw [e1]
      have HR := hid hr
      clear h0 hr e1
      go_wp2_with fail
      refine (done_err HD.out HW.out HB3.out hfu 93 _ HE.out 2 (by decide)).mono ?_
      rintro e w4 ⟨y, rfl, hdid⟩
      go_wp2_with fail
      go_ret
      unfold dDelete
      rw [if_pos (by rw [HR.out]; decide), HR.out]
      exact hdid
    · rw [hr]
      have e1 : fptr (gb n) 6 = .pointer none := rfl
      rw [e1]
      have HR := hid hr
      clear h0 hr e1
      go_wp2_with fail
      refine (done_err HD.out HW.out HB3.out hfu 93 _ HE.out 6 (by decide)).mono ?_
      rintro e w4 ⟨y, rfl, hdid⟩
      go_wp2_with fail
      go_ret
      unfold dDelete
      rw [if_pos (by rw [HR.out]; decide), HR.out]
      exact hdid
end
end Go.Proofs.YtpckloafdlkefaaGreat
