/-
  The program's disk in memory: a struct that leads to a map of pointers to files, each with bytes of its own; what stores, deletes and writes leave of it.
-/
import Derived.Test.YtpckloafdlkefaaGreatDiskKit
import Derived.Maps.OwnSet
import Derived.Maps.Ext
import Derived.Maps.RangeWalk
import Derived.StringKeys
import Derived.Sort.KeysCollected
namespace Go.Proofs.YtpckloafdlkefaaGreat
set_option maxRecDepth 40000
open Go.RowKit Go.Maps Dsk

/-- How a pointer reads as an element: by its block's number (nil: -1). -/
def ptrElem : Value → Option (DataW Unit × List MemPlace)
  | .pointer none => some (.lit (.int .i64 (-1)), [])
  | .pointer (some ⟨g, 0, none⟩) => some (.lit (.int .i64 (g : Int)), [])
  | _ => none
theorem ptr_elem (g : Nat) : ptrElem (ptr g) = some (.lit (.int .i64 (g : Int)), []) := rfl
theorem ptr_nil : ptrElem (.pointer none) = some (.lit (.int .i64 (-1)), []) := rfl
theorem ptr_inv {v : Value} {y : DataW Unit × List MemPlace} (h : ptrElem v = some y) : (v = .pointer none ∧ y = (.lit (.int .i64 (-1)), [])) ∨ ∃ g : Nat, v = ptr g ∧ y = (.lit (.int .i64 (g : Int)), []) := by
  unfold ptrElem at h
  split at h
  · injection h with h; exact .inl ⟨rfl, h.symm⟩
  · injection h with h; exact .inr ⟨_, rfl, h.symm⟩
  · cases h
theorem ptr_is {v : Value} {g : Nat} {ps : List MemPlace} (h : ptrElem v = some (.lit (.int .i64 (g : Int)), ps)) : v = ptr g := by
  rcases ptr_inv h with ⟨_, e⟩ | ⟨g', rfl, e⟩
  · injection e with e _; injection e with e; injection e with _ e; omega
  · injection e with e _; injection e with e; injection e with _ e
    rw [Int.ofNat.inj e]
theorem ptr_isnil {v : Value} {ps : List MemPlace} (h : ptrElem v = some (.lit (.int .i64 (-1)), ps)) : v = .pointer none := by
  rcases ptr_inv h with ⟨e, _⟩ | ⟨g', rfl, e⟩
  · exact e
  · injection e with e _; injection e with e; injection e with _ e; omega

theorem keyedS : Keyed Tryz.prog 9 := string_keyed Tryz.underlying9
theorem keyS (n : Nm) (h : n.length ≤ 1000) : keyOf Tryz.prog 9 (S n) = some (.string n) := by
  have hs : (⟨n.toArray⟩ : ByteArray).size ≤ maxLen := by
    show n.toArray.size ≤ maxLen
    unfold maxLen
    simp
    omega
  exact Go.WideMaps.keyOf_string_mk (s := ⟨n.toArray⟩) Tryz.underlying9 hs
theorem zeroP (w : World) : (zeroValue 85).run Tryz.prog w = .ok (.pointer none) w := by kernel_rfl
theorem isKey (n : Nm) : WideAt.IsKeyLit (.string n) := trivial
theorem nm_ne {n m : Nm} (h : n ≠ m) : (Lit.string n) ≠ .string m := fun e => h (by injection e)

/-- A file in memory: its block, the block of its bytes if there is one. -/
def FileAt (w : World) (g : Nat) (h : Option Nat) (f : Fil) : Prop :=
  ∃ A cap, Blk w g 87 #[.slice A f.b.length cap, .int .i64 (f.s : Int)] ∧ w.ownsRow 0 5 1 (.slice A f.b.length cap) f.b.length (U f.b) ∧ A.map (·.block) = h

theorem own_touch {w w' : World} {F : List Nat} {base : Nat} {e : TypeId} {A : Option Addr} {len cap n : Nat} {xs : List Value} (h : w.ownsRow base e 1 (.slice A len cap) n xs) (ht : Touch w w' F) (hA : ∀ x, A.map (·.block) = some x → x ∉ F) : w'.ownsRow base e 1 (.slice A len cap) n xs := by
  obtain ⟨h1, h2⟩ := h
  refine ⟨h1, ?_⟩
  rcases h2 with h2 | ⟨g, cap', cur, e1, h3, h4, h5⟩
  · exact .inl h2
  · injection e1 with e1 e2 e3
    subst e1
    exact .inr ⟨g, cap', cur, by rw [e2, e3], h3, (ht.block g (Array.getElem?_eq_some_iff.1 h4).1 (hA g rfl)).trans h4, h5⟩
theorem own_lt {w : World} {base : Nat} {e : TypeId} {A : Option Addr} {len cap n : Nat} {xs : List Value} (h : w.ownsRow base e 1 (.slice A len cap) n xs) {x : Nat} (hx : A.map (·.block) = some x) : ∃ cur, w.heap[x]? = some (.cells cur e (0, 0)) := by
  rcases h.2 with ⟨h2, _⟩ | ⟨g, cap', cur, e1, h3, h4, h5⟩
  · injection h2 with h2; subst h2; cases hx
  · injection e1 with e1 e2 e3
    subst e1
    injection hx with hx
    subst hx
    exact ⟨cur, h4⟩
theorem FileAt.touch {w w' : World} {F : List Nat} {g : Nat} {h : Option Nat} {f : Fil} (hf : FileAt w g h f) (ht : Touch w w' F) (hg : g ∉ F) (hh : ∀ x, h = some x → x ∉ F) : FileAt w' g h f := by
  obtain ⟨A, cap, h1, h2, h3⟩ := hf
  exact ⟨A, cap, h1.touch ht hg, own_touch h2 ht (fun x hx => hh x (h3 ▸ hx)), h3⟩
theorem FileAt.lt {w : World} {g : Nat} {h : Option Nat} {f : Fil} (hf : FileAt w g h f) : g < w.heap.size ∧ ∀ x, h = some x → x < w.heap.size := by
  obtain ⟨A, cap, h1, h2, h3⟩ := hf
  refine ⟨h1.lt, fun x hx => ?_⟩
  obtain ⟨cur, hc⟩ := own_lt h2 (h3.trans hx)
  exact (Array.getElem?_eq_some_iff.1 hc).1
/-- Blocks of unlike types are unlike. -/
theorem ne_of_type {w : World} {g g' : Nat} {t t' : TypeId} {cs cs' : Array Value} (h : w.heap[g]? = some (.cells cs t (0, 0))) (h' : w.heap[g']? = some (.cells cs' t' (0, 0))) (hne : t ≠ t') : g ≠ g' := by
  rintro rfl
  rw [h] at h'
  injection h' with h'
  injection h' with _ h'
  exact hne h'

/-- The disk in memory. -/
structure DM (w : World) (d M : Nat) (Dm : DataW Unit) (gb : Nm → Nat) (hb : Nm → Option Nat) (F : List Nat) (D : Dk) : Prop where
  blk : Blk w d 70 #[.map (some M), .int .i64 D.size, .int .i64 D.fuse, .bool D.off]
  map : w.ownsMap Tryz.prog 9 ptrElem M D.fs.length Dm
  has : ∀ n, Maps.has Dm (.string n) = (get D.fs n).isSome
  at_ : ∀ n f, get D.fs n = some f → (∀ z, Dm.atKey (.string n) z = .lit (.int .i64 (gb n : Int))) ∧ FileAt w (gb n) (hb n) f
  inj : ∀ n m, n ≠ m → (get D.fs n).isSome = true → (get D.fs m).isSome = true → gb n ≠ gb m ∧ ∀ x, hb n = some x → hb m ≠ some x
  mem : d ∈ F ∧ M ∈ F ∧ ∀ n f, get D.fs n = some f → gb n ∈ F ∧ ∀ x, hb n = some x → x ∈ F
  lt : ∀ b ∈ F, b < w.heap.size
def DAt (w : World) (d : Nat) (F : List Nat) (D : Dk) : Prop := ∃ M Dm gb hb, DM w d M Dm gb hb F D

section
variable {w w' : World} {d M : Nat} {Dm : DataW Unit} {gb : Nm → Nat} {hb : Nm → Option Nat} {F : List Nat} {D : Dk}
theorem ownsMap_touch {n : Nat} {G : List Nat} (h : w.ownsMap Tryz.prog 9 ptrElem M n Dm) (ht : Touch w w' G) (hM : M ∉ G) : w'.ownsMap Tryz.prog 9 ptrElem M n Dm := by
  obtain ⟨es, clock, hb, r⟩ := h
  exact ⟨es, clock, (ht.block M (Array.getElem?_eq_some_iff.1 hb).1 hM).trans hb, r⟩
theorem DM.touch {G : List Nat} (h : DM w d M Dm gb hb F D) (ht : Touch w w' G) (hF : ∀ b ∈ F, b ∉ G) : DM w' d M Dm gb hb F D where
  blk := h.blk.touch ht (hF d h.mem.1)
  map := ownsMap_touch h.map ht (hF M h.mem.2.1)
  has := h.has
  at_ := fun n f hn => ⟨(h.at_ n f hn).1, (h.at_ n f hn).2.touch ht (hF _ (h.mem.2.2 n f hn).1) fun x hx => hF _ ((h.mem.2.2 n f hn).2 x hx)⟩
  inj := h.inj
  mem := h.mem
  lt := fun b hb => Nat.lt_of_lt_of_le (h.lt b hb) ht.size
theorem DM.below (h : DM w d M Dm gb hb F D) (hb' : Below w.heap.size w w') : DM w' d M Dm gb hb F D := h.touch (touch_below hb' []) (fun _ _ hm => by cases hm)
theorem DM.map_ne (h : DM w d M Dm gb hb F D) : d ≠ M := by
  obtain ⟨es, clock, hm, _⟩ := h.map
  rintro rfl
  have := h.blk
  unfold Blk at this
  rw [hm] at this
  cases this
theorem DM.ne_gb (h : DM w d M Dm gb hb F D) {n : Nm} {f : Fil} (hn : get D.fs n = some f) : d ≠ gb n ∧ M ≠ gb n ∧ (∀ x, hb n = some x → d ≠ x ∧ M ≠ x) ∧ ∀ m fm, get D.fs m = some fm → ∀ x, hb m = some x → gb n ≠ x := by
  obtain ⟨es, clock, hm, _⟩ := h.map
  obtain ⟨A, cap, h1, h2, h3⟩ := (h.at_ n f hn).2
  refine ⟨ne_of_type h.blk h1 (by decide), ?_, fun x hx => ?_, fun m fm hfm x hx => ?_⟩
  · rintro rfl
    unfold Blk at h1
    rw [hm] at h1
    cases h1
  · obtain ⟨cur, hc⟩ := own_lt h2 (h3.trans hx)
    refine ⟨ne_of_type h.blk hc (by decide), ?_⟩
    rintro rfl
    rw [hm] at hc
    cases hc
  · obtain ⟨A', cap', h1', h2', h3'⟩ := (h.at_ m fm hfm).2
    obtain ⟨cur, hc⟩ := own_lt h2' (h3'.trans hx)
    exact ne_of_type h1 hc (by decide)
/-- The fuse and the power. -/
theorem DM.set (h : DM w d M Dm gb hb F D) (ht : Touch w w' [d]) {fu : Int} {off : Bool} (hblk : Blk w' d 70 #[.map (some M), .int .i64 D.size, .int .i64 fu, .bool off]) : DM w' d M Dm gb hb F { D with fuse := fu, off := off } where
  blk := hblk
  map := ownsMap_touch h.map ht (by simpa using h.map_ne.symm)
  has := h.has
  at_ := fun n f hn => ⟨(h.at_ n f hn).1, (h.at_ n f hn).2.touch ht (by simpa using (h.ne_gb hn).1.symm) fun x hx => by simpa using ((h.ne_gb hn).2.2.1 x hx).1.symm⟩
  inj := h.inj
  mem := h.mem
  lt := fun b hb => Nat.lt_of_lt_of_le (h.lt b hb) ht.size
theorem put_len_some {fs : Fs} {n : Nm} {f f0 : Fil} (hr : Rises fs) (h : Dsk.get fs n = some f0) : (put fs n f).length = fs.length := by
  induction fs with
  | nil => cases h
  | cons y r ih =>
    obtain ⟨k, g⟩ := y
    simp only [Dsk.get] at h
    simp only [put]
    split
    · rename_i h1
      have hkn : k ≠ n := by rintro rfl; rw [nlt_irrefl] at h1; cases h1
      rw [if_neg hkn] at h
      have : Dsk.get r n = none := get_none fun x hx e => by
        have := nlt_trans h1 (hr.1 x hx)
        rw [e, nlt_irrefl] at this; cases this
      rw [this] at h; cases h
    · split
      · rfl
      · rename_i h1 h2
        rw [if_neg h2] at h
        rw [List.length_cons, ih hr.2 h]; rfl
theorem put_len_none {fs : Fs} {n : Nm} {f : Fil} (h : Dsk.get fs n = none) : (put fs n f).length = fs.length + 1 := by
  induction fs with
  | nil => rfl
  | cons y r ih =>
    obtain ⟨k, g⟩ := y
    simp only [Dsk.get] at h
    simp only [put]
    split
    · rfl
    · split
      · rename_i h1 h2
        rw [if_pos h2] at h; cases h
      · rename_i h1 h2
        rw [if_neg h2] at h
        rw [List.length_cons, ih h]; rfl
theorem del_len_some {fs : Fs} {n : Nm} {f : Fil} (h : Dsk.get fs n = some f) : (del fs n).length + 1 = fs.length := by
  induction fs with
  | nil => cases h
  | cons y r ih =>
    obtain ⟨k, g⟩ := y
    simp only [Dsk.get] at h
    simp only [del]
    split
    · rfl
    · rename_i h2
      rw [if_neg h2] at h
      rw [List.length_cons, ih h]; rfl
theorem del_len_none {fs : Fs} {n : Nm} (h : Dsk.get fs n = none) : (del fs n).length = fs.length := by
  induction fs with
  | nil => rfl
  | cons y r ih =>
    obtain ⟨k, g⟩ := y
    simp only [Dsk.get] at h
    simp only [del]
    split
    · rename_i h2
      rw [if_pos h2] at h; cases h
    · rename_i h2
      rw [if_neg h2] at h
      rw [List.length_cons, ih h]; rfl
/-- A file's bytes have been written. -/
theorem DM.write (h : DM w d M Dm gb hb F D) (hr : Rises D.fs) {n : Nm} {f f' : Fil} (hn : get D.fs n = some f) (ht : Touch w w' (gb n :: (hb n).toList)) {x' : Option Nat} (hf : FileAt w' (gb n) x' f') (hx : ∀ x, x' = some x → hb n = some x ∨ w.heap.size ≤ x) :
    DM w' d M Dm gb (fun m => if m = n then x' else hb m) (F ++ x'.toList) { D with fs := put D.fs n f' } := by
  have hne := h.ne_gb hn
  have hold : ∀ m fm, get D.fs m = some fm → m ≠ n → gb m ∉ gb n :: (hb n).toList ∧ ∀ x, hb m = some x → x ∉ gb n :: (hb n).toList := by
    intro m fm hm hmn
    have h1 := h.inj m n hmn (by rw [hm]; rfl) (by rw [hn]; rfl)
    refine ⟨?_, fun x hx => ?_⟩
    · simp only [List.mem_cons, Option.mem_toList, not_or]
      exact ⟨h1.1, fun e => (h.ne_gb hm).2.2.2 n f hn _ (by simpa using e) rfl⟩
    · simp only [List.mem_cons, Option.mem_toList, not_or]
      exact ⟨fun e => hne.2.2.2 m fm hm x hx e.symm, fun e => h1.2 x hx (by simpa using e)⟩
  have hd : d ∉ gb n :: (hb n).toList := by
    simp only [List.mem_cons, Option.mem_toList, not_or]
    exact ⟨hne.1, fun e => (hne.2.2.1 d (by simpa using e)).1 rfl⟩
  have hM : M ∉ gb n :: (hb n).toList := by
    simp only [List.mem_cons, Option.mem_toList, not_or]
    exact ⟨hne.2.1, fun e => (hne.2.2.1 M (by simpa using e)).2 rfl⟩
  refine ⟨h.blk.touch ht hd, ?_, ?_, ?_, ?_, ?_, ?_⟩
  · show w'.ownsMap _ _ _ _ (put D.fs n f').length _
    rw [put_len_some hr hn]
    exact ownsMap_touch h.map ht hM
  · intro m
    show _ = (get (put D.fs n f') m).isSome
    rw [h.has, get_put]
    by_cases e : m = n
    · subst e; rw [hn]; simp
    · rw [if_neg e]
  · intro m fm hm
    simp only [get_put] at hm
    by_cases e : m = n
    · subst e
      rw [if_pos rfl] at hm
      injection hm with hm
      subst hm
      exact ⟨(h.at_ m f hn).1, by simpa using hf⟩
    · rw [if_neg e] at hm
      refine ⟨(h.at_ m fm hm).1, ?_⟩
      simp only [if_neg e]
      exact (h.at_ m fm hm).2.touch ht (hold m fm hm e).1 (hold m fm hm e).2
  · intro m k hmk h1 h2
    simp only [get_put] at h1 h2
    have i1 : (get D.fs m).isSome = true := by
      by_cases e : m = n
      · subst e; rw [hn]; rfl
      · rwa [if_neg e] at h1
    have i2 : (get D.fs k).isSome = true := by
      by_cases e : k = n
      · subst e; rw [hn]; rfl
      · rwa [if_neg e] at h2
    have h3 := h.inj m k hmk i1 i2
    obtain ⟨fm, hfm⟩ := Option.isSome_iff_exists.1 i1
    obtain ⟨fk, hfk⟩ := Option.isSome_iff_exists.1 i2
    refine ⟨h3.1, fun x hxm hxk => ?_⟩
    by_cases em : m = n
    · subst em
      rw [if_pos rfl] at hxm
      rw [if_neg (fun e => hmk e.symm)] at hxk
      rcases hx x hxm with e | e
      · exact h3.2 x e hxk
      · have := (h.at_ k fk hfk).2.lt.2 x hxk
        omega
    · rw [if_neg em] at hxm
      by_cases ek : k = n
      · subst ek
        rw [if_pos rfl] at hxk
        rcases hx x hxk with e | e
        · exact h3.2 x hxm e
        · have := (h.at_ m fm hfm).2.lt.2 x hxm
          omega
      · rw [if_neg ek] at hxk
        exact h3.2 x hxm hxk
  · refine ⟨List.mem_append_left _ h.mem.1, List.mem_append_left _ h.mem.2.1, fun m fm hm => ?_⟩
    simp only [get_put] at hm
    by_cases e : m = n
    · subst e
      refine ⟨List.mem_append_left _ (h.mem.2.2 m f hn).1, fun x hx => List.mem_append_right _ ?_⟩
      simp only [if_true] at hx
      simp [hx]
    · rw [if_neg e] at hm
      refine ⟨List.mem_append_left _ (h.mem.2.2 m fm hm).1, fun x hx => List.mem_append_left _ ?_⟩
      simp only [if_neg e] at hx
      exact (h.mem.2.2 m fm hm).2 x hx
  · intro b hb'
    rcases List.mem_append.1 hb' with hb' | hb'
    · exact Nat.lt_of_lt_of_le (h.lt b hb') ht.size
    · exact hf.lt.2 b (by simpa using hb')
/-- A file has been laid under a name. -/
theorem DM.store (h : DM w d M Dm gb hb F D) (hr : Rises D.fs) (n : Nm) {g : Nat} {x : Option Nat} {f : Fil} {k : Nat} (hf : FileAt w g x f) (hg : w.ownsMap Tryz.prog 9 ptrElem M D.fs.length Dm → w'.ownsMap Tryz.prog 9 ptrElem M k (Dm.put (.string n) (.lit (.int .i64 (g : Int))))) (ht : Touch w w' [M])
    (hap : ∀ m fm, m ≠ n → get D.fs m = some fm → gb m ≠ g ∧ ∀ y, hb m = some y → x ≠ some y) :
    DM w' d M (Dm.put (.string n) (.lit (.int .i64 (g : Int)))) (fun m => if m = n then g else gb m) (fun m => if m = n then x else hb m) (F ++ g :: x.toList) { D with fs := put D.fs n f } := by
  obtain ⟨es, clock, hm, _⟩ := h.map
  have notMap : ∀ {c : Nat} {cs : Array Value} {t : TypeId}, w.heap[c]? = some (.cells cs t (0, 0)) → c ∉ [M] := by
    intro c cs t hc e
    have e : c = M := by simpa using e
    subst e
    rw [hm] at hc
    cases hc
  have farF : ∀ {g : Nat} {x : Option Nat} {f : Fil}, FileAt w g x f → FileAt w' g x f := by
    intro g x f hf
    have hf0 := hf
    obtain ⟨A, cap, h1, h2, h3⟩ := hf
    exact hf0.touch ht (notMap h1) fun y hy => by
      obtain ⟨cur, hc⟩ := own_lt h2 (h3.trans hy)
      exact notMap hc
  have hmp := hg h.map
  refine ⟨h.blk.touch ht (notMap h.blk), ?_, ?_, ?_, ?_, ?_, ?_⟩
  · have hsz : Maps.size (Dm.put (.string n) (.lit (.int .i64 (g : Int)))) ≤ (put D.fs n f).length := by
      have h1 := h.map.size_le
      have h2 := size_put (k := .string n) (h.map.tidy keyedS) (.lit (.int .i64 (g : Int)))
      rw [h.has] at h2
      cases hg : Dsk.get D.fs n with
      | none => rw [hg] at h2; rw [put_len_none hg, h2]; simp; omega
      | some f0 => rw [hg] at h2; rw [put_len_some hr hg, h2]; simp; omega
    obtain ⟨es', clock', hb', Ft, hs', e'⟩ := hmp
    refine ⟨es', clock', hb', Ft, ?_, e'⟩
    rw [e'] at hsz
    simpa [Maps.size, length_sorted] using hsz
  · intro m
    show _ = (get (put D.fs n f) m).isSome
    rw [get_put]
    by_cases e : m = n
    · subst e; rw [has_put_same h.map.isMap (isKey m)]; simp
    · rw [has_put_other (nm_ne e), h.has, if_neg e]
  · intro m fm hm'
    simp only [get_put] at hm'
    by_cases e : m = n
    · subst e
      rw [if_pos rfl] at hm'
      injection hm' with hm'
      subst hm'
      simp only [if_true]
      exact ⟨fun z => atKey_put_same h.map.isMap (isKey m) _ z, farF hf⟩
    · rw [if_neg e] at hm'
      simp only [if_neg e]
      exact ⟨fun z => by rw [atKey_put_other (nm_ne e)]; exact (h.at_ m fm hm').1 z, farF (h.at_ m fm hm').2⟩
  · intro m k' hmk h1 h2
    simp only [get_put] at h1 h2
    by_cases em : m = n
    · subst em
      have ek : k' ≠ m := fun e => hmk e.symm
      rw [if_neg ek] at h2
      obtain ⟨fk, hfk⟩ := Option.isSome_iff_exists.1 h2
      have h3 := hap k' fk ek hfk
      simp only [if_true, if_neg ek]
      exact ⟨h3.1.symm, fun y hy hy2 => h3.2 y hy2 hy⟩
    · rw [if_neg em] at h1
      obtain ⟨fm, hfm⟩ := Option.isSome_iff_exists.1 h1
      by_cases ek : k' = n
      · subst ek
        have h3 := hap m fm em hfm
        simp only [if_true, if_neg em]
        exact ⟨h3.1, fun y hy hy2 => h3.2 y hy hy2⟩
      · rw [if_neg ek] at h2
        simp only [if_neg em, if_neg ek]
        exact h.inj m k' hmk h1 h2
  · refine ⟨List.mem_append_left _ h.mem.1, List.mem_append_left _ h.mem.2.1, fun m fm hm' => ?_⟩
    simp only [get_put] at hm'
    by_cases e : m = n
    · subst e
      simp only [if_true]
      exact ⟨by simp, fun y hy => by simp [hy]⟩
    · rw [if_neg e] at hm'
      simp only [if_neg e]
      exact ⟨List.mem_append_left _ (h.mem.2.2 m fm hm').1, fun y hy => List.mem_append_left _ ((h.mem.2.2 m fm hm').2 y hy)⟩
  · intro b hb'
    rcases List.mem_append.1 hb' with hb' | hb'
    · exact Nat.lt_of_lt_of_le (h.lt b hb') ht.size
    · rcases List.mem_cons.1 hb' with rfl | hb'
      · exact (farF hf).lt.1
      · exact (farF hf).lt.2 b (by simpa using hb')
/-- A file has been taken away. -/
theorem DM.drop (h : DM w d M Dm gb hb F D) (hr : Rises D.fs) (n : Nm) {k : Nat} (hg : w.ownsMap Tryz.prog 9 ptrElem M D.fs.length Dm → w'.ownsMap Tryz.prog 9 ptrElem M k (Dm.del (.string n))) (ht : Touch w w' [M]) :
    DM w' d M (Dm.del (.string n)) gb hb F { D with fs := del D.fs n } := by
  obtain ⟨es, clock, hm, _⟩ := h.map
  have notMap : ∀ {c : Nat} {cs : Array Value} {t : TypeId}, w.heap[c]? = some (.cells cs t (0, 0)) → c ∉ [M] := by
    intro c cs t hc e
    have e : c = M := by simpa using e
    subst e
    rw [hm] at hc
    cases hc
  have old : ∀ m fm, get (del D.fs n) m = some fm → m ≠ n ∧ get D.fs m = some fm := by
    intro m fm hm'
    rw [get_del hr] at hm'
    by_cases e : m = n
    · rw [if_pos e] at hm'; cases hm'
    · rw [if_neg e] at hm'; exact ⟨e, hm'⟩
  have hmp := hg h.map
  refine ⟨h.blk.touch ht (notMap h.blk), ?_, ?_, ?_, ?_, ?_, ?_⟩
  · have hsz : Maps.size (Dm.del (.string n)) ≤ (del D.fs n).length := by
      have h1 := size_del (k := .string n) (h.map.tidy keyedS)
      have h3 := h.map.size_le
      rw [h.has] at h1
      cases hg : Dsk.get D.fs n with
      | none => rw [hg] at h1; have := del_len_none hg; simp at h1; omega
      | some f0 => rw [hg] at h1; have := del_len_some hg; simp at h1; omega
    obtain ⟨es', clock', hb', Ft, hs', e'⟩ := hmp
    refine ⟨es', clock', hb', Ft, ?_, e'⟩
    rw [e'] at hsz
    simpa [Maps.size, length_sorted] using hsz
  · intro m
    show _ = (get (del D.fs n) m).isSome
    rw [get_del hr]
    by_cases e : m = n
    · subst e; rw [has_del_same]; simp
    · rw [has_del_other (nm_ne e), h.has, if_neg e]
  · intro m fm hm'
    obtain ⟨e, hm'⟩ := old m fm hm'
    refine ⟨fun z => by rw [atKey_del_other (nm_ne e)]; exact (h.at_ m fm hm').1 z, ?_⟩
    obtain ⟨A, cap, h1, h2, h3⟩ := (h.at_ m fm hm').2
    exact (h.at_ m fm hm').2.touch ht (notMap h1) fun y hy => by
      obtain ⟨cur, hc⟩ := own_lt h2 (h3.trans hy)
      exact notMap hc
  · intro m k' hmk h1 h2
    obtain ⟨fm, hfm⟩ := Option.isSome_iff_exists.1 h1
    obtain ⟨fk, hfk⟩ := Option.isSome_iff_exists.1 h2
    exact h.inj m k' hmk (by rw [(old m fm hfm).2]; rfl) (by rw [(old k' fk hfk).2]; rfl)
  · exact ⟨h.mem.1, h.mem.2.1, fun m fm hm' => h.mem.2.2 m fm (old m fm hm').2⟩
  · exact fun b hb' => Nat.lt_of_lt_of_le (h.lt b hb') ht.size
/-- Looking a name up. -/
theorem DM.look (h : DM w d M Dm gb hb F D) (n : Nm) (hl : n.length ≤ 1000) (c : Bool) :
    (∀ f, get D.fs n = some f → (Instr.lookup 68 (.map (some M)) (S n) c).run Tryz.prog w = .ok (if c then .tuple #[ptr (gb n), .bool true] else ptr (gb n)) w) ∧
    (get D.fs n = none → (Instr.lookup 68 (.map (some M)) (S n) c).run Tryz.prog w = .ok (if c then .tuple #[.pointer none, .bool false] else .pointer none) w) := by
  cases c with
  | false =>
    obtain ⟨v, ps, h1, h2⟩ := h.map.lookup keyedS Tryz.underlying68 (zeroP w) ptr_nil (keyS n hl)
    refine ⟨fun f hf => ?_, fun hf => ?_⟩
    · rw [(h.at_ n f hf).1] at h2
      rw [h1, ptr_is h2]; rfl
    · rw [atKey_of_not_has (by rw [h.has, hf]; rfl)] at h2
      rw [h1, ptr_isnil h2]; rfl
  | true =>
    obtain ⟨v, ps, h1, h2⟩ := h.map.look_ok keyedS Tryz.underlying68 (zeroP w) ptr_nil (keyS n hl)
    refine ⟨fun f hf => ?_, fun hf => ?_⟩
    · rw [(h.at_ n f hf).1] at h2
      rw [h.has, hf] at h1
      rw [h1, ptr_is h2]; rfl
    · rw [atKey_of_not_has (by rw [h.has, hf]; rfl)] at h2
      rw [h.has, hf] at h1
      rw [h1, ptr_isnil h2]; rfl
end
end Go.Proofs.YtpckloafdlkefaaGreat
