/-
  Helpers of chapter 6's laws: a name by its number, numbers in memory of their own, an act's fuse.
-/
import Derived.Test.YtkadljomimpnjaaDiskAt
import Derived.Test.YtkadljomimpnjaaActs
namespace Go.Proofs.Ytkadljomimpnjaa
open Go.RowKit Go.Maps Dsk

def nmList : List Nm := [[97], [98], [108, 111, 103], [98, 97, 115, 101], [110, 101, 120, 116], [122, 57], [97, 32, 98], [], [97, 98, 99, 100, 101, 102, 103, 104, 105, 106, 107, 108, 109, 110, 111, 112, 113]]
def nm (n : Int) : Nm := nmList.getD (n % 9).toNat []
theorem nm_len (n : Int) : (nm n).length ≤ 1000 := by
  have h : ∀ x ∈ nmList, x.length ≤ 1000 := by decide
  unfold nm
  rw [List.getD_eq_getElem?_getD]
  cases e : nmList[(n % 9).toNat]? with
  | none => simp
  | some x => simpa using h x (List.mem_of_getElem? e)
theorem mod_nine (n : Int) : ∃ k : Nat, k < 9 ∧ n % 9 = (k : Int) := ⟨(n % 9).toNat, by omega, by omega⟩
theorem nm_is {n : Int} {k : Nat} {x : Nm} (h : n % 9 = (k : Int)) (hx : nmList[k]? = some x) : nm n = x := by
  unfold nm
  rw [h, Int.toNat_natCast, List.getD_eq_getElem?_getD, hx]
  rfl
set_option maxHeartbeats 4000000 in
set_option maxRecDepth 20000 in
theorem name_any (n : Int) (w : World) : Calls Try.prog 25 #[.int .i64 n] w fun e w' => e = .returned (S (nm n)) ∧ Below w.heap.size w w' := by
  obtain ⟨k, hk, hm⟩ := mod_nine n
  have W1 : Hid (∀ W : World, Calls Try.prog 31 #[.int .i64 n, .int .i64 9] W fun e w' => e = .returned (.int .i64 (k : Int)) ∧ w' = W) := fun W => (pick_at n 9 k W (by omega) (by omega) hm).mono fun _ _ ⟨h, e⟩ => ⟨h, e.symm⟩
  obtain ⟨x, hx⟩ : ∃ x, nmList[k]? = some x := ⟨nmList[k]'hk, List.getElem?_eq_getElem _⟩
  rw [nm_is hm hx]
  clear hm
  match k, hk with
  | 0, _ | 1, _ | 2, _ | 3, _ | 4, _ | 5, _ | 6, _ | 7, _ | 8, _ =>
    injection hx with hx
    subst hx
    go_enter Try.func25, Try.ntmps25
    go_wp2_with fail
    refine (W1.out _).mono ?_
    rintro e w1 ⟨rfl, rfl⟩
    go_wp2
    go_ret
    exact ⟨rfl, (Below.refl _ w).alloc (Nat.le_refl _) _⟩

theorem infoI : (Try.prog.info? 3).map (fun i => (i.zero, i.size, i.bytes)) = some (some (.int .i64 0), 1, 8) := by kernel_rfl
theorem I_one (l : List Int) : ∀ u ∈ I l, u.oneCell' = true := by
  intro u hu
  obtain ⟨x, _, rfl⟩ := List.mem_map.1 hu
  rfl
def FreshI (w : World) (l : List Int) (e : Ending) (w' : World) : Prop :=
  ∃ A n c, e = .returned (.slice A n c) ∧ Hid (l.length = n) ∧ Hid (A = none → c = 0) ∧ w'.ownsRow w.heap.size 3 1 (.slice A n c) n (I l) ∧ Below w.heap.size w w'
set_option maxRecDepth 20000 in
theorem own_ints (A : Option Addr) (n c lo up : Nat) (l : List Int) (w : World) (h : Row w lo up A n (I l)) (hA : A = none → c = 0) (hup : up ≤ w.heap.size) (hn : n ≤ 1000000) :
    Calls Try.prog 29 #[.slice A n c] w (FreshI w l) := by
  obtain ⟨i0, hi, hz0, hz1, hz2⟩ := info_parts infoI
  go_enter Try.func29, Try.ntmps29
  go_wp2_with (at_builtin; refine wpList_append_row _ rfl _ _ 36 rfl w.heap.size 3 i0 (.int .i64 0) 8 Try.underlying36 hi hz0 hz1 hz2 rfl (.slice (some ⟨w.heap.size, 0, none⟩) 0 0) 0 [] rfl (World.ownsRow_made w #[] 0 (Nat.le_refl _) (by decide) rfl) lo up A n c rfl hA (I l) (h.alloc hup _) (I_one l) (by unfold maxLen; omega) (by omega) (by simp) ?_; intro v' w1 hown hgrow _)
  have hb : Below w.heap.size w w1 := ((Below.refl _ _).alloc (Nat.le_refl _) _).grown hgrow (by simp) (by intro k hk; simp [Value.ownBlock] at hk; omega)
  go_ret
  rw [Nat.zero_add, List.nil_append] at hown
  obtain ⟨A, c, rfl, hA, _⟩ := own_shape hown
  exact ⟨A, n, c, rfl, by have := h.len; rwa [I_len] at this, hA, hown, hb⟩
/-- What is owned behind base may be handed to a disk whose blocks lie ahead of it. -/
theorem own_arg {w : World} {F : List Nat} {base : Nat} {e : TypeId} {A : Option Addr} {n c : Nat} {xs : List Value} (h : w.ownsRow base e 1 (.slice A n c) n xs) (hF : ∀ b ∈ F, b < base) : Arg w F w.heap.size A n c xs := by
  obtain ⟨A', c', e1, h1, h2⟩ := own_shape h
  injection e1 with e1 _ e3
  subst e1 e3
  refine ⟨base, Row.of_own h, Nat.le_refl _, fun b hb => .inl (hF b hb), h1, h2, ?_⟩
  rcases h.2 with ⟨h3, _⟩ | ⟨g, cap', cur, e1, h3, h4, h5⟩
  · injection h3 with _ _ h3; subst h3; exact Nat.zero_le _
  · injection e1 with _ _ e1
    subst e1
    exact h5.2.1
def fuseOf (n : Int) : Int := if n < 0 then -1 else n % 12
theorem fuse_neg {n : Int} (h : n < 0) : fuseOf n = -1 := by unfold fuseOf; rw [if_pos h]
theorem fuse_pos {n : Int} (h : 0 ≤ n) : fuseOf n = n % 12 := by unfold fuseOf; rw [if_neg (by omega)]
theorem fuse_any (a : Ar) (w : World) (h : (Lit.int .i64 a.n).wf = true) : Calls Try.prog 52 #[.agg a.cells.toArray] w fun e w' => e = .returned (.int .i64 (fuseOf a.n)) ∧ Below w.heap.size w w' := by
  obtain ⟨h1, h2⟩ := wf_i64 h
  have hc : a.cells.toArray = #[.int .i64 a.kind, .int .i64 a.name, .int .i64 a.to, .int .i64 a.n, .slice a.ba a.bl a.bc, .slice a.ka a.kl a.kc] := rfl
  rw [hc]
  generalize a.n = n at *
  by_cases hneg : n < 0
  · rw [fuse_neg hneg]
    go_enter Try.func52, Try.ntmps52
    go_wp2
    go_ret
    exact ⟨rfl, (Below.refl _ w).alloc (Nat.le_refl _) _⟩
  · have hp : 0 ≤ n := by omega
    rw [fuse_pos hp]
    go_enter Try.func52, Try.ntmps52
    go_wp2
    go_ret
    exact ⟨rfl, (Below.refl _ w).alloc (Nat.le_refl _) _⟩
end Go.Proofs.Ytkadljomimpnjaa
