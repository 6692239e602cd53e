/-
  The walk of FrameJoins.
-/
import Derived.Test.YtdbbgcbdkafghaaGoes
import Derived.Test.YtdbbgcbdkafghaaJoins7
namespace Go.Proofs.Ytdbbgcbdkafghaa
open Go.RowKit Go.Joins Regs

/-- An append onto a row of the call's own, at an operation that is asked for. -/
theorem wpList_append_row_asked {P : Program} (w : World) {ops : Array Oper} {rest : List Oper} {o : Oper} {a : Act} {Q : Exit → Act → World → Prop} (hwant : Region.wanted o (yielded ops a.tmps) = true) (s x : Operand) (t : TypeId)
    (ho : o.op = .call { callee := .builtin .append, args := #[s, x], argTypes := #[t, t] })
    (base : Nat) (e : TypeId) (i : TypeInfo) (z : Value) (bytes : Nat) (ht : P.underlying t = some (.slice e)) (hi : P.info? e = some i) (hz : i.zero = some z)
    (hsize : i.size = 1) (hby : i.bytes = bytes) (hzs : z.cells.size = 1) (v : Value) (n : Nat) (xs : List Value) (hs : a.eval s = v) (hown : w.ownsRow base e 1 v n xs)
    (lo up : Nat) (A : Option Addr) (m c : Nat) (hx : a.eval x = .slice A m c) (hA : A = none → c = 0) (news : List Value) (hr : Row w lo up A m news) (h1 : ∀ u ∈ news, u.oneCell' = true)
    (h63 : n + m ≤ maxLen) (hbytes : (n + m) * bytes ≤ 140737488355328) (hbase : base ≤ w.heap.size)
    (h : ∀ v' w', w'.ownsRow base e 1 v' (n + m) (xs ++ news) → w.grownBy w' v.ownBlock → (v'.ownBlock = v.ownBlock ∨ v'.ownBlock = some w.heap.size) → wpList P ops Q rest (a.put o.dst v') w') :
    wpList P ops Q (o :: rest) a w :=
  wpList_step fun K hK => by
    rw [if_pos hwant]
    obtain ⟨v', w', hr, h2, h3, h5⟩ := run_append_row (P := P) w base t o.type e i z bytes ht hi hz hsize hby hzs v n xs hown lo up A m c hA news hr h1 h63 hbytes hbase
    unfold Oper.wp execOp
    simp only [ho, resolve, invoke, builtin, Sem.run_bind, Sem.run_pure, Result.andThen_ok, List.map_toArray, List.map_cons, List.map_nil, hs, hx, hr]
    exact hK _ _ (h v' w' h2 h3 h5)
theorem slices_one {lo up : Nat} {w : World} {A : Option Addr} {n : Nat} {ls : List (List UInt8)} {vs : List Value} (h : BL w lo up A n ls vs) : ∀ u ∈ vs, u.oneCell' = true := by
  intro u hu
  obtain ⟨k, hk, rfl⟩ := List.mem_iff_getElem.1 hu
  have hk2 : k < ls.length := by rw [h.len, ← h.row.len]; exact hk
  obtain ⟨B, m, c, e, _⟩ := h.at_ k ls[k] (List.getElem?_eq_getElem hk2)
  rw [List.getElem?_eq_getElem hk] at e
  injection e with e
  rw [e]
  rfl
/-- Slices that read as these bytes. -/
def Each (w : World) (lo hi : Nat) (ls : List (List UInt8)) (vs : List Value) : Prop :=
  ls.length = vs.length ∧ ∀ (k : Nat) (l : List UInt8), ls[k]? = some l → ∃ B m c, vs[k]? = some (.slice B m c) ∧ Row w lo hi B m (U l) ∧ (B = none → c = 0) ∧ m ≤ c ∧ c ≤ maxLen
theorem BL.each {w : World} {lo hi n : Nat} {A : Option Addr} {ls : List (List UInt8)} {vs : List Value} (h : BL w lo hi A n ls vs) : Each w lo hi ls vs := ⟨by rw [h.len, h.row.len], h.at_⟩
theorem Each.bl {w : World} {lo hi n : Nat} {A : Option Addr} {ls : List (List UInt8)} {vs : List Value} (h : Each w lo hi ls vs) (hr : Row w lo hi A n vs) : BL w lo hi A n ls vs := ⟨hr, by rw [h.1, hr.len], h.2⟩
theorem Each.wide {w : World} {lo hi lo' hi' : Nat} {ls : List (List UInt8)} {vs : List Value} (h : Each w lo hi ls vs) (h1 : lo' ≤ lo) (h2 : hi ≤ hi') : Each w lo' hi' ls vs :=
  ⟨h.1, fun k l hk => by
    obtain ⟨B, m, c, e, hr, r⟩ := h.2 k l hk
    exact ⟨B, m, c, e, hr.wide h1 h2, r⟩⟩
theorem Each.below {w w' : World} {lo hi : Nat} {ls : List (List UInt8)} {vs : List Value} (h : Each w lo hi ls vs) {B : Nat} (hb : Below B w w') (hB : hi ≤ B) : Each w' lo hi ls vs :=
  ⟨h.1, fun k l hk => by
    obtain ⟨B, m, c, e, hr, r⟩ := h.2 k l hk
    exact ⟨B, m, c, e, hr.below hb hB, r⟩⟩
theorem Each.grown {w w' : World} {lo hi : Nat} {ls : List (List UInt8)} {vs : List Value} (h : Each w lo hi ls vs) {row : Option Nat} (hg : w.grownBy w' row) (hB : hi ≤ w.heap.size) (hr : ∀ g, row = some g → g < lo ∨ hi ≤ g) : Each w' lo hi ls vs :=
  ⟨h.1, fun k l hk => by
    obtain ⟨B, m, c, e, hrr, r⟩ := h.2 k l hk
    exact ⟨B, m, c, e, hrr.grown hg hB hr, r⟩⟩
theorem Each.append {w : World} {lo hi : Nat} {ls ms : List (List UInt8)} {vs us : List Value} (h : Each w lo hi ls vs) (h' : Each w lo hi ms us) : Each w lo hi (ls ++ ms) (vs ++ us) := by
  refine ⟨by rw [List.length_append, List.length_append, h.1, h'.1], fun k x hk => ?_⟩
  rcases Nat.lt_or_ge k ls.length with hkn | hkn
  · rw [List.getElem?_append_left hkn] at hk
    obtain ⟨D, q, c, f1, f2⟩ := h.2 k x hk
    exact ⟨D, q, c, by rw [List.getElem?_append_left (by rw [← h.1]; exact hkn)]; exact f1, f2⟩
  · rw [List.getElem?_append_right hkn] at hk
    obtain ⟨D, q, c, f1, f2⟩ := h'.2 _ x hk
    exact ⟨D, q, c, by rw [List.getElem?_append_right (by rw [← h.1]; exact hkn), ← h.1]; exact f1, f2⟩
theorem each_paid {w : World} {n₀ : Nat} {xs : List Pay} (h : ∀ x ∈ xs, Paid n₀ x w) : Each w n₀ w.heap.size (xs.map (·.p)) (xs.map Pay.v) := by
  refine ⟨by simp, fun k l hk => ?_⟩
  rw [List.getElem?_map] at hk
  cases hx : xs[k]? with
  | none => rw [hx] at hk; cases hk
  | some x =>
    rw [hx] at hk
    simp only [Option.map_some, Option.some.injEq] at hk
    subst hk
    obtain ⟨q1, q2, q3⟩ := h x (List.mem_of_getElem? hx)
    have qc := own_caps q3
    exact ⟨x.A, x.n, x.c, by rw [List.getElem?_map, hx]; rfl, Row.of_own q3, q2, qc.1, qc.2⟩
set_option maxHeartbeats 4000000 in
set_option maxRecDepth 20000 in
theorem fjoins_walk (A : Option Addr) (n c : Nat) (ls : List (List UInt8)) (vs : List Value) (B : Option Addr) (m d : Nat) (q : List UInt8) (w : World) (hR : BL w 0 w.heap.size A n ls vs) (hA : A = none → c = 0) (hn : n ≤ c ∧ c ≤ maxLen) (hQ : Row w 0 w.heap.size B m (U q)) (hB : B = none → d = 0) (hd : m ≤ d ∧ d ≤ maxLen) :
    Calls Try.prog 8 #[.slice A n c, .slice B m d] w fun e w' => e = .returned (.bool true) ∧ Below w.heap.size w w' := by
  obtain ⟨i0, hi, hz0, hz1, hz2⟩ := info_parts info5
  obtain ⟨i1, hi1, hz10, hz11, hz12⟩ := info_parts info_slice
  have LV := hid (lives7_any w)
  have hql : q.length = m := by have := hQ.len; rwa [U_len] at this
  have RL : Hid (∀ W, Below w.heap.size w W → BL W 0 w.heap.size A n ls vs) := hid fun W hW => hR.below hW (Nat.le_refl _)
  have RQ : Hid (∀ W, Below w.heap.size w W → Row W 0 w.heap.size B m (U q)) := hid fun W hW => hQ.below hW (Nat.le_refl _)
  have HQL := hid hql
  have HLL := hid hR.len
  have HA := hid hA
  have HBN := hid hB
  clear hR hQ hA hB hql
  go_enter Try.func8, Try.ntmps8
  go_wp2_with fail
  refine LV.out.mono ?_
  rintro e w1 ⟨rfl, hb1⟩
  have HB1 := hid hb1
  clear LV hb1
  have LT := hid (lightb_any A n c 0 w.heap.size ls vs 60 400 w1 (RL.out w1 HB1.out) (by have := hn; unfold maxLen at this; omega))
  go_wp2_with fail
  refine LT.out.mono ?_
  rintro e w2 ⟨lb, rfl, hlight, rfl⟩
  cases lb
  case false =>
    go_wp2
    go_ret
    exact ⟨rfl, HB1.out⟩
  obtain ⟨hmany, hlong⟩ := hlight rfl
  have hn6 : n ≤ 60 := by rw [HLL.out] at hmany; exact hmany
  have HLONG := hid hlong
  clear LT hlong hmany hlight
  by_cases hm : 400 < m
  · go_wp2
    go_ret
    exact ⟨rfl, HB1.out⟩
  have JO := hid (joined_any A n c 0 w.heap.size ls vs w2 (RL.out w2 HB1.out) HB1.out.size hn6 HLONG.out)
  go_wp2_with fail
  refine JO.out.mono ?_
  rintro e w3 ⟨A3, n3, c3, B3, d3, rfl, hl3, hA3, hown3, _, hb3⟩
  have hn3 : n3 ≤ 60 * 408 := by
    have := flat_short HLONG.out n
    rw [List.take_of_length_le (by rw [HLL.out]; exact Nat.le_refl _), hl3.out] at this
    omega
  have HB3 := hid (HB1.out.trans (hb3.mono HB1.out.size))
  have OW := hid (own_any A3 n3 c3 w2.heap.size w3.heap.size (flat ls) w3 (Row.of_own hown3) hA3.out (Nat.le_refl _) (by omega))
  clear hown3 hb3 JO
  go_wp2_with fail
  refine OW.out.mono ?_
  rintro e w4 ⟨A4, n4, c4, rfl, hl4, hA4, hown4, hb4⟩
  have hn4 : n4 = n3 := by rw [← hl4.out]; exact hl3.out
  subst hn4
  have HO4 := hid hown4
  have HB4 := hid (HB3.out.trans (hb4.mono HB3.out.size))
  have hs4 : w3.heap.size ≤ w4.heap.size := hb4.size
  have hs3 : w.heap.size ≤ w3.heap.size := HB3.out.size
  clear hown4 hb4 OW
  go_wp2_with (at_builtin; go_loud (refine wpList_append_row _ rfl _ _ 22 rfl w3.heap.size 5 i0 (.int .u8 0) 1 Try.underlying22 hi hz0 hz1 hz2 rfl _ n4 _ rfl HO4.out 0 w.heap.size B m d rfl HBN.out (U q) (RQ.out w4 HB4.out) (U_one _) (by unfold maxLen; omega) (by omega) hs4 ?_); intro v5 w5 own5 grow5 at5; obtain ⟨A5, c5, rfl, hA5, _⟩ := own_shape own5)
  rw [← U_append] at own5
  have HB5 := hid (HB4.out.grown grow5 HB4.out.size (fun g hg => Nat.le_trans hs3 (HO4.out.lt g hg).1))
  have SC := hid (scan_any A5 (n4 + m) c5 w3.heap.size w5.heap.size (flat ls ++ q) w5 (Row.of_own own5) hA5 (Nat.le_refl _) (own_caps own5) (by omega))
  clear own5 grow5 at5 hA5
  refine SC.out.mono ?_
  rintro e w6 ⟨ps, r, A6, n6, c6, vs6, rfl, hS6, hBL6, hA6, hc6, hc6', hb6⟩
  have HB6 := hid (HB5.out.trans (hb6.mono HB5.out.size))
  clear hb6 SC
  have SQ := hid (scan_any B m d 0 w.heap.size q w6 (RQ.out w6 HB6.out) HBN.out HB6.out.size hd (by omega))
  go_wp2_with fail
  refine SQ.out.mono ?_
  rintro e w7 ⟨qs, s, A7, n7, c7, vs7, rfl, hS7, hBL7, hA7, hc7, hc7', hb7⟩
  have HPS : Hid (ps = ls ++ qs) := hid (scans_unique hS6.out (scans_join (fun p hp => by have := HLONG.out p hp; omega) hS7.out)).1
  have hlq : q.length = (flat qs).length + s.length := by have := congrArg List.length hS7.out.bytes; rwa [List.length_append] at this
  have hqn : qs.length = n7 := hBL7.out.len
  have hmq := flat_many qs
  have hfl : (flat ps).length = (flat ls).length + (flat qs).length := by rw [HPS.out, flat_append, List.length_append]
  rw [hl3.out] at hfl
  rw [HQL.out] at hlq
  obtain ⟨z6, hz6⟩ : ∃ z, z = (flat ps).length := ⟨_, rfl⟩
  obtain ⟨z7, hz7⟩ : ∃ z, z = (flat qs).length := ⟨_, rfl⟩
  rw [← hz6, ← hz7] at hfl
  rw [← hz7] at hlq hmq
  rw [← hz6, ← hz7]
  have hn7 : n7 ≤ 60 := by omega
  have hz7m : z7 ≤ 400 := by omega
  clear hz6 hz7 hlq hmq hS6 hS7 hqn
  have HB7 := hid (HB6.out.trans (hb7.mono HB6.out.size))
  have HBL6 := hid (hBL6.out.below hb7 (Nat.le_refl _))
  have Z56 : w6.heap.size ≤ w7.heap.size := hb7.size
  clear hb7 SQ hBL6
  have OL := hid (ownlists_any A n c 0 w.heap.size ls vs w7 (RL.out w7 HB7.out) HB7.out.size (by omega) (fun l hl => by have := HLONG.out l hl; omega))
  have heq : ((z6 : Int) == ((n4 : Int) + (z7 : Int))) = true := by simp; omega
  go_wp2_with fail
  refine OL.out.mono ?_
  rintro e w8 ⟨xs, v8, rfl, hx8, hown8, hpd8, hb8⟩
  have hxl : xs.length = n := by have := congrArg List.length hx8.out; rw [List.length_map] at this; rw [this]; exact HLL.out
  have HO8 := hid hown8
  have HB8 := hid (HB7.out.trans (hb8.mono HB7.out.size))
  have Z78 : w7.heap.size ≤ w8.heap.size := hb8.size
  have E7 := hid (hBL7.out.each.below hb8 (Nat.le_refl _))
  have R7 := hid (hBL7.out.row.below hb8 (Nat.le_refl _))
  have S7 := hid (slices_one hBL7.out)
  have HBL6' := hid (HBL6.out.below hb8 Z56)
  clear hown8 hb8 OL HBL6 hBL7
  go_wp2_with (at_builtin; go_loud (refine wpList_append_row_asked _ (by kernel_rfl) _ _ 26 rfl w7.heap.size 22 i1 (.slice none 0 0) 24 Try.underlying26 hi1 hz10 hz11 hz12 rfl _ xs.length _ rfl HO8.out w6.heap.size w7.heap.size A7 n7 c7 rfl hA7.out vs7 R7.out S7.out (by unfold maxLen; omega) (by omega) Z78 ?_); intro v9 w9 own9 grow9 at9; obtain ⟨A9, c9, rfl, hA9, _⟩ := own_shape own9)
  have hg9 : ∀ g, v8.ownBlock = some g → w7.heap.size ≤ g := fun g hg => (HO8.out.lt g hg).1
  have Ex : Each w9 w7.heap.size w9.heap.size (xs.map (·.p)) (xs.map Pay.v) := each_paid (fun x hx => (hpd8.out x hx).kept grow9 (own_apart (by decide) (hpd8.out x hx).2.2 HO8.out))
  have Eq7 : Each w9 w6.heap.size w7.heap.size qs vs7 := E7.out.grown grow9 Z78 (fun g hg => .inr (hg9 g hg))
  have Z89 : w8.heap.size ≤ w9.heap.size := grow9.size
  have EA := (Ex.wide Z56 (Nat.le_refl _)).append (Eq7.wide (Nat.le_refl _) (by omega))
  have BA := EA.bl ((Row.of_own own9).wide Z56 (Nat.le_refl _))
  rw [hx8.out, ← HPS.out, hxl] at BA
  have HB9 := hid (HB8.out.grown grow9 HB8.out.size (fun g hg => Nat.le_trans HB7.out.size (hg9 g hg)))
  have B6 : BL w9 w5.heap.size w6.heap.size A6 n6 ps vs6 := HBL6'.out.row.grown grow9 (by omega) (fun g hg => .inr (by have := hg9 g hg; omega)) |> (HBL6'.out.each.grown grow9 (by omega) (fun g hg => .inr (by have := hg9 g hg; omega))).bl
  have LS := lists_any A6 A9 n6 (n + n7) c6 c9 _ _ _ _ ps ps vs6 _ w9 B6 BA (by omega) (Nat.le_refl _) (by unfold maxLen at hc6'; omega)
  rw [decide_eq_true rfl] at LS
  have LS2 := hid LS
  clear LS BA EA Eq7 Ex B6 own9 grow9 at9 hA9
  refine LS2.out.mono ?_
  rintro e w10 ⟨rfl, hb10⟩
  have HB10 := hid (HB9.out.trans (hb10.mono HB9.out.size))
  clear hb10 LS2
  go_wp2
  go_ret
  exact ⟨rfl, HB10.out⟩
end Go.Proofs.Ytdbbgcbdkafghaa
