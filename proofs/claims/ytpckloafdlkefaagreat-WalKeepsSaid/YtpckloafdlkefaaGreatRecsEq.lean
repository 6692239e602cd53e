/-
  The kit's Recs: whether records are the same.
-/
import Derived.Test.YtpckloafdlkefaaGreatWalB
namespace Go.Proofs.YtpckloafdlkefaaGreat
set_option maxRecDepth 40000
open Go.RowKit Go.Joins Regs

def RecsPost (w : World) (xs ys : List RP) (e : Ending) (w' : World) : Prop := e = .returned (.bool (decide (xs.map RP.r = ys.map RP.r))) ∧ Below w.heap.size w w'
set_option maxHeartbeats 2000000 in
theorem recs_any (v v' : Value) (lo hi lo' hi' : Nat) (xs ys : List RP) (w : World) (h : RL w lo hi v xs) (h' : RL w lo' hi' v' ys) (hup : hi ≤ w.heap.size) (hup' : hi' ≤ w.heap.size) :
    Calls Tryz.prog 19 #[v, v'] w (RecsPost w xs ys) := by
  have HB := hid h
  have HB' := hid h'
  obtain ⟨A, c, rfl, _, hnc, hcm⟩ := h.shape
  obtain ⟨A', c', rfl, _, hnc', hcm'⟩ := h'.shape
  obtain ⟨n, hn⟩ : ∃ n, n = xs.length := ⟨_, rfl⟩
  obtain ⟨n', hn'⟩ : ∃ n', n' = ys.length := ⟨_, rfl⟩
  have hn9 : n ≤ 9223372036854775807 := by unfold maxLen at hcm; omega
  have HL := hid hn
  have HL' := hid hn'
  rw [← hn, ← hn']
  rw [← hn] at HB
  rw [← hn'] at HB'
  clear h h' hnc hcm hnc' hcm' hn hn'
  unfold RecsPost
  by_cases hnn : n = n'
  case neg =>
    have hne : ((n : Int) != (n' : Int)) = true := by simp; omega
    have hdec : decide (xs.map RP.r = ys.map RP.r) = false := decide_eq_false fun e => hnn (by have := congrArg List.length e; rw [List.length_map, List.length_map] at this; rw [HL.out, HL'.out, this])
    rw [hdec]
    clear hdec
    go_enter Tryz.func19, Tryz.ntmps19
    go_wp2
    go_ret
    exact ⟨rfl, Below.refl _ _⟩
  case pos =>
    subst hnn
    go_enter Tryz.func19, Tryz.ntmps19
    go_wp2
    go_loopw [5] (fun i wr => ∃ (k : Nat), k ≤ n ∧ i = .int .i64 (k : Int) ∧ Hid (∀ j, j < k → (xs.map RP.r)[j]? = (ys.map RP.r)[j]?) ∧ Hid (Below w.heap.size w wr)) (fun i _ => n - (intOf i).toNat)
    case atStart => exact ⟨0, Nat.zero_le _, rfl, hid (fun j hj => by omega), hid (Below.refl _ _)⟩
    case round =>
      obtain ⟨k, hk, rfl, HALL, HBR⟩ := hrel
      by_cases hlt : k < n
      · obtain ⟨x, hx⟩ : ∃ x, xs[k]? = some x := ⟨xs[k]'(by rw [← HL.out]; exact hlt), List.getElem?_eq_getElem _⟩
        obtain ⟨y, hy⟩ : ∃ y, ys[k]? = some y := ⟨ys[k]'(by rw [← HL'.out]; exact hlt), List.getElem?_eq_getElem _⟩
        obtain ⟨b, off, cc, hv, _, hb2, hs, hb, _, _, hbx⟩ := HB.out.at_ hx
        obtain ⟨b', off', cc', hv', _, hb2', hs', hb', _, _, hby⟩ := HB'.out.at_ hy
        injection hv with hv1 hvn hv3
        injection hv' with hv1' hvn' hv3'
        subst hv1 hv3 hv1' hv3'
        clear hvn hvn'
        unfold RP.v at hb hb'
        rw [← Nat.add_assoc] at hb hb'
        have hm : x.n ≤ 9223372036854775807 := by have := hbx.2.2; unfold maxLen at this; omega
        have SM : Hid (∀ W, Below w.heap.size w W → Calls Tryz.prog 18 #[.slice x.A x.n x.c, .slice y.A y.n y.c] W fun e w' => e = .returned (.bool (decide (x.p = y.p))) ∧ Below w.heap.size w w') := hid fun W hW =>
          (same_any x.A y.A x.n y.n x.c y.c lo hi lo' hi' x.p y.p W (hbx.1.below hW hup) (hby.1.below hW hup') hm).mono fun e w' ⟨h1, j, h2⟩ => ⟨h1, by rw [h2]; exact below_drewN hW j⟩
        have K1 : Hid (∀ W, Below w.heap.size w W → (W.cell? ⟨b, off + k * 2, none⟩ = some (.int .u64 (x.s : Int)) ∧ W.cell? ⟨b, off + k * 2 + 1, none⟩ = some (.slice x.A x.n x.c)) ∧ W.cell? ⟨b', off' + k * 2, none⟩ = some (.int .u64 (y.s : Int)) ∧ W.cell? ⟨b', off' + k * 2 + 1, none⟩ = some (.slice y.A y.n y.c)) := hid fun W hW =>
          ⟨⟨(hW.cell (p := ⟨b, off + k * 2, none⟩) (by show b < _; omega)).trans hs, (hW.cell (p := ⟨b, off + k * 2 + 1, none⟩) (by show b < _; omega)).trans hb⟩, (hW.cell (p := ⟨b', off' + k * 2, none⟩) (by show b' < _; omega)).trans hs', (hW.cell (p := ⟨b', off' + k * 2 + 1, none⟩) (by show b' < _; omega)).trans hb'⟩
        have HX : Hid ((xs.map RP.r)[k]? = some (x.s, x.p)) := hid (by rw [List.getElem?_map, hx]; rfl)
        have HY : Hid ((ys.map RP.r)[k]? = some (y.s, y.p)) := hid (by rw [List.getElem?_map, hy]; rfl)
        have d12 := K1.out wr HBR.out
        have g1 : (k : Int) < (n : Int) := by omega
        obtain ⟨xs', xp, xA, xn, xc⟩ := x
        obtain ⟨ys', yp, yA, yn, yc⟩ := y
        simp only at SM K1 HX HY d12 hm
        clear hs hs' hb hb' hbx hby hx hy hm hb2 hb2'
        by_cases hq : xs' = ys'
        case neg =>
          have hqb : ((xs' : Int) != (ys' : Int)) = true := by simp; omega
          have HNE : Hid (¬ (xs.map RP.r = ys.map RP.r)) := hid fun e => by have h1 := HX.out; rw [e, HY.out] at h1; injection h1 with h1; injection h1 with h1; exact hq h1.symm
          clear hq
          go_wp2_with fail
          go_quiet (fail)
          go_wp2
          go_ret
          exact ⟨by rw [decide_eq_false HNE.out]; rfl, below_drewN HBR.out _⟩
        have hqb : ((xs' : Int) != (ys' : Int)) = false := by simp [hq]
        by_cases he : xp = yp
        case' pos =>
          have HD : Hid (decide (xp = yp) = true) := hid (decide_eq_true he)
        case' neg =>
          have HD : Hid (decide (xp = yp) = false) := hid (decide_eq_false he)
        all_goals
          rw [HD.out] at SM
          have HE := hid he
          clear he
          go_wp2_with fail
          go_region_held3 (fun W => (W.cell? ⟨b, off + k * 2, none⟩ = some (.int .u64 (xs' : Int)) ∧ W.cell? ⟨b, off + k * 2 + 1, none⟩ = some (.slice xA xn xc)) ∧ W.cell? ⟨b', off' + k * 2, none⟩ = some (.int .u64 (ys' : Int)) ∧ W.cell? ⟨b', off' + k * 2 + 1, none⟩ = some (.slice yA yn yc))
            (first | exact d12 | exact K1.out _ hb9)
            (first | (go_at_call 18; refine (SM.out _ (by exact (HBR.out).drew)).mono ?_; rintro e w9 ⟨rfl, hb9⟩))
          have HB9 := hid hb9
          clear hb9 d12
          first
            | (go_wp2
               go_ret
               exact ⟨by rw [decide_eq_false (fun e => HE.out (by have h1 := HX.out; rw [e, HY.out] at h1; injection h1 with h1; injection h1 with _ h1; exact h1.symm))]; rfl, HB9.out⟩)
            | (go_wp2
               go_roundw
               case rel =>
                 refine ⟨k + 1, by omega, by go_num, hid fun j hj => ?_, HB9⟩
                 rcases Nat.lt_or_ge j k with hj' | hj'
                 · exact HALL.out j hj'
                 · obtain rfl : j = k := by omega
                   rw [HX.out, HY.out, HE.out, hq]
               case measure => simp [intOf]; omega)
      · obtain rfl : k = n := by omega
        have hdec : decide (xs.map RP.r = ys.map RP.r) = true := decide_eq_true (by
          apply List.ext_getElem?
          intro j
          rcases Nat.lt_or_ge j k with hj | hj
          · exact HALL.out j hj
          · rw [List.getElem?_eq_none (by rw [List.length_map, ← HL.out]; exact hj), List.getElem?_eq_none (by rw [List.length_map, ← HL'.out]; exact hj)])
        have HDEC := hid hdec
        clear hdec
        go_wp2
        go_ret
        exact ⟨by rw [HDEC.out]; rfl, HBR.out⟩
end Go.Proofs.YtpckloafdlkefaaGreat
