/-
  A log in plain words: records, their payloads, what is read of bytes; what follows.
  Contracts of wal's Cost, whole, record; records in memory.
  Records in memory; contracts of wal's record, mapped and Scan.
-/
import Derived.Test.YtpckloafdlkefaaGreatFrameMath
import Derived.Test.YtpckloafdlkefaaGreatScanAll
import Derived.Test.YtpckloafdlkefaaGreatNums
import Derived.Deep.RegionHeld3
import Derived.Deep.RegionLaw
import Derived.OwnWalk
namespace Go.Proofs.YtpckloafdlkefaaGreat
set_option maxRecDepth 40000
open Regs

abbrev Rec := Nat × List UInt8
def pay (r : Rec) : List UInt8 := putB (r.1 : Int) 8 ++ r.2
def seqOf (p : List UInt8) : Nat := num (p.take 8)
def recOf (p : List UInt8) : Rec := (seqOf p, p.drop 8)
/-- May this payload be the next record? -/
def good (nx : Option Nat) (p : List UInt8) : Prop := 8 ≤ p.length ∧ 1 ≤ seqOf p ∧ seqOf p ≤ 4611686018427387904 ∧ (nx = none ∨ nx = some (seqOf p))
instance (nx : Option Nat) (p : List UInt8) : Decidable (good nx p) := by unfold good; exact inferInstance
def recs : Option Nat → List (List UInt8) → List Rec
  | _, [] => []
  | nx, p :: ps => if good nx p then recOf p :: recs (some (seqOf p + 1)) ps else []
theorem recs_len (nx : Option Nat) (ps : List (List UInt8)) : (recs nx ps).length ≤ ps.length := by
  induction ps generalizing nx with
  | nil => simp [recs]
  | cons p ps ih =>
    simp only [recs]
    split
    · simp only [List.length_cons]; have := ih (some (seqOf p + 1)); omega
    · simp
theorem recs_map (nx : Option Nat) (ps : List (List UInt8)) : (ps.take (recs nx ps).length).map recOf = recs nx ps := by
  induction ps generalizing nx with
  | nil => simp [recs]
  | cons p ps ih =>
    simp only [recs]
    split
    · rw [List.length_cons, List.take_succ_cons, List.map_cons, ih]
    · simp
theorem pay_rec {p : List UInt8} (h : 8 ≤ p.length) : pay (recOf p) = p := by
  unfold pay recOf seqOf
  rw [putB_num _ 8 (by rw [List.length_take]; omega), List.take_append_drop]
theorem pay_len (r : Rec) : (pay r).length = 8 + r.2.length := by unfold pay; rw [List.length_append, putB_len]
theorem num_put8 (x : Nat) (h : x ≤ 4611686018427387904) : num (putB (x : Int) 8) = x := by
  rw [num_putB, Int.toNat_natCast]
  exact Nat.mod_eq_of_lt (by have e : (256 : Nat) ^ 8 = 18446744073709551616 := by decide
                             omega)
theorem rec_pay {r : Rec} (h : r.1 ≤ 4611686018427387904) : recOf (pay r) = r := by
  unfold recOf seqOf pay
  rw [List.take_append_of_le_length (by rw [putB_len]; exact Nat.le_refl _), List.take_of_length_le (by rw [putB_len]; exact Nat.le_refl _), num_put8 _ h, List.drop_append_of_le_length (by rw [putB_len]; exact Nat.le_refl _), List.drop_of_length_le (by rw [putB_len]; exact Nat.le_refl _), List.nil_append]
theorem recs_pay (nx : Option Nat) (ps : List (List UInt8)) : (recs nx ps).map pay = ps.take (recs nx ps).length := by
  induction ps generalizing nx with
  | nil => simp [recs]
  | cons p ps ih =>
    simp only [recs]
    split
    · rename_i h
      rw [List.length_cons, List.take_succ_cons, List.map_cons, ih, pay_rec h.1]
    · simp

/-- Records whose Seqs may be there, one behind the other. -/
def Chain : Option Nat → List Rec → Prop
  | _, [] => True
  | nx, r :: rs => 1 ≤ r.1 ∧ r.1 ≤ 4611686018427387904 ∧ (nx = none ∨ nx = some r.1) ∧ Chain (some (r.1 + 1)) rs
def nxt : Option Nat → List Rec → Option Nat
  | nx, [] => nx
  | _, r :: rs => nxt (some (r.1 + 1)) rs
theorem chain_recs (nx : Option Nat) (ps : List (List UInt8)) : Chain nx (recs nx ps) := by
  induction ps generalizing nx with
  | nil => trivial
  | cons p ps ih =>
    simp only [recs]
    split
    · rename_i h
      exact ⟨h.2.1, h.2.2.1, h.2.2.2, ih _⟩
    · trivial
theorem recs_chain {nx : Option Nat} {rs : List Rec} (h : Chain nx rs) : recs nx (rs.map pay) = rs := by
  induction rs generalizing nx with
  | nil => rfl
  | cons r rs ih =>
    obtain ⟨h1, h2, h3, h4⟩ := h
    have hr := rec_pay h2
    have hs : seqOf (pay r) = r.1 := congrArg Prod.fst hr
    simp only [List.map_cons, recs]
    rw [if_pos ⟨by rw [pay_len]; omega, by rw [hs]; exact h1, by rw [hs]; exact h2, by rw [hs]; exact h3⟩, hr, hs, ih h4]
theorem recs_more {nx : Option Nat} {rs : List Rec} (h : Chain nx rs) (ps : List (List UInt8)) : recs nx (rs.map pay ++ ps) = rs ++ recs (nxt nx rs) ps := by
  induction rs generalizing nx with
  | nil => rfl
  | cons r rs ih =>
    obtain ⟨h1, h2, h3, h4⟩ := h
    have hr := rec_pay h2
    have hs : seqOf (pay r) = r.1 := congrArg Prod.fst hr
    simp only [List.map_cons, List.cons_append, recs, nxt]
    rw [if_pos ⟨by rw [pay_len]; omega, by rw [hs]; exact h1, by rw [hs]; exact h2, by rw [hs]; exact h3⟩, hr, hs, ih h4]
theorem chain_snoc {nx : Option Nat} {rs : List Rec} (h : Chain nx rs) (r : Rec) (h1 : 1 ≤ r.1) (h2 : r.1 ≤ 4611686018427387904) (h3 : nxt nx rs = none ∨ nxt nx rs = some r.1) : Chain nx (rs ++ [r]) := by
  induction rs generalizing nx with
  | nil => exact ⟨h1, h2, h3, trivial⟩
  | cons q rs ih =>
    obtain ⟨g1, g2, g3, g4⟩ := h
    exact ⟨g1, g2, g3, ih g4 h3⟩
theorem nxt_snoc (nx : Option Nat) (rs : List Rec) (r : Rec) : nxt nx (rs ++ [r]) = some (r.1 + 1) := by
  induction rs generalizing nx with
  | nil => rfl
  | cons q rs ih => exact ih _
theorem chain_take {nx : Option Nat} {rs : List Rec} (h : Chain nx rs) (k : Nat) : Chain nx (rs.take k) := by
  induction rs generalizing nx k with
  | nil => rw [List.take_nil]; trivial
  | cons r rs ih => cases k with
    | zero => trivial
    | succ k => exact ⟨h.1, h.2.1, h.2.2.1, ih h.2.2.2 k⟩
/-- The bytes of records in a log. -/
def logB (rs : List Rec) : List UInt8 := flat (rs.map pay)
theorem logB_append (rs qs : List Rec) : logB (rs ++ qs) = logB rs ++ logB qs := by unfold logB; rw [List.map_append, flat_append]
theorem logB_one (r : Rec) : logB [r] = frm (pay r) := by simp [logB, flat]
theorem logB_len_snoc (rs : List Rec) (r : Rec) : (logB (rs ++ [r])).length = (logB rs).length + (16 + r.2.length) := by
  rw [logB_append, List.length_append, logB_one, frm_len, pay_len]
  omega
/-- What is read of a log's bytes: the records, and how many bytes they have. -/
structure WScans (b : List UInt8) (rs : List Rec) : Prop where
  mk' ::
  ex : ∃ ps r, Scans b ps r ∧ rs = recs none ps
theorem wscans_unique {b : List UInt8} {rs qs : List Rec} (h : WScans b rs) (h2 : WScans b qs) : rs = qs := by
  obtain ⟨ps, r, hs, rfl⟩ := h.ex
  obtain ⟨ps2, r2, hs2, rfl⟩ := h2.ex
  rw [(scans_unique hs hs2).1]
theorem wscans_chain {b : List UInt8} {rs : List Rec} (h : WScans b rs) : Chain none rs := by
  obtain ⟨ps, r, hs, rfl⟩ := h.ex
  exact chain_recs _ _
/-- The records' bytes stand at the beginning. -/
theorem wscans_first {b : List UInt8} {rs : List Rec} (h : WScans b rs) : b.take (logB rs).length = logB rs ∧ (logB rs).length ≤ b.length ∧ ∀ r ∈ rs, r.2.length ≤ 33554424 := by
  obtain ⟨ps, r, hs, rfl⟩ := h.ex
  have e : flat ps = logB (recs none ps) ++ flat (ps.drop (recs none ps).length) := by
    unfold logB
    rw [recs_pay, ← flat_append, List.take_append_drop]
  have hb : b = logB (recs none ps) ++ (flat (ps.drop (recs none ps).length) ++ r) := by rw [← List.append_assoc, ← e]; exact hs.bytes
  refine ⟨?_, ?_, fun q hq => ?_⟩
  · conv => lhs; rw [hb]
    rw [List.take_append_of_le_length (Nat.le_refl _), List.take_of_length_le (Nat.le_refl _)]
  · have := congrArg List.length hb
    rw [List.length_append] at this
    omega
  · have hp : pay q ∈ ps.take (recs none ps).length := by rw [← recs_pay]; exact List.mem_map_of_mem hq
    have := hs.short _ (List.mem_of_mem_take hp)
    rw [pay_len] at this
    omega
theorem short_of {rs : List Rec} (h : ∀ r ∈ rs, r.2.length ≤ 33554424) : ∀ p ∈ rs.map pay, p.length ≤ 33554432 := by
  intro p hp
  obtain ⟨r, hr, rfl⟩ := List.mem_map.1 hp
  have := h r hr
  rw [pay_len]
  omega
theorem wscans_log {rs : List Rec} (h : Chain none rs) (hs : ∀ r ∈ rs, r.2.length ≤ 33554424) : WScans (logB rs) rs := ⟨_, _, scans_all (short_of hs), (recs_chain h).symm⟩
/-- Records, and a frame behind them that was cut. -/
theorem wscans_cut {rs : List Rec} (h : Chain none rs) (hs : ∀ r ∈ rs, r.2.length ≤ 33554424) (q : Rec) (hq : q.2.length ≤ 33554424) {j : Nat} (hj : j < (frm (pay q)).length) : WScans (logB rs ++ (frm (pay q)).take j) rs := by
  have h1 : Scans ((frm (pay q)).take j) [] ((frm (pay q)).take j) := ⟨by simp [flat], (fun p hp => by cases hp), one_cut (by rw [pay_len]; omega) hj⟩
  have h2 := scans_join (short_of hs) h1
  rw [List.append_nil] at h2
  exact ⟨_, _, h2, (recs_chain h).symm⟩
end Go.Proofs.YtpckloafdlkefaaGreat
namespace Go.Proofs.YtpckloafdlkefaaGreat
set_option maxRecDepth 40000
open Go.RowKit Go.Joins Regs

def wcost (n : Int) : Int := if n < 0 ∨ 33554424 < n then 0 else 16 + n
theorem wcost_any (n : Int) (w : World) : Calls Tryz.prog 76 #[.int .i64 n] w fun e w' => e = .returned (.int .i64 (wcost n)) ∧ w' = w := by
  unfold wcost
  by_cases h0 : n < 0
  · rw [if_pos (.inl h0)]
    go_enter Tryz.func76, Tryz.ntmps76
    go_wp2
    go_ret
    exact ⟨rfl, rfl⟩
  · by_cases h1 : 33554424 < n
    · rw [if_pos (.inr h1)]
      go_enter Tryz.func76, Tryz.ntmps76
      go_wp2
      go_ret
      exact ⟨rfl, rfl⟩
    · rw [if_neg (by omega)]
      have hf : fsize (8 + n) = 16 + n := by unfold fsize; rw [if_neg (by omega)]; omega
      have SZ : Hid (∀ W, Calls Tryz.prog 102 #[.int .i64 (8 + n)] W fun e w' => e = .returned (.int .i64 (16 + n)) ∧ w' = W) := hid fun W => by have := size_any (8 + n) W; rwa [hf] at this
      clear hf
      go_enter Tryz.func76, Tryz.ntmps76
      go_wp2_with fail
      refine (SZ.out _).mono ?_
      rintro e w' ⟨rfl, rfl⟩
      go_wp2
      go_ret
      exact ⟨rfl, rfl⟩
theorem seq_lt (p : List UInt8) : seqOf p < 18446744073709551616 := by
  unfold seqOf
  have := num_take_lt p 8
  have e : (256 : Nat) ^ 8 = 18446744073709551616 := by decide
  omega
/-- How many payloads, from the first on, are records. -/
theorem recs_step {nx : Option Nat} {ps : List (List UInt8)} {k : Nat} {p : List UInt8} (h : ps[k]? = some p) : recs nx (ps.drop k) = if good nx p then recOf p :: recs (some (seqOf p + 1)) (ps.drop (k + 1)) else [] := by
  have hk : k < ps.length := (List.getElem?_eq_some_iff.1 h).1
  rw [List.drop_eq_getElem_cons hk]
  have : ps[k] = p := (List.getElem?_eq_some_iff.1 h).2
  rw [this]
  rfl
set_option maxHeartbeats 4000000 in
theorem whole_any (A : Option Addr) (n c lo up : Nat) (ps : List (List UInt8)) (vs : List Value) (w : World) (h : BL w lo up A n ps vs) (hn : n ≤ 1000000) :
    Calls Tryz.prog 74 #[.slice A n c] w fun e w' => e = .returned (.int .i64 ((recs none ps).length : Int)) ∧ w' = w := by
  have HB := hid h
  have HL := hid h.len
  clear h
  go_enter Tryz.func74, Tryz.ntmps74
  go_wp2
  go_loopw [3, 9] (fun y i wr => ∃ (k : Nat) (q : Nat), k ≤ n ∧ i = .int .i64 (k : Int) ∧ y = .int .u64 (q : Int) ∧ q ≤ 4611686018427387905 ∧ Hid ((recs none ps).length = k + (recs (if k = 0 then none else some q) (ps.drop k)).length) ∧ w = wr) (fun _ i _ => n - (intOf i).toNat)
  case atStart => exact ⟨0, 0, Nat.zero_le _, rfl, rfl, by omega, hid (by simp), rfl⟩
  case round =>
    obtain ⟨k, q, hk, rfl, rfl, hq, HQ, rfl⟩ := hrel
    by_cases hlt : k < n
    · obtain ⟨b, off, p, B, m, cc, rfl, hp, hc, hr, hnc, hmc, hcm⟩ := HB.out.get hlt
      have hlm : p.length = m := by have := hr.len; rwa [U_len] at this
      have O1 := of_any B m cc lo up p w hr (by unfold maxLen at hcm; omega)
      obtain ⟨s, hs⟩ : ∃ s, s = seqOf p := ⟨_, rfl⟩
      have hsl : s < 18446744073709551616 := by rw [hs]; exact seq_lt p
      have O2 : Hid (Calls Tryz.prog 103 #[.slice B m cc] w fun e w' => e = .returned (.int .u64 (s : Int)) ∧ w = w') := hid (by rw [hs]; exact O1)
      have st := recs_step (nx := if k = 0 then none else some q) hp
      have HST := hid st
      have HS := hid hs
      have HLM := hid hlm
      have hq1 : k ≠ 0 → (some q = none ∨ some q = some (seqOf p)) → q = s := fun _ h => by rw [HS.out]; rcases h with h | h; cases h; injection h
      clear O1 st hs hlm hr hp
      by_cases hm8 : m < 8
      · have hg : ¬ good (if k = 0 then none else some q) p := fun g => by have := g.1; have := HLM.out; omega
        have hr2 : (recs none ps).length = k := by rw [HQ.out, HST.out, if_neg hg]; rfl
        have HR2 := hid hr2
        clear hr2 hg
        go_wp2_with fail
        refine O2.out.mono ?_
        rintro e w' ⟨rfl, rfl⟩
        go_wp2
        go_ret
        exact ⟨by rw [HR2.out]; rfl, rfl⟩
      by_cases hs1 : s < 1
      · have hg : ¬ good (if k = 0 then none else some q) p := fun g => by have := g.2.1; have := HS.out; omega
        have hr2 : (recs none ps).length = k := by rw [HQ.out, HST.out, if_neg hg]; rfl
        have HR2 := hid hr2
        clear hr2 hg
        go_wp2_with fail
        refine O2.out.mono ?_
        rintro e w' ⟨rfl, rfl⟩
        go_wp2
        go_ret
        exact ⟨by rw [HR2.out]; rfl, rfl⟩
      by_cases hs2 : 4611686018427387904 < s
      · have hg : ¬ good (if k = 0 then none else some q) p := fun g => by have := g.2.2.1; have := HS.out; omega
        have hr2 : (recs none ps).length = k := by rw [HQ.out, HST.out, if_neg hg]; rfl
        have HR2 := hid hr2
        clear hr2 hg
        go_wp2_with fail
        refine O2.out.mono ?_
        rintro e w' ⟨rfl, rfl⟩
        go_wp2
        go_ret
        exact ⟨by rw [HR2.out]; rfl, rfl⟩
      by_cases hk0 : 0 < k
      case neg =>
        have hk1 : k = 0 := by omega
        have hg : good (if k = 0 then none else some q) p := ⟨by have := HLM.out; omega, by have := HS.out; omega, by have := HS.out; omega, by rw [if_pos hk1]; exact .inl rfl⟩
        have hr2 : (recs none ps).length = k + 1 + (recs (if k + 1 = 0 then none else some (s + 1)) (ps.drop (k + 1))).length := by
          rw [HQ.out, HST.out, if_pos hg, if_neg (by omega), HS.out, List.length_cons]
          omega
        have HR2 := hid hr2
        clear hr2 hg HST HQ hk1
        go_wp2_with fail
        refine O2.out.mono ?_
        rintro e w' ⟨rfl, rfl⟩
        go_wp2
        go_roundw
        case rel => exact ⟨k + 1, s + 1, by omega, by go_num, by go_num, by omega, HR2, by trivial⟩
        case measure => simp [intOf]; omega
      case pos =>
        have hk1 : ¬ k = 0 := by omega
        by_cases hsq : s = q
        · have hg : good (if k = 0 then none else some q) p := ⟨by have := HLM.out; omega, by have := HS.out; omega, by have := HS.out; omega, by rw [if_neg hk1]; right; rw [← HS.out, hsq]⟩
          have hr2 : (recs none ps).length = k + 1 + (recs (if k + 1 = 0 then none else some (s + 1)) (ps.drop (k + 1))).length := by
            rw [HQ.out, HST.out, if_pos hg, if_neg (by omega), HS.out, List.length_cons]
            omega
          have HR2 := hid hr2
          have hne : ((s : Int) != (q : Int)) = false := by rw [hsq]; simp
          clear hr2 hg HST HQ hsq
          go_wp2_with fail
          refine O2.out.mono ?_
          rintro e w' ⟨rfl, rfl⟩
          go_wp2
          go_roundw
          case rel => exact ⟨k + 1, s + 1, by omega, by go_num, by go_num, by omega, HR2, by trivial⟩
          case measure => simp [intOf]; omega
        · have hg : ¬ good (if k = 0 then none else some q) p := fun g => hsq (hq1 hk1 (by have := g.2.2.2; rwa [if_neg hk1] at this)).symm
          have hr2 : (recs none ps).length = k := by rw [HQ.out, HST.out, if_neg hg]; rfl
          have HR2 := hid hr2
          have hne : ((s : Int) != (q : Int)) = true := by simp; omega
          clear hr2 hg HST HQ hsq
          go_wp2_with fail
          refine O2.out.mono ?_
          rintro e w' ⟨rfl, rfl⟩
          go_wp2
          go_ret
          exact ⟨by rw [HR2.out]; rfl, rfl⟩
    · obtain rfl : k = n := by omega
      have hd : ps.drop k = [] := List.drop_of_length_le (by rw [HL.out]; exact Nat.le_refl _)
      have hq2 : (recs none ps).length = k := by have := HQ.out; rw [hd] at this; simpa [recs] using this
      have HQ2 := hid hq2
      clear hq2 hd
      go_wp2
      go_ret
      exact ⟨by rw [HQ2.out]; rfl, rfl⟩
end Go.Proofs.YtpckloafdlkefaaGreat
namespace Go.Proofs.YtpckloafdlkefaaGreat
set_option maxRecDepth 40000
open Go.RowKit Go.Joins Regs

/-- A record that lies in memory: its Seq, its body and the slice that holds that. -/
structure RP where
  s : Nat
  p : List UInt8
  A : Option Addr
  n : Nat
  c : Nat
def RP.v (x : RP) : Value := .slice x.A x.n x.c
def RP.r (x : RP) : Rec := (x.s, x.p)
def RCs (xs : List RP) : List Value := xs.flatMap fun x => [.int .u64 (x.s : Int), x.v]
theorem RCs_len (xs : List RP) : (RCs xs).length = xs.length * 2 := by
  induction xs with
  | nil => rfl
  | cons x l ih =>
    have : RCs (x :: l) = [.int .u64 (x.s : Int), x.v] ++ RCs l := rfl
    rw [this, List.length_append, ih, List.length_cons]
    simp
    omega
theorem RCs_append (l m : List RP) : RCs (l ++ m) = RCs l ++ RCs m := by simp [RCs]
theorem RCs_one (l : List RP) : ∀ u ∈ RCs l, u.oneCell' = true := by
  intro u hu
  simp only [RCs, List.mem_flatMap] at hu
  obtain ⟨x, _, hx⟩ := hu
  simp at hx
  rcases hx with rfl | rfl <;> rfl
theorem RCs_get {l : List RP} {j : Nat} {x : RP} (h : l[j]? = some x) : (RCs l)[j * 2]? = some (.int .u64 (x.s : Int)) ∧ (RCs l)[j * 2 + 1]? = some x.v := by
  induction l generalizing j with
  | nil => simp at h
  | cons y l ih =>
    have e : RCs (y :: l) = .int .u64 (y.s : Int) :: y.v :: RCs l := rfl
    rw [e]
    cases j with
    | zero =>
      simp at h
      subst h
      exact ⟨rfl, rfl⟩
    | succ j =>
      have := ih (j := j) (by simpa using h)
      rw [show (j + 1) * 2 = j * 2 + 1 + 1 by omega, List.getElem?_cons_succ, List.getElem?_cons_succ, List.getElem?_cons_succ, List.getElem?_cons_succ]
      exact this
theorem info_rec : (Tryz.prog.info? 44).map (fun i => (i.zero, i.size, i.bytes)) = some (some (.agg #[.int .u64 0, .slice none 0 0]), 2, 32) := by kernel_rfl
theorem wpList_append_rec (w : World) {ops : Array Oper} {rest : List Oper} {o : Oper} {a : Act} {Q : Exit → Act → World → Prop} (hgd : o.guard = none) (s x : Operand) (t : TypeId)
    (ho : o.op = .call { callee := .builtin .append, args := #[s, x], argTypes := #[t, t] }) (base : Nat) (ht : Tryz.prog.underlying t = some (.slice 44)) (v : Value) (n : Nat) (l : List RP) (hs : a.eval s = v) (hown : w.ownsRow base 44 2 v n (RCs l))
    (g c : Nat) (hx : a.eval x = .slice (some ⟨g, 0, none⟩) 1 c) (y : RP) (hr : ∀ j u, (RCs [y])[j]? = some u → w.cell? ⟨g, j, none⟩ = some u) (h63 : n + 1 ≤ 1000000000) (hbase : base ≤ w.heap.size)
    (h : ∀ v' w', w'.ownsRow base 44 2 v' (n + 1) (RCs (l ++ [y])) → w.grownBy w' v.ownBlock → (v'.ownBlock = v.ownBlock ∨ v'.ownBlock = some w.heap.size) → wpList Tryz.prog ops Q rest (a.put o.dst v') w') :
    wpList Tryz.prog ops Q (o :: rest) a w := by
  obtain ⟨i, hi, hz, hsize, hby⟩ := info_parts info_rec
  refine wpList_plain hgd fun K hK => ?_
  obtain ⟨v', w', hr, h2, h3, _, h5⟩ := run_append_own_at (P := Tryz.prog) w base t o.type 44 i _ 2 32 ht hi hz hsize hby rfl (by decide) v n (RCs l) hown ⟨g, 0, none⟩ 1 c (RCs [y]) rfl (fun j u hu => by rw [addr_add, Nat.zero_add]; exact hr j u hu) (RCs_one _) (by unfold maxLen; omega) (by omega) hbase
  rw [← RCs_append] at h2
  unfold Oper.wp execOp
  simp only [ho, resolve, invoke, builtin, Sem.run_bind, Sem.run_pure, Result.andThen_ok, List.map_toArray, List.map_cons, List.map_nil, hs, hx, hr]
  exact hK _ _ (h v' w' h2 h3 h5)
/-- A record's body, as the slice behind it reads. -/
def Bod (w : World) (lo hi : Nat) (x : RP) : Prop := Row w lo hi x.A x.n (U x.p) ∧ (x.A = none → x.c = 0) ∧ x.n ≤ x.c ∧ x.c ≤ maxLen
theorem Bod.below {w w' : World} {lo hi : Nat} {x : RP} (h : Bod w lo hi x) {B : Nat} (hb : Below B w w') (hB : hi ≤ B) : Bod w' lo hi x := ⟨h.1.below hb hB, h.2⟩
theorem Bod.wide {w : World} {lo hi lo' hi' : Nat} {x : RP} (h : Bod w lo hi x) (h1 : lo' ≤ lo) (h2 : hi ≤ hi') : Bod w lo' hi' x := ⟨h.1.wide h1 h2, h.2⟩
/-- A payload's record: its Seq and the rest, as the slice behind it reads wherever the payload does. -/
def RecPost (w : World) (lo up : Nat) (A : Option Addr) (n : Nat) (p : List UInt8) (e : Ending) (w' : World) : Prop :=
  ∃ B d, e = .returned (.agg #[.int .u64 (seqOf p : Int), .slice B (n - 8) d]) ∧ Hid (∀ W, Row W lo up A n (U p) → Bod W lo up ⟨seqOf p, p.drop 8, B, n - 8, d⟩) ∧ Below w.heap.size w w'
set_option maxHeartbeats 2000000 in
theorem record_any (A : Option Addr) (n c lo up : Nat) (p : List UInt8) (w : World) (hR : Row w lo up A n (U p)) (hup : up ≤ w.heap.size) (h8 : 8 ≤ n) (hc : n ≤ c ∧ c ≤ maxLen) :
    Calls Tryz.prog 75 #[.slice A n c] w (RecPost w lo up A n p) := by
  have hcm : c ≤ 9223372036854775807 := by have := hc.2; unfold maxLen at this; exact this
  have hnc := hc.1
  unfold RecPost
  obtain ⟨s, hs⟩ : ∃ s, s = seqOf p := ⟨_, rfl⟩
  have O2 : Hid (∀ W, Row W lo up A n (U p) → Calls Tryz.prog 103 #[.slice A n c] W fun e w' => e = .returned (.int .u64 (s : Int)) ∧ W = w') := hid (fun W hW => by rw [hs]; exact of_any A n c lo up p W hW (by omega))
  rw [← hs]
  obtain ⟨w1, hw1⟩ : ∃ w1, w1 = w.alloc (.cells #[.int .u64 0, .slice none 0 0] 44) := ⟨_, rfl⟩
  have hb1 : Below w.heap.size w w1 := by rw [hw1]; exact (Below.refl _ w).alloc (Nat.le_refl _) _
  have hB : Blk w1 w.heap.size 44 #[.int .u64 0, .slice none 0 0] := by rw [hw1]; exact Blk.new w _ _
  have HB := hid hB
  have HB1 := hid hb1
  have HW1 := hid hw1
  have HR := hid (hR.below hb1 hup)
  have dr : ∀ W, Row W lo up A n (U p) → Row W lo up (if c = 8 then A else A.map (·.add 8)) (n - 8) (U (p.drop 8)) := fun W hW => by
    have := hW.drop (k := 8) (cap := c) h8 hnc
    rwa [U_drop] at this
  have DR := hid dr
  obtain ⟨b, off, rfl⟩ : ∃ b off, A = some ⟨b, off, none⟩ := by
    obtain ⟨b, off, e, _⟩ := hR.2 (by omega)
    exact ⟨b, off, e⟩
  have HM := hid hc.2
  clear hR hs hw1 hb1 dr hB hc
  rcases Nat.lt_or_ge 8 c with h8c | h8c
  case' inl =>
    have hc8 : ¬ c = 8 := by omega
    have g1 : (8 : Int) ≤ (n : Int) := by omega
    have g2 : ((c : Int) == 8) = false := by simp; omega
    have PD : Hid (∀ W, Row W lo up (some ⟨b, off, none⟩) n (U p) → Bod W lo up ⟨s, p.drop 8, some ⟨b, off + 8, none⟩, n - 8, c - 8⟩) := hid fun W hW => by
      have := DR.out W hW
      rw [if_neg hc8, Option.map_some, addr_add] at this
      exact ⟨this, (fun e => by cases e), by show n - 8 ≤ c - 8; omega, by show c - 8 ≤ maxLen; have := HM.out; omega⟩
  case' inr =>
    have hc8 : c = 8 := by omega
    have hn8 : n = 8 := by omega
    subst hc8 hn8
    have PD : Hid (∀ W, Row W lo up (some ⟨b, off, none⟩) 8 (U p) → Bod W lo up ⟨s, p.drop 8, some ⟨b, off, none⟩, 0, 0⟩) := hid fun W hW => by
      have := DR.out W hW
      rw [if_pos rfl] at this
      exact ⟨this, (fun e => by cases e), Nat.le_refl _, Nat.zero_le _⟩
  all_goals
    go_enter Tryz.func75, Tryz.ntmps75
    go_wp2_with fail
    rw [← HW1.out]
    have c0 : w1.cell? ⟨w.heap.size, 0, none⟩ = some (.int .u64 0) := by have := HB.out.cell 0; simpa using this
    have c1 : w1.cell? ⟨w.heap.size, 1, none⟩ = some (.slice none 0 0) := by have := HB.out.cell 1; simpa using this
    have f0 : w1.frozen? ⟨w.heap.size, 0, none⟩ = false := HB.out.frozen 0
    have f1 : w1.frozen? ⟨w.heap.size, 1, none⟩ = false := HB.out.frozen 1
    go_region_law (first
        | (go_simp; go_at_call 103; refine (O2.out _ (by exact HR.out)).mono ?_; rintro e w2 ⟨rfl, rfl⟩))
    all_goals
      have blk := fun v => (HB.out.set 0 (.int .u64 (s : Int))).set 1 v
      go_wp2
      refine bodyPost_ret (results_cell_row rfl _ _ w.heap.size 44 _ (0, 0) _ rfl (by exact blk _) Tryz.underlying44 rfl (by kernel_rfl)) rfl ?_
      refine ⟨_, _, ?_, PD, ?_⟩
      · simp
      · exact (HB1.out.setCell (p := ⟨w.heap.size, 0, none⟩) (Nat.le_refl _) _).setCell (p := ⟨w.heap.size, 1, none⟩) (Nat.le_refl _) _ |>.drew
def v_own (v : Value) (g : Nat) : Prop := v.ownBlock = some g
/-- A record that was just laid in a block of its own. -/
theorem rcs_new (w : World) (q : Nat) (p : List UInt8) (A : Option Addr) (n c : Nat) {cs : Array Value} (hc : cs = #[.int .u64 (q : Int), .slice A n c]) : ∀ j u, (RCs [(⟨q, p, A, n, c⟩ : RP)])[j]? = some u → (w.alloc (.cells cs 44)).cell? ⟨w.heap.size, j, none⟩ = some u := by
  subst hc
  intro j u hu
  have h := (Blk.new w 44 #[.int .u64 (q : Int), .slice A n c]).cell j
  rw [h]
  match j, hu with
  | 0, hu => exact hu
  | 1, hu => exact hu
  | j + 2, hu => simp [RCs] at hu
/-- What mapped makes of payloads. -/
def MapPost (w : World) (lo up n : Nat) (ps : List (List UInt8)) (e : Ending) (w' : World) : Prop :=
  ∃ (xs : List RP) (v : Value), e = .returned v ∧ Hid (xs.map RP.r = ps.map recOf) ∧ w'.ownsRow w.heap.size 44 2 v n (RCs xs) ∧ Hid (∀ x ∈ xs, Bod w' lo up x) ∧ Below w.heap.size w w'
set_option maxHeartbeats 2000000 in
theorem mapped_any (A : Option Addr) (n c lo up : Nat) (ps : List (List UInt8)) (vs : List Value) (w : World) (h : BL w lo up A n ps vs) (hup : up ≤ w.heap.size) (hn : n ≤ 100000) (h8 : ∀ p ∈ ps, 8 ≤ p.length) :
    Calls Tryz.prog 73 #[.slice A n c, .func (.func 75) #[] #[]] w (MapPost w lo up n ps) := by
  obtain ⟨i0, hi, hz0, hz1, hz2⟩ := info_parts info_rec
  have HB := hid h
  have H8 := hid h8
  clear h h8
  go_enter Tryz.func73, Tryz.ntmps73
  go_wp2_with (at_make; go_loud (refine wpList_make_own _ rfl _ _ 30 rfl w.heap.size 44 i0 (.agg #[.int .u64 0, .slice none 0 0]) 2 Tryz.underlying30 hi hz0 hz1 _ _ _ n rfl rfl rfl (by rw [hz2]; omega) (by unfold maxLen; omega) (Nat.le_refl _) ?_); intro w1 hown1 hgrow1)
  have hb1 : Below w.heap.size w w1 := (Below.refl _ _).grown hgrow1 (Nat.le_refl _) (by intro g hg; cases hg)
  have HB1 := hid hb1
  have HO1 := hid hown1
  clear hb1 hown1 hgrow1
  go_loopw [5, 13] (fun v i wr => ∃ (k : Nat) (xs : List RP), k ≤ n ∧ i = .int .i64 (k : Int) ∧ xs.length = k ∧ Hid (xs.map RP.r = (ps.take k).map recOf) ∧ Hid (wr.ownsRow w.heap.size 44 2 v k (RCs xs)) ∧ Hid (∀ x ∈ xs, Bod wr lo up x) ∧ Hid (Below w.heap.size w wr)) (fun _ i _ => n - (intOf i).toNat)
  case atStart => exact ⟨0, [], Nat.zero_le _, rfl, rfl, hid (by simp), HO1, hid (fun x hx => by cases hx), HB1⟩
  case round =>
    obtain ⟨k, xs, hk, rfl, hxl, HX, HO, HBD, HBR⟩ := hrel
    have HXL := hid hxl
    clear hxl
    by_cases hlt : k < n
    · obtain ⟨b, off, p, B, m, cc, rfl, hp, hc, hr, hnc, hmc, hcm⟩ := (HB.out.below HBR.out hup).get hlt
      have hpl : p.length = m := by have := hr.len; rwa [U_len] at this
      have hp8 : 8 ≤ m := by rw [← hpl]; exact H8.out p (List.mem_of_getElem? hp)
      have RC := hid (record_any B m cc lo up p wr hr (Nat.le_trans hup HBR.out.size) hp8 ⟨hmc, hcm⟩)
      have HR := hid hr
      have HP := hid hp
      clear hr hp hnc hpl
      go_wp2_with fail
      refine RC.out.mono ?_
      rintro e w2 ⟨PB, d, rfl, HPB, hb2⟩
      have hsz := HBR.out.size
      have HO2 := hid (own_on HO.out hb2)
      have BY := hid (HPB.out w2 (HR.out.below hb2 (Nat.le_trans hup hsz)))
      have HBD2 := hid (fun x hx => (HBD.out x hx).below hb2 (Nat.le_trans hup hsz))
      have HB2 := hid (HBR.out.trans (hb2.mono hsz))
      have hs2 : w.heap.size ≤ w2.heap.size := HB2.out.size
      have hup2 : up ≤ w2.heap.size := by omega
      obtain ⟨q, hq⟩ : ∃ q, q = seqOf p := ⟨_, rfl⟩
      rw [← hq] at BY ⊢
      have HQ := hid hq
      clear hb2 RC HPB hq
      go_wp2_with (at_builtin; go_loud (refine wpList_append_rec _ rfl _ _ 30 rfl w.heap.size Tryz.underlying30 _ k xs rfl (HO2.out.alloc _) w2.heap.size 1 rfl ⟨q, p.drop 8, PB, m - 8, d⟩ (rcs_new w2 _ _ _ _ _ rfl) (by omega) (by simp; omega) ?_); intro v' w3 own3 grow3 at3)
      have ga : ∀ g, v_own u5 g → w.heap.size ≤ g ∧ g < w2.heap.size := fun g hg => HO2.out.lt g hg
      have g3 : Below w.heap.size w w3 := (HB2.out.alloc hs2 _).grown grow3 (by simp; omega) (fun g hg => (ga g hg).1)
      have keep : ∀ x, Bod w2 lo up x → Bod w3 lo up x := fun x hx => by
        have h1 := hx.1.alloc hup2 (.cells #[.int .u64 (q : Int), .slice PB (m - 8) d] 44)
        exact ⟨h1.grown grow3 (by simp; omega) (fun g hg => by have := ga g hg; omega), hx.2⟩
      refine ⟨⟨k + 1, xs ++ [⟨q, p.drop 8, PB, m - 8, d⟩], by omega, by go_num, by simp [HXL.out], hid ?_, hid own3, hid (fun x hx => ?_), hid g3⟩, by simp [intOf]; omega⟩
      · rw [List.map_append, HX.out, take_next HP.out, List.map_append]
        show _ ++ [(q, p.drop 8)] = _ ++ [(seqOf p, p.drop 8)]
        rw [HQ.out]
      · rcases List.mem_append.1 hx with hx | hx
        · exact keep x (HBD2.out x hx)
        · rw [List.mem_singleton] at hx
          subst hx
          exact keep _ BY.out
    · obtain rfl : k = n := by omega
      go_wp2
      go_ret
      exact ⟨xs, _, rfl, hid (by rw [HX.out, List.take_of_length_le (by rw [HB.out.len]; exact Nat.le_refl _)]), HO.out, HBD, HBR.out⟩
/-- What Scan tells of a log's bytes. -/
def WScanPost (w : World) (b : List UInt8) (e : Ending) (w' : World) : Prop :=
  ∃ (xs : List RP) (v : Value), e = .returned (.tuple #[v, .int .i64 ((logB (xs.map RP.r)).length : Int)]) ∧ Hid (WScans b (xs.map RP.r)) ∧ w'.ownsRow w.heap.size 44 2 v xs.length (RCs xs) ∧ Hid (∀ x ∈ xs, Bod w' w.heap.size w'.heap.size x) ∧ Below w.heap.size w w'
/-- The same, with the bodies ahead of the row that holds the records. -/
def WScanKept (w : World) (b : List UInt8) (e : Ending) (w' : World) : Prop :=
  ∃ (xs : List RP) (v : Value), e = .returned (.tuple #[v, .int .i64 ((logB (xs.map RP.r)).length : Int)]) ∧ Hid (WScans b (xs.map RP.r)) ∧ w'.ownsRow w.heap.size 44 2 v xs.length (RCs xs) ∧ Hid (∃ m, m ≤ w'.heap.size ∧ (∀ x ∈ xs, Bod w' w.heap.size m x) ∧ ∀ e, v.ownBlock = some e → m ≤ e) ∧ Below w.heap.size w w'
theorem own_shape_two {w : World} {base : Nat} {e : TypeId} {v : Value} {n : Nat} {xs : List Value} (h : w.ownsRow base e 2 v n xs) : ∃ A c, v = .slice A n c ∧ (A = none → c = 0) ∧ n ≤ c ∧ c ≤ maxLen ∧ (0 < n → ∃ g, A = some ⟨g, 0, none⟩) := by
  rcases h.2 with ⟨rfl, rfl⟩ | ⟨g, cap, cur, rfl, _, _, hc, hm, _⟩
  · exact ⟨none, 0, rfl, fun _ => rfl, Nat.le_refl _, Nat.zero_le _, fun h => absurd h (Nat.lt_irrefl 0)⟩
  · exact ⟨_, cap, rfl, (fun h => by cases h), hc, hm, fun _ => ⟨g, rfl⟩⟩
/-- The cells of a record in a row of the call's own. -/
theorem rec_cells {w : World} {base : Nat} {g n c : Nat} {xs : List RP} (h : w.ownsRow base 44 2 (.slice (some ⟨g, 0, none⟩) n c) n (RCs xs)) {k : Nat} {x : RP} (hk : xs[k]? = some x) : w.cell? ⟨g, k * 2, none⟩ = some (.int .u64 (x.s : Int)) ∧ w.cell? ⟨g, k * 2 + 1, none⟩ = some x.v := by
  obtain ⟨h1, h2⟩ := RCs_get hk
  have e1 := h.cells (g := g) rfl (k * 2) _ h1
  have e2 := h.cells (g := g) rfl (k * 2 + 1) _ h2
  rw [addr_add, Nat.zero_add] at e1 e2
  exact ⟨e1, e2⟩
theorem recs_wscans {b : List UInt8} {ps : List (List UInt8)} {r : List UInt8} (h : Scans b ps r) : WScans b (recs none ps) := ⟨_, _, h, rfl⟩
set_option maxHeartbeats 4000000 in
theorem wscan_kept (A : Option Addr) (n c lo up : Nat) (b : List UInt8) (w : World) (hR : Row w lo up A n (U b)) (hA : A = none → c = 0) (hup : up ≤ w.heap.size) (hc : n ≤ c ∧ c ≤ maxLen) (hn : n ≤ 300000) :
    Calls Tryz.prog 32 #[.slice A n c] w (WScanKept w b) := by
  have S1 := hid (scan_any A n c lo up b w hR hA hup hc hn)
  have hbl : b.length = n := by have := hR.len; rwa [U_len] at this
  have HBL := hid hbl
  clear hR hA hbl
  go_enter Tryz.func32, Tryz.ntmps32
  go_wp2_with fail
  refine S1.out.mono ?_
  rintro e w1 ⟨ps, r, A1, n1, c1, vs1, rfl, hS, hBL, hA1, hc1, hc1', hb1⟩
  have hfl : b.length = (flat ps).length + r.length := by have := congrArg List.length hS.out.bytes; rwa [List.length_append] at this
  have hmany := flat_many ps
  have hp1 : ps.length = n1 := hBL.out.len
  have hn1 : n1 ≤ 40000 := by have := HBL.out; omega
  have HFL : Hid ((flat ps).length ≤ 300000) := hid (by have := HBL.out; omega)
  obtain ⟨z0, hz0⟩ : ∃ z0, z0 = (flat ps).length := ⟨_, rfl⟩
  rw [← hz0]
  have HB1 := hid hb1
  have HS := hid (recs_wscans hS.out)
  clear hz0 hfl hmany S1 hb1 hS
  have WH := hid (whole_any A1 n1 c1 w.heap.size w1.heap.size ps vs1 w1 hBL.out (by omega))
  obtain ⟨k, hk⟩ : ∃ k, k = (recs none ps).length := ⟨_, rfl⟩
  have hkn : k ≤ n1 := by rw [hk, ← hp1]; exact recs_len _ _
  have HK := hid hk
  rw [← hk] at WH
  have BLK := hid (hBL.out.take hkn)
  have H8 : Hid (∀ p ∈ ps.take k, 8 ≤ p.length) := hid (fun p hp => by
    rw [hk, ← recs_pay] at hp
    obtain ⟨q, _, rfl⟩ := List.mem_map.1 hp
    rw [pay_len]; omega)
  have HMAP : Hid ((ps.take k).map recOf = recs none ps) := hid (by rw [hk]; exact recs_map _ _)
  clear hk hp1
  have hkc : (k : Int) ≤ (c1 : Int) := by omega
  have hkc2 : k ≤ c1 := by omega
  go_wp2_with fail
  refine WH.out.mono ?_
  rintro e w2 ⟨rfl, rfl⟩
  have MP := hid (mapped_any A1 k c1 w.heap.size w2.heap.size (ps.take k) _ w2 BLK.out (Nat.le_refl _) (by omega) H8.out)
  go_wp2_with fail
  refine MP.out.mono ?_
  rintro e w3 ⟨xs, v3, rfl, hX, hown3, hbod3, hb3⟩
  have hxs : xs.map RP.r = recs none ps := by rw [hX.out]; exact HMAP.out
  have HXS := hid hxs
  have hxl : xs.length = k := by have := congrArg List.length hxs; rw [List.length_map] at this; rw [this, HK.out]
  have HXL := hid hxl
  have HB3 := hid (HB1.out.trans (hb3.mono HB1.out.size))
  obtain ⟨A3, c3, rfl, hA3, hc3, hc3', hg3⟩ := own_shape_two hown3
  have HO3 := hid hown3
  have HBD3 := hid hbod3.out
  have Z23 : w2.heap.size ≤ w3.heap.size := hb3.size
  have HZB : Hid ((logB (xs.map RP.r)).length ≤ 300000) := hid (by
    have e : flat ps = logB (recs none ps) ++ flat (ps.drop (recs none ps).length) := by
      unfold logB
      rw [recs_pay, ← flat_append, List.take_append_drop]
    have h2 := congrArg List.length e
    rw [List.length_append] at h2
    have h3 := HFL.out
    rw [hxs]
    omega)
  have HG3 := hid hg3
  clear hb3 hxs hxl MP WH hown3 hX hbod3 hA3 hg3
  go_wp2
  go_loopw [7, 22] (fun y i wr => ∃ (j z : Nat), j ≤ k ∧ i = .int .i64 (j : Int) ∧ y = .int .i64 (z : Int) ∧ Hid (z = (logB ((xs.take j).map RP.r)).length) ∧ Hid (Below w3.heap.size w3 wr)) (fun _ i _ => k - (intOf i).toNat)
  case atStart => exact ⟨0, 0, Nat.zero_le _, rfl, rfl, hid (by simp [logB, flat]), hid (Below.refl _ _)⟩
  case round =>
    obtain ⟨j, z, hj, rfl, rfl, HZ, HBR⟩ := hrel
    by_cases hlt : j < k
    · obtain ⟨g, rfl⟩ := HG3.out (by omega)
      obtain ⟨x, hx⟩ : ∃ x, xs[j]? = some x := ⟨xs[j]'(by rw [HXL.out]; exact hlt), List.getElem?_eq_getElem _⟩
      have hrow := own_on HO3.out HBR.out
      obtain ⟨c0, c1'⟩ := rec_cells hrow hx
      have hzl : z ≤ 300000 := by
        have h1 := HZB.out
        have h2 : xs.map RP.r = (xs.take j).map RP.r ++ (xs.drop j).map RP.r := by rw [← List.map_append, List.take_append_drop]
        rw [h2, logB_append, List.length_append] at h1
        have := HZ.out
        omega
      have hxn : x.p.length = x.n := by have := (HBD3.out x (List.mem_of_getElem? hx)).1.len; rwa [U_len] at this
      have hnx : logB ((xs.take (j + 1)).map RP.r) = logB ((xs.take j).map RP.r) ++ logB [x.r] := by rw [take_next hx, List.map_append, logB_append]; rfl
      have hln : (logB ((xs.take (j + 1)).map RP.r)).length = z + (16 + x.n) := by
        rw [hnx, List.length_append, logB_one, frm_len, pay_len, HZ.out]
        show _ + (8 + x.p.length + 8) = _
        omega
      have hln2 : z + (16 + x.n) ≤ 300000 := by
        have h1 := HZB.out
        have h2 : xs.map RP.r = (xs.take (j + 1)).map RP.r ++ (xs.drop (j + 1)).map RP.r := by rw [← List.map_append, List.take_append_drop]
        rw [h2, logB_append, List.length_append, hln] at h1
        omega
      have hwc : wcost (x.n : Int) = 16 + (x.n : Int) := by unfold wcost; rw [if_neg (by omega)]
      have WC : Hid (∀ W, Calls Tryz.prog 76 #[.int .i64 (x.n : Int)] W fun e w' => e = .returned (.int .i64 (16 + (x.n : Int))) ∧ w' = W) := hid fun W => by have := wcost_any (x.n : Int) W; rwa [hwc] at this
      have HLN := hid hln
      clear hrow hx hxn hnx hln hwc
      unfold RP.v at c1'
      go_wp2_with fail
      refine (WC.out _).mono ?_
      rintro e w4 ⟨rfl, rfl⟩
      go_wp2
      go_roundw
      case rel => exact ⟨j + 1, z + (16 + x.n), by omega, by go_num, by go_num, hid HLN.out.symm, hid (HBR.out.alloc HBR.out.size _)⟩
      case measure => simp [intOf]; omega
    · obtain rfl : j = k := by omega
      go_wp2
      go_ret2
      have ht : xs.take j = xs := List.take_of_length_le (by rw [HXL.out]; exact Nat.le_refl _)
      have hz := HZ.out
      rw [ht] at hz
      exact ⟨xs, .slice A3 j c3, by rw [← hz]; rfl, hid (by rw [HXS.out]; exact HS.out), by rw [HXL.out]; exact ownsRow_le (own_on HO3.out HBR.out) HB1.out.size, hid ⟨w2.heap.size, Nat.le_trans Z23 HBR.out.size, fun x hx => (HBD3.out x hx).below HBR.out Z23, fun e he => ((own_on HO3.out HBR.out).lt e he).1⟩, HB3.out.trans (HBR.out.mono HB3.out.size)⟩
theorem wscan_any (A : Option Addr) (n c lo up : Nat) (b : List UInt8) (w : World) (hR : Row w lo up A n (U b)) (hA : A = none → c = 0) (hup : up ≤ w.heap.size) (hc : n ≤ c ∧ c ≤ maxLen) (hn : n ≤ 300000) :
    Calls Tryz.prog 32 #[.slice A n c] w (WScanPost w b) :=
  (wscan_kept A n c lo up b w hR hA hup hc hn).mono fun e w' h => by
    obtain ⟨xs, v, h1, h2, h3, h4, h5⟩ := h
    obtain ⟨m, h6, h7, _⟩ := h4.out
    exact ⟨xs, v, h1, h2, h3, hid (fun x hx => (h7 x hx).wide (Nat.le_refl _) h6), h5⟩
end Go.Proofs.YtpckloafdlkefaaGreat
