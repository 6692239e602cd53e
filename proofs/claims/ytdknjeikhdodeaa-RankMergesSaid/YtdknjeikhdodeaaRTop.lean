/-
  The reference's answers of layer 4: into, Sorted, New, Add, Worst.
-/
import Derived.Test.YtdknjeikhdodeaaLives4
namespace Go.Proofs.Ytdknjeikhdodeaa
open Go.RowKit Go.Sort

theorem Nears.drop {w : World} {lo hi n : Nat} {A : Option Addr} {l : List (Int × Int)} (h : Nears w lo hi A n l) {k cap : Nat} (hk : k ≤ n) (hc : n ≤ cap) : Nears w lo hi (if cap = k then A else A.map (·.add (k * 2))) (n - k) (l.drop k) := by
  refine ⟨by rw [List.length_drop, h.1], fun hn => ?_⟩
  obtain ⟨b, off, rfl, h1, h2, hcell⟩ := h.2 (by omega)
  rw [if_neg (by omega)]
  refine ⟨b, off + k * 2, ?_, h1, h2, fun j hj => ?_⟩
  · simp [addr_add]
  · rw [List.length_drop] at hj
    have := hcell (k + j) (by omega)
    rw [show off + (k + j) * 2 = off + k * 2 + j * 2 by omega] at this
    rwa [show (l.drop k).getD j (0, 0) = l.getD (k + j) (0, 0) by simp [List.getD_eq_getElem?_getD]]
theorem Nears.grown {w w' : World} {lo hi n : Nat} {A : Option Addr} {l : List (Int × Int)} (h : Nears w lo hi A n l) {row : Option Nat} (hg : w.grownBy w' row) (hB : hi ≤ w.heap.size) (hr : ∀ g, row = some g → g < lo ∨ hi ≤ g) : Nears w' lo hi A n l :=
  h.keep fun p h1 h2 => World.cell?_of_block (hg.block p.block (by omega) (fun e => by rcases hr _ e.symm with h | h <;> omega))
theorem own_base {w : World} {b b' size n : Nat} {e : TypeId} {v : Value} {xs : List Value} (h : w.ownsRow b e size v n xs) (hb : b' ≤ b) : w.ownsRow b' e size v n xs := by
  refine ⟨h.1, ?_⟩
  rcases h.2 with h2 | ⟨g, cap, cur, hv, hg, r⟩
  · exact .inl h2
  · exact .inr ⟨g, cap, cur, hv, Nat.le_trans hb hg, r⟩
/-- One into a row from the nearest on, behind all that it is not nearer than. -/
theorem into_is {l : List (Int × Int)} {x : Int × Int} {k : Nat} (h : Ord l) (hk : k ≤ l.length) (h1 : ∀ j, k ≤ j → j < l.length → nlt x (l.getD j (0, 0)) = true) (h2 : 0 < k → nlt x (l.getD (k - 1) (0, 0)) = false) : (l.take k ++ [x]) ++ l.drop k = ins l x := by
  induction l generalizing k with
  | nil => simp [ins]
  | cons y l ih =>
    obtain ⟨a, b⟩ := List.pairwise_cons.1 h
    cases k with
    | zero =>
      have := h1 0 (Nat.le_refl _) (by simp)
      simp at this
      simp [ins, this]
    | succ k =>
      have hy : nlt x y = false := by
        have e := h2 (by omega)
        simp only [Nat.add_sub_cancel] at e
        cases k with
        | zero => simpa using e
        | succ k =>
          have hm : (y :: l).getD (k + 1) (0, 0) ∈ l := by
            simp [List.getD_eq_getElem?_getD]
            simp at hk
            rw [List.getElem?_eq_getElem (by omega)]
            exact List.getElem_mem _
          exact nle_trans (a _ hm) e
      have := ih (k := k) b (by simpa using hk) (fun j hj hl => by have := h1 (j + 1) (by omega) (by simpa using hl); simpa using this) (fun h0 => by
        have := h2 (by omega)
        cases k with
        | zero => omega
        | succ k => simpa using this)
      unfold ins
      rw [if_neg (by rw [hy]; decide), ← this]
      rfl

set_option maxRecDepth 100000 in
set_option maxHeartbeats 3200000 in
theorem rinto_any (A : Option Addr) (n c lo up : Nat) (l : List (Int × Int)) (x : Int × Int) (w : World) (h : Nears w lo up A n l) (hA : A = none → c = 0) (hnc : n ≤ c) (hcm : c ≤ maxLen) (hup : up ≤ w.heap.size) (hn : n ≤ 100000000) (ho : Ord l) :
    Calls Try.prog 32 #[.slice A n c, .agg #[.int .i64 x.1, .int .i64 x.2]] w fun e w' => ∃ v, e = .returned v ∧ w'.ownsRow w.heap.size 29 2 v (n + 1) (NC (ins l x)) ∧ Below w.heap.size w w' := by
  obtain ⟨x1, x2⟩ := x
  have hmix := mixed
  have HA := hid hA
  have HL := hid h.1
  have HO := hid ho
  clear hA ho
  go_enter Try.func32, Try.ntmps32
  go_wp2
  have b0 := Box.new w 29 x1 x2
  have L0 := lays_alloc w (.cells #[.int .i64 x1, .int .i64 x2] 29)
  obtain ⟨B, hB⟩ : ∃ B, w.heap.size = B := ⟨_, rfl⟩
  have h' := h.lays L0 hup
  rw [hB] at b0 hup ⊢
  have HB := hid hB
  have H0 := hid L0
  clear hB L0 h
  generalize w.alloc (.cells #[.int .i64 x1, .int .i64 x2] 29) = wa at b0 h' H0 ⊢
  go_loopw [5] (fun i wr => ∃ k : Nat, k ≤ n ∧ i = .int .i64 k ∧ Hid (∀ j, k ≤ j → j < n → nlt (x1, x2) (l.getD j (0, 0)) = true) ∧ Hid (Lays wa wr)) (fun i _ => (intOf i).toNat)
  case atStart => exact ⟨n, Nat.le_refl _, rfl, hid (fun j h1 h2 => absurd h1 (by omega)), hid (Lays.refl _)⟩
  case round =>
    obtain ⟨k, hk, rfl, HK, HW⟩ := hrel
    have hr := h'.lays HW.out (by have := b0.2.2; omega)
    have br := b0.lays HW.out
    by_cases hk0 : 0 < k
    · obtain ⟨b, off, rfl, hb1, hb2, c1, c2⟩ := hr.at_ (j := k - 1) (by omega)
      obtain ⟨⟨y1, y2⟩, HY⟩ : ∃ y, Hid (l.getD (k - 1) (0, 0) = y) := ⟨_, hid rfl⟩
      rw [HY.out] at c1 c2
      obtain ⟨m, rfl⟩ : ∃ m, k = m + 1 := ⟨k - 1, by omega⟩
      simp only [Nat.add_sub_cancel] at c1 c2 HY
      have hbr : b < wr.heap.size := by have := br.2.2; omega
      have e1 := cell_grown (a := ⟨b, off + m * 2, none⟩) hbr c1
      have e2 := cell_grown (a := ⟨b, off + m * 2 + 1, none⟩) hbr c2
      have e3 := cell_grown (a := ⟨B, 0, none⟩) br.2.2 br.1
      have e4 := cell_grown (a := ⟨B, 1, none⟩) br.2.2 br.2.1
      have hwr : IntKind.i64.wrap (m : Int) = (m : Int) := wrap_i64 (by omega) (by omega)
      have hmn : m < n := by omega
      clear c1 c2
      go_wp2
      go_quiet_grown (first | (go_at_call 17; exact Calls.grown_of (rless_any (x1, x2) (y1, y2) _)))
      have L1 := lays_mk wr nq osq
      have HZ := hid (HW.out.trans L1)
      have bz := br.lays L1
      have hz := hr.lays L1 (by have := br.2.2; omega)
      clear e1 e2 e3 e4 L1 br hr
      generalize grow (wr.drewN nq) osq = wz at HZ bz hz ⊢
      generalize hr : nlt (x1, x2) (y1, y2) = r
      have HR := hid hr
      clear hr
      cases r
      case true =>
        go_wp2
        go_roundw
        case rel =>
          refine ⟨m, by omega, by go_num, hid (fun j h1 h2 => ?_), HZ⟩
          by_cases e : j = m
          · subst e
            rw [HY.out]
            exact HR.out
          · exact HK.out j (by omega) h2
        case measure => simp [intOf]
      case false =>
        have H2' : Hid (0 < m + 1 → nlt (x1, x2) (l.getD (m + 1 - 1) (0, 0)) = false) := hid (fun _ => by rw [Nat.add_sub_cancel, HY.out]; exact HR.out)
        obtain ⟨kk, hkk⟩ : ∃ kk : Nat, m + 1 = kk := ⟨_, rfl⟩
        have hki : (m : Int) + 1 = (kk : Int) := by omega
        have HK' := HK
        rw [hkk] at hk HK'
        have H2 : Hid (0 < kk → nlt (x1, x2) (l.getD (kk - 1) (0, 0)) = false) := by rw [← hkk]; exact H2'
        rw [hki]
        clear HK H2' hki hkk
        obtain ⟨A', hA'⟩ : ∃ A', (some (⟨b, off, none⟩ : Addr)) = A' := ⟨_, rfl⟩
        rw [hA'] at hz HA ⊢
        clear hA' h'
        have HI : Hid ((l.take kk ++ [(x1, x2)]) ++ l.drop kk = ins l (x1, x2)) := hid (into_is HO.out (by rw [HL.out]; omega) (fun j h1 h2 => HK'.out j h1 (by rw [HL.out] at h2; exact h2)) H2.out)
        obtain ⟨d0, d1, dB⟩ := bz
        have KP : ∀ W' : World, Below wz.heap.size wz W' → W'.cell? ⟨B, 0, none⟩ = some (.int .i64 x1) ∧ W'.cell? ⟨B, 1, none⟩ = some (.int .i64 x2) := fun W' hb => ⟨(hb.cell dB).trans d0, (hb.cell dB).trans d1⟩
        have OWN0 : ∀ W : World, (W.alloc (.cells #[] 29)).ownsRow W.heap.size 29 2 (.slice (some ⟨W.heap.size, 0, none⟩) 0 0) 0 (NC []) := fun W => World.ownsRow_made W #[] 0 (Nat.le_refl _) (by decide) rfl
        have hb4 : Below wz.heap.size wz (wz.alloc (.cells #[] 29)).drew := below_drewN ((Below.refl _ _).alloc (Nat.le_refl _) _) 1
        have hb5 : Below wz.heap.size wz ((wz.alloc (.cells #[] 29)).alloc (.cells #[.int .i64 x1, .int .i64 x2] 29)).drew := below_drewN (((Below.refl _ _).alloc (Nat.le_refl _) _).alloc (by simp) _) 1
        have hsz5 : wz.heap.size ≤ ((wz.alloc (.cells #[] 29)).alloc (.cells #[.int .i64 x1, .int .i64 x2] 29)).drew.heap.size := hb5.size
        have OWN1 : ((wz.alloc (.cells #[] 29)).alloc (.cells #[.int .i64 x1, .int .i64 x2] 29)).ownsRow wz.heap.size 29 2 (.slice (some ⟨wz.heap.size, 0, none⟩) 0 0) 0 (NC []) := own_touch (OWN0 wz) (touch_lays (lays_alloc _ _) []) (by simp)
        have NEW : Nears ((wz.alloc (.cells #[] 29)).alloc (.cells #[.int .i64 x1, .int .i64 x2] 29)).drew (wz.heap.size + 1) (wz.heap.size + 2) (some ⟨wz.heap.size + 1, 0, none⟩) 1 [(x1, x2)] := nears_lit (wz.alloc (.cells #[] 29)) 29 [(x1, x2)] _ 1 (wz.heap.size + 1) rfl rfl (by simp)
        have hs6 : wz.heap.size + 2 ≤ ((wz.alloc (.cells #[] 29)).alloc (.cells #[.int .i64 x1, .int .i64 x2] 29)).drew.heap.size := by show _ ≤ ((wz.alloc (.cells #[] 29)).alloc (.cells #[.int .i64 x1, .int .i64 x2] 29)).heap.size; simp
        have hT := hz.take (k := kk) (by omega)
        have hD := hz.drop (k := kk) (cap := c) (by omega) hnc
        have hupz : up ≤ wz.heap.size := by omega
        have g0 : (0 : Int) ≤ ((kk : Nat) : Int) := by omega
        have g1 : ((kk : Nat) : Int) ≤ (n : Int) := by omega
        have g2 : (n : Int) ≤ (c : Int) := by omega
        have g4 : ((kk : Nat) : Int) ≤ (c : Int) := by omega
        have g6 : IntKind.i64.wrap ((kk : Nat) : Int) = ((kk : Nat) : Int) := wrap_i64 (by omega) (by omega)
        have g7 : IntKind.i64.wrap (n : Int) = (n : Int) := wrap_i64 (by omega) (by omega)
        have g8 : IntKind.i64.wrap (c : Int) = (c : Int) := wrap_i64 (by omega) (by unfold maxLen at hcm; omega)
        have n1 : kk ≤ n := by omega
        have n2 : kk ≤ c := by omega
        have o1 : 0 + kk ≤ 8000000000 := by omega
        have o2 : kk + 1 ≤ 8000000000 := by omega
        have o3 : kk + 1 + (n - kk) ≤ 8000000000 := by omega
        have HAc : Hid (A' = none → c = 0) := HA
        have HAd : Hid ((if c = kk then A' else Option.map (fun x => x.add (kk * 2)) A') = none → c - kk = 0) := hid (by
          intro h
          split at h
          · omega
          · have := HAc.out (by simpa using h); omega)
        have HNW : Hid (∀ g, (Value.slice (some ⟨wz.heap.size, 0, none⟩) 0 0).ownBlock = some g → g < wz.heap.size + 1 ∨ wz.heap.size + 2 ≤ g) := hid (fun g hg => by simp [Value.ownBlock] at hg; omega)
        have hsz4 : wz.heap.size ≤ (wz.alloc (.cells #[] 29)).drew.heap.size := hb4.size
        have OWNa : (wz.alloc (.cells #[] 29)).drew.ownsRow wz.heap.size 29 2 (.slice (some ⟨wz.heap.size, 0, none⟩) 0 0) 0 (NC []) := OWN0 wz
        have OWNb : ((wz.alloc (.cells #[] 29)).alloc (.cells #[.int .i64 x1, .int .i64 x2] 29)).drew.ownsRow wz.heap.size 29 2 (.slice (some ⟨wz.heap.size, 0, none⟩) 0 0) 0 (NC []) := OWN1
        have hTa : Nears (wz.alloc (.cells #[] 29)).drew lo up A' kk (l.take kk) := hT.below hb4 hupz
        have hTb : Nears ((wz.alloc (.cells #[] 29)).alloc (.cells #[.int .i64 x1, .int .i64 x2] 29)).drew lo up A' kk (l.take kk) := hT.below hb5 hupz
        have hOa : ∀ g, (Value.slice (some ⟨wz.heap.size, 0, none⟩) 0 0).ownBlock = some g → wz.heap.size ≤ g := fun g hg => (OWNa.lt g hg).1
        have hOb := hOa
        have OWNX : ∀ (W : World) (A : Option Addr) (c1 : Nat) (l1 : List (Int × Int)), W.ownsRow wz.heap.size 29 2 (.slice A kk c1) kk (NC l1) → (W.alloc (.cells #[.int .i64 x1, .int .i64 x2] 29)).ownsRow wz.heap.size 29 2 (.slice A kk c1) kk (NC l1) := fun W A c1 l1 h => own_touch h (touch_lays (lays_alloc W _) []) (by simp)
        have hb4c : Below wz.heap.size wz (wz.alloc (.cells #[.int .i64 x1, .int .i64 x2] 29)).drew := below_drewN ((Below.refl _ _).alloc (Nat.le_refl _) _) 1
        have hb5c : Below wz.heap.size wz ((wz.alloc (.cells #[.int .i64 x1, .int .i64 x2] 29)).alloc (.cells #[] 29)).drew := below_drewN (((Below.refl _ _).alloc (Nat.le_refl _) _).alloc (by simp) _) 1
        have hsz5c : wz.heap.size ≤ ((wz.alloc (.cells #[.int .i64 x1, .int .i64 x2] 29)).alloc (.cells #[] 29)).drew.heap.size := hb5c.size
        have OWNc : ((wz.alloc (.cells #[.int .i64 x1, .int .i64 x2] 29)).alloc (.cells #[] 29)).drew.ownsRow wz.heap.size 29 2 (.slice (some ⟨wz.heap.size + 1, 0, none⟩) 0 0) 0 (NC []) := by
          have := World.ownsRow_made (base := wz.heap.size) (e := 29) (size := 2) (wz.alloc (.cells #[.int .i64 x1, .int .i64 x2] 29)) #[] 0 (by simp) (by decide) rfl
          rwa [show (wz.alloc (.cells #[.int .i64 x1, .int .i64 x2] 29)).heap.size = wz.heap.size + 1 by simp] at this
        have hTc : Nears ((wz.alloc (.cells #[.int .i64 x1, .int .i64 x2] 29)).alloc (.cells #[] 29)).drew lo up A' kk (l.take kk) := hT.below hb5c hupz
        have hOc : ∀ g, (Value.slice (some ⟨wz.heap.size + 1, 0, none⟩) 0 0).ownBlock = some g → wz.heap.size ≤ g := fun g hg => (OWNc.lt g hg).1
        have NEWc : Nears ((wz.alloc (.cells #[.int .i64 x1, .int .i64 x2] 29)).alloc (.cells #[] 29)).drew wz.heap.size (wz.heap.size + 1) (some ⟨wz.heap.size, 0, none⟩) 1 [(x1, x2)] := (nears_lit wz 29 [(x1, x2)] _ 1 wz.heap.size rfl rfl rfl).lays ((lays_alloc _ (.cells #[] 29)).trans (lays_drewN _ 1)) (by simp)
        have hs6c : wz.heap.size + 1 ≤ ((wz.alloc (.cells #[.int .i64 x1, .int .i64 x2] 29)).alloc (.cells #[] 29)).drew.heap.size := by show _ ≤ ((wz.alloc (.cells #[.int .i64 x1, .int .i64 x2] 29)).alloc (.cells #[] 29)).heap.size; simp
        have HNWc : Hid (∀ g, (Value.slice (some ⟨wz.heap.size + 1, 0, none⟩) 0 0).ownBlock = some g → g < wz.heap.size ∨ wz.heap.size + 1 ≤ g) := hid (fun g hg => by simp [Value.ownBlock] at hg; omega)
        have hnn : ∀ q : Nat, (some (⟨q, 0, none⟩ : Addr)) = none → 1 = 0 := fun q e => by cases e
        have NEWW : ∀ W : World, Nears (W.alloc (.cells #[.int .i64 x1, .int .i64 x2] 29)) W.heap.size (W.heap.size + 1) (some ⟨W.heap.size, 0, none⟩) 1 [(x1, x2)] := fun W => nears_lit W 29 [(x1, x2)] _ 1 _ rfl rfl rfl
        go_wp2
        go_region_held3 (fun w' => w'.cell? ⟨B, 0, none⟩ = some (.int .i64 x1) ∧ w'.cell? ⟨B, 1, none⟩ = some (.int .i64 x2)) (first | exact ⟨d0, d1⟩ | exact KP _ hb4 | exact KP _ hb5 | exact KP _ hb4c | exact KP _ hb5c | exact KP _ hb7 | exact KP _ hb8 | exact KP _ hb9 | exact KP _ hb11)
          (first
            | (refine step_append_pairs _ rfl (.tmp 21) (.tmp 24) 35 rfl wz.heap.size Try.underlying35 (.slice (some ⟨wz.heap.size, 0, none⟩) 0 0) 0 [] rfl OWNa lo up A' kk c rfl HAc.out (l.take kk) hTa o1 hsz4 ?_; intro v7 w7 own7 grow7 at7; have hb7 := hb4.grown grow7 hsz4 hOa; rw [Nat.zero_add, List.nil_append] at own7; obtain ⟨A7, c7, rfl⟩ := own_shape2 own7; have hb8 := hb7.alloc hb7.size (.cells #[.int .i64 x1, .int .i64 x2] 29))
            | (refine step_append_pairs _ rfl (.tmp 21) (.tmp 24) 35 rfl wz.heap.size Try.underlying35 (.slice (some ⟨wz.heap.size, 0, none⟩) 0 0) 0 [] rfl OWNb lo up A' kk c rfl HAc.out (l.take kk) hTb o1 hsz5 ?_; intro v7 w7 own7 grow7 at7; have hb7 := hb5.grown grow7 hsz5 hOb; have hnew7 := NEW.grown grow7 hs6 HNW.out; rw [Nat.zero_add, List.nil_append] at own7; obtain ⟨A7, c7, rfl⟩ := own_shape2 own7)
            | (refine step_append_pairs _ rfl (.tmp 21) (.tmp 24) 35 rfl wz.heap.size Try.underlying35 (.slice (some ⟨wz.heap.size + 1, 0, none⟩) 0 0) 0 [] rfl OWNc lo up A' kk c rfl HAc.out (l.take kk) hTc o1 hsz5c ?_; intro v7 w7 own7 grow7 at7; have hb7 := hb5c.grown grow7 hsz5c hOc; have hnew7 := NEWc.grown grow7 hs6c HNWc.out; rw [Nat.zero_add, List.nil_append] at own7; obtain ⟨A7, c7, rfl⟩ := own_shape2 own7)
            | (refine step_append_pairs _ rfl (.tmp 25) (.tmp 27) 35 rfl wz.heap.size Try.underlying35 (.slice A7 kk c7) kk (l.take kk) rfl own7 wz.heap.size (wz.heap.size + 1) (some ⟨wz.heap.size, 0, none⟩) 1 1 rfl (hnn wz.heap.size) [(x1, x2)] hnew7 o2 hb7.size ?_; intro v9 w9 own9 grow9 at9; have hb9 := hb7.grown grow9 hb7.size (fun g hg => (own7.lt g hg).1); obtain ⟨A9, c9, rfl⟩ := own_shape2 own9)
            | (refine step_append_pairs _ rfl (.tmp 25) (.tmp 27) 35 rfl wz.heap.size Try.underlying35 (.slice A7 kk c7) kk (l.take kk) rfl (OWNX w7 _ _ _ own7) w7.heap.size (w7.heap.size + 1) (some ⟨w7.heap.size, 0, none⟩) 1 1 rfl (hnn w7.heap.size) [(x1, x2)] (NEWW w7) o2 hb8.size ?_; intro v9 w9 own9 grow9 at9; have hb9 := hb8.grown grow9 hb8.size (fun g hg => (own7.lt g hg).1); obtain ⟨A9, c9, rfl⟩ := own_shape2 own9)
            | (refine step_append_pairs _ rfl (.tmp 25) (.tmp 27) 35 rfl wz.heap.size Try.underlying35 (.slice A7 kk c7) kk (l.take kk) rfl own7 (wz.heap.size + 1) (wz.heap.size + 2) (some ⟨wz.heap.size + 1, 0, none⟩) 1 1 rfl (hnn (wz.heap.size + 1)) [(x1, x2)] hnew7 o2 hb7.size ?_; intro v9 w9 own9 grow9 at9; have hb9 := hb7.grown grow9 hb7.size (fun g hg => (own7.lt g hg).1); obtain ⟨A9, c9, rfl⟩ := own_shape2 own9)
            | (refine step_append_pairs _ rfl (.tmp 28) (.tmp 31) 35 rfl wz.heap.size Try.underlying35 (.slice A9 (kk + 1) c9) (kk + 1) (l.take kk ++ [(x1, x2)]) rfl own9 lo up (if c = kk then A' else Option.map (fun x => x.add (kk * 2)) A') (n - kk) (c - kk) rfl HAd.out (l.drop kk) (hD.below hb9 hupz) o3 hb9.size ?_; intro v11 w11 own11 grow11 at11; have hb11 := hb9.grown grow11 hb9.size (fun g hg => (own9.lt g hg).1)))
        all_goals
          rw [show kk + 1 + (n - kk) = n + 1 by omega, HI.out] at own11
          have hfin : Below w.heap.size w w11 := (H0.out.trans HZ.out).below.trans (hb11.mono (H0.out.trans HZ.out).below.size)
          generalize (if c = kk then A' else Option.map (fun x => x.add (kk * 2)) A') = AA
          go_wp2
          go_ret
          exact ⟨v11, rfl, own_base own11 (H0.out.trans HZ.out).below.size, hfin⟩
    · have hk0' : (k : Int) ≤ 0 := by omega
      go_wp2
      go_quiet_grown (fail)
      have L1 := lays_mk wr nq osq
      have HZ := hid (HW.out.trans L1)
      have bz := br.lays L1
      have hz := hr.lays L1 (by have := br.2.2; omega)
      clear L1 br hr h'
      generalize grow (wr.drewN nq) osq = wz at HZ bz hz ⊢
      have H2 : Hid (0 < k → nlt (x1, x2) (l.getD (k - 1) (0, 0)) = false) := hid (fun h => absurd h hk0)
      have HI : Hid ((l.take k ++ [(x1, x2)]) ++ l.drop k = ins l (x1, x2)) := hid (into_is HO.out (by rw [HL.out]; omega) (fun j h1 h2 => HK.out j h1 (by rw [HL.out] at h2; exact h2)) H2.out)
      obtain ⟨d0, d1, dB⟩ := bz
      have KP : ∀ W' : World, Below wz.heap.size wz W' → W'.cell? ⟨B, 0, none⟩ = some (.int .i64 x1) ∧ W'.cell? ⟨B, 1, none⟩ = some (.int .i64 x2) := fun W' hb => ⟨(hb.cell dB).trans d0, (hb.cell dB).trans d1⟩
      have OWN0 : ∀ W : World, (W.alloc (.cells #[] 29)).ownsRow W.heap.size 29 2 (.slice (some ⟨W.heap.size, 0, none⟩) 0 0) 0 (NC []) := fun W => World.ownsRow_made W #[] 0 (Nat.le_refl _) (by decide) rfl
      have hb4 : Below wz.heap.size wz (wz.alloc (.cells #[] 29)).drew := below_drewN ((Below.refl _ _).alloc (Nat.le_refl _) _) 1
      have hb5 : Below wz.heap.size wz ((wz.alloc (.cells #[] 29)).alloc (.cells #[.int .i64 x1, .int .i64 x2] 29)).drew := below_drewN (((Below.refl _ _).alloc (Nat.le_refl _) _).alloc (by simp) _) 1
      have hsz5 : wz.heap.size ≤ ((wz.alloc (.cells #[] 29)).alloc (.cells #[.int .i64 x1, .int .i64 x2] 29)).drew.heap.size := hb5.size
      have OWN1 : ((wz.alloc (.cells #[] 29)).alloc (.cells #[.int .i64 x1, .int .i64 x2] 29)).ownsRow wz.heap.size 29 2 (.slice (some ⟨wz.heap.size, 0, none⟩) 0 0) 0 (NC []) := own_touch (OWN0 wz) (touch_lays (lays_alloc _ _) []) (by simp)
      have NEW : Nears ((wz.alloc (.cells #[] 29)).alloc (.cells #[.int .i64 x1, .int .i64 x2] 29)).drew (wz.heap.size + 1) (wz.heap.size + 2) (some ⟨wz.heap.size + 1, 0, none⟩) 1 [(x1, x2)] := nears_lit (wz.alloc (.cells #[] 29)) 29 [(x1, x2)] _ 1 (wz.heap.size + 1) rfl rfl (by simp)
      have hs6 : wz.heap.size + 2 ≤ ((wz.alloc (.cells #[] 29)).alloc (.cells #[.int .i64 x1, .int .i64 x2] 29)).drew.heap.size := by show _ ≤ ((wz.alloc (.cells #[] 29)).alloc (.cells #[.int .i64 x1, .int .i64 x2] 29)).heap.size; simp
      have hT := hz.take (k := k) (by omega)
      have hD := hz.drop (k := k) (cap := c) (by omega) hnc
      have hupz : up ≤ wz.heap.size := by omega
      have g0 : (0 : Int) ≤ ((k : Nat) : Int) := by omega
      have g1 : ((k : Nat) : Int) ≤ (n : Int) := by omega
      have g2 : (n : Int) ≤ (c : Int) := by omega
      have g4 : ((k : Nat) : Int) ≤ (c : Int) := by omega
      have g6 : IntKind.i64.wrap ((k : Nat) : Int) = ((k : Nat) : Int) := wrap_i64 (by omega) (by omega)
      have g7 : IntKind.i64.wrap (n : Int) = (n : Int) := wrap_i64 (by omega) (by omega)
      have g8 : IntKind.i64.wrap (c : Int) = (c : Int) := wrap_i64 (by omega) (by unfold maxLen at hcm; omega)
      have n1 : k ≤ n := by omega
      have n2 : k ≤ c := by omega
      have o1 : 0 + k ≤ 8000000000 := by omega
      have o2 : k + 1 ≤ 8000000000 := by omega
      have o3 : k + 1 + (n - k) ≤ 8000000000 := by omega
      have HAc : Hid (A = none → c = 0) := HA
      have HAd : Hid ((if c = k then A else Option.map (fun x => x.add (k * 2)) A) = none → c - k = 0) := hid (by
        intro h
        split at h
        · omega
        · have := HAc.out (by simpa using h); omega)
      have HNW : Hid (∀ g, (Value.slice (some ⟨wz.heap.size, 0, none⟩) 0 0).ownBlock = some g → g < wz.heap.size + 1 ∨ wz.heap.size + 2 ≤ g) := hid (fun g hg => by simp [Value.ownBlock] at hg; omega)
      have hsz4 : wz.heap.size ≤ (wz.alloc (.cells #[] 29)).drew.heap.size := hb4.size
      have OWNa : (wz.alloc (.cells #[] 29)).drew.ownsRow wz.heap.size 29 2 (.slice (some ⟨wz.heap.size, 0, none⟩) 0 0) 0 (NC []) := OWN0 wz
      have OWNb : ((wz.alloc (.cells #[] 29)).alloc (.cells #[.int .i64 x1, .int .i64 x2] 29)).drew.ownsRow wz.heap.size 29 2 (.slice (some ⟨wz.heap.size, 0, none⟩) 0 0) 0 (NC []) := OWN1
      have hTa : Nears (wz.alloc (.cells #[] 29)).drew lo up A k (l.take k) := hT.below hb4 hupz
      have hTb : Nears ((wz.alloc (.cells #[] 29)).alloc (.cells #[.int .i64 x1, .int .i64 x2] 29)).drew lo up A k (l.take k) := hT.below hb5 hupz
      have hOa : ∀ g, (Value.slice (some ⟨wz.heap.size, 0, none⟩) 0 0).ownBlock = some g → wz.heap.size ≤ g := fun g hg => (OWNa.lt g hg).1
      have hOb := hOa
      have OWNX : ∀ (W : World) (A : Option Addr) (c1 : Nat) (l1 : List (Int × Int)), W.ownsRow wz.heap.size 29 2 (.slice A k c1) k (NC l1) → (W.alloc (.cells #[.int .i64 x1, .int .i64 x2] 29)).ownsRow wz.heap.size 29 2 (.slice A k c1) k (NC l1) := fun W A c1 l1 h => own_touch h (touch_lays (lays_alloc W _) []) (by simp)
      have hb4c : Below wz.heap.size wz (wz.alloc (.cells #[.int .i64 x1, .int .i64 x2] 29)).drew := below_drewN ((Below.refl _ _).alloc (Nat.le_refl _) _) 1
      have hb5c : Below wz.heap.size wz ((wz.alloc (.cells #[.int .i64 x1, .int .i64 x2] 29)).alloc (.cells #[] 29)).drew := below_drewN (((Below.refl _ _).alloc (Nat.le_refl _) _).alloc (by simp) _) 1
      have hsz5c : wz.heap.size ≤ ((wz.alloc (.cells #[.int .i64 x1, .int .i64 x2] 29)).alloc (.cells #[] 29)).drew.heap.size := hb5c.size
      have OWNc : ((wz.alloc (.cells #[.int .i64 x1, .int .i64 x2] 29)).alloc (.cells #[] 29)).drew.ownsRow wz.heap.size 29 2 (.slice (some ⟨wz.heap.size + 1, 0, none⟩) 0 0) 0 (NC []) := by
        have := World.ownsRow_made (base := wz.heap.size) (e := 29) (size := 2) (wz.alloc (.cells #[.int .i64 x1, .int .i64 x2] 29)) #[] 0 (by simp) (by decide) rfl
        rwa [show (wz.alloc (.cells #[.int .i64 x1, .int .i64 x2] 29)).heap.size = wz.heap.size + 1 by simp] at this
      have hTc : Nears ((wz.alloc (.cells #[.int .i64 x1, .int .i64 x2] 29)).alloc (.cells #[] 29)).drew lo up A k (l.take k) := hT.below hb5c hupz
      have hOc : ∀ g, (Value.slice (some ⟨wz.heap.size + 1, 0, none⟩) 0 0).ownBlock = some g → wz.heap.size ≤ g := fun g hg => (OWNc.lt g hg).1
      have NEWc : Nears ((wz.alloc (.cells #[.int .i64 x1, .int .i64 x2] 29)).alloc (.cells #[] 29)).drew wz.heap.size (wz.heap.size + 1) (some ⟨wz.heap.size, 0, none⟩) 1 [(x1, x2)] := (nears_lit wz 29 [(x1, x2)] _ 1 wz.heap.size rfl rfl rfl).lays ((lays_alloc _ (.cells #[] 29)).trans (lays_drewN _ 1)) (by simp)
      have hs6c : wz.heap.size + 1 ≤ ((wz.alloc (.cells #[.int .i64 x1, .int .i64 x2] 29)).alloc (.cells #[] 29)).drew.heap.size := by show _ ≤ ((wz.alloc (.cells #[.int .i64 x1, .int .i64 x2] 29)).alloc (.cells #[] 29)).heap.size; simp
      have HNWc : Hid (∀ g, (Value.slice (some ⟨wz.heap.size + 1, 0, none⟩) 0 0).ownBlock = some g → g < wz.heap.size ∨ wz.heap.size + 1 ≤ g) := hid (fun g hg => by simp [Value.ownBlock] at hg; omega)
      have hnn : ∀ q : Nat, (some (⟨q, 0, none⟩ : Addr)) = none → 1 = 0 := fun q e => by cases e
      have NEWW : ∀ W : World, Nears (W.alloc (.cells #[.int .i64 x1, .int .i64 x2] 29)) W.heap.size (W.heap.size + 1) (some ⟨W.heap.size, 0, none⟩) 1 [(x1, x2)] := fun W => nears_lit W 29 [(x1, x2)] _ 1 _ rfl rfl rfl
      go_wp2
      go_region_held3 (fun w' => w'.cell? ⟨B, 0, none⟩ = some (.int .i64 x1) ∧ w'.cell? ⟨B, 1, none⟩ = some (.int .i64 x2)) (first | exact ⟨d0, d1⟩ | exact KP _ hb4 | exact KP _ hb5 | exact KP _ hb4c | exact KP _ hb5c | exact KP _ hb7 | exact KP _ hb8 | exact KP _ hb9 | exact KP _ hb11)
        (first
          | (refine step_append_pairs _ rfl (.tmp 21) (.tmp 24) 35 rfl wz.heap.size Try.underlying35 (.slice (some ⟨wz.heap.size, 0, none⟩) 0 0) 0 [] rfl OWNa lo up A k c rfl HAc.out (l.take k) hTa o1 hsz4 ?_; intro v7 w7 own7 grow7 at7; have hb7 := hb4.grown grow7 hsz4 hOa; rw [Nat.zero_add, List.nil_append] at own7; obtain ⟨A7, c7, rfl⟩ := own_shape2 own7; have hb8 := hb7.alloc hb7.size (.cells #[.int .i64 x1, .int .i64 x2] 29))
          | (refine step_append_pairs _ rfl (.tmp 21) (.tmp 24) 35 rfl wz.heap.size Try.underlying35 (.slice (some ⟨wz.heap.size, 0, none⟩) 0 0) 0 [] rfl OWNb lo up A k c rfl HAc.out (l.take k) hTb o1 hsz5 ?_; intro v7 w7 own7 grow7 at7; have hb7 := hb5.grown grow7 hsz5 hOb; have hnew7 := NEW.grown grow7 hs6 HNW.out; rw [Nat.zero_add, List.nil_append] at own7; obtain ⟨A7, c7, rfl⟩ := own_shape2 own7)
          | (refine step_append_pairs _ rfl (.tmp 21) (.tmp 24) 35 rfl wz.heap.size Try.underlying35 (.slice (some ⟨wz.heap.size + 1, 0, none⟩) 0 0) 0 [] rfl OWNc lo up A k c rfl HAc.out (l.take k) hTc o1 hsz5c ?_; intro v7 w7 own7 grow7 at7; have hb7 := hb5c.grown grow7 hsz5c hOc; have hnew7 := NEWc.grown grow7 hs6c HNWc.out; rw [Nat.zero_add, List.nil_append] at own7; obtain ⟨A7, c7, rfl⟩ := own_shape2 own7)
          | (refine step_append_pairs _ rfl (.tmp 25) (.tmp 27) 35 rfl wz.heap.size Try.underlying35 (.slice A7 k c7) k (l.take k) rfl own7 wz.heap.size (wz.heap.size + 1) (some ⟨wz.heap.size, 0, none⟩) 1 1 rfl (hnn wz.heap.size) [(x1, x2)] hnew7 o2 hb7.size ?_; intro v9 w9 own9 grow9 at9; have hb9 := hb7.grown grow9 hb7.size (fun g hg => (own7.lt g hg).1); obtain ⟨A9, c9, rfl⟩ := own_shape2 own9)
          | (refine step_append_pairs _ rfl (.tmp 25) (.tmp 27) 35 rfl wz.heap.size Try.underlying35 (.slice A7 k c7) k (l.take k) rfl (OWNX w7 _ _ _ own7) w7.heap.size (w7.heap.size + 1) (some ⟨w7.heap.size, 0, none⟩) 1 1 rfl (hnn w7.heap.size) [(x1, x2)] (NEWW w7) o2 hb8.size ?_; intro v9 w9 own9 grow9 at9; have hb9 := hb8.grown grow9 hb8.size (fun g hg => (own7.lt g hg).1); obtain ⟨A9, c9, rfl⟩ := own_shape2 own9)
          | (refine step_append_pairs _ rfl (.tmp 25) (.tmp 27) 35 rfl wz.heap.size Try.underlying35 (.slice A7 k c7) k (l.take k) rfl own7 (wz.heap.size + 1) (wz.heap.size + 2) (some ⟨wz.heap.size + 1, 0, none⟩) 1 1 rfl (hnn (wz.heap.size + 1)) [(x1, x2)] hnew7 o2 hb7.size ?_; intro v9 w9 own9 grow9 at9; have hb9 := hb7.grown grow9 hb7.size (fun g hg => (own7.lt g hg).1); obtain ⟨A9, c9, rfl⟩ := own_shape2 own9)
          | (refine step_append_pairs _ rfl (.tmp 28) (.tmp 31) 35 rfl wz.heap.size Try.underlying35 (.slice A9 (k + 1) c9) (k + 1) (l.take k ++ [(x1, x2)]) rfl own9 lo up (if c = k then A else Option.map (fun x => x.add (k * 2)) A) (n - k) (c - k) rfl HAd.out (l.drop k) (hD.below hb9 hupz) o3 hb9.size ?_; intro v11 w11 own11 grow11 at11; have hb11 := hb9.grown grow11 hb9.size (fun g hg => (own9.lt g hg).1)))
      all_goals
        rw [show k + 1 + (n - k) = n + 1 by omega, HI.out] at own11
        have hfin : Below w.heap.size w w11 := (H0.out.trans HZ.out).below.trans (hb11.mono (H0.out.trans HZ.out).below.size)
        generalize (if c = k then A else Option.map (fun x => x.add (k * 2)) A) = AA
        go_wp2
        go_ret
        exact ⟨v11, rfl, own_base own11 (H0.out.trans HZ.out).below.size, hfin⟩
end Go.Proofs.Ytdknjeikhdodeaa
