/-
  What is proved here: what records come to, as plain data, and what the specification's l10fold and Fold answer.
-/
import Derived.Test.YtjceajgefpinpaaJN12
import Derived.Test.YtjceajgefpinpaaC0v
namespace Go.Proofs.Ytjceajgefpinpaa
open Go.RowKit
set_option maxRecDepth 100000
set_option maxHeartbeats 4000000
set_option linter.unusedVariables false

abbrev bz : Bt := ⟨0, 0, 0, false, 0, 0⟩
abbrev fo0 (l : List Rc) : Bt := ⟨(rg l 1).b, (rg l 1).n, (rg l 1).f, false, 0, 0⟩
/-- The state behind the set record and j more. -/
def foS (l : List Rc) : Nat → Bt
  | 0 => fo0 l
  | j + 1 => (stT (foS l j) (rg l (j + 2))).1
abbrev foAll (l : List Rc) : Prop := ∀ i, i < l.length → (rg l i).Ok
abbrev foGood (l : List Rc) : Prop := 2 ≤ l.length ∧ (rg l 0).k = 1 ∧ (rg l 1).k = 2
def foL (l : List Rc) : Bt × Bool := if foGood l then (foS l (l.length - 2), true) else (bz, false)
def foT (l : List Rc) : Bt × Bool := if l.length ≤ 32 ∧ foAll l then foL l else (bz, false)
theorem foS_ok {l : List Rc} (ha : foAll l) (hg : foGood l) : ∀ j, j + 2 ≤ l.length → (foS l j).Ok
  | 0, h => by
    have := ha 1 (by omega)
    have h2 := hg.2.2
    unfold foS fo0 Bt.Ok btOk
    simp only [Rc.Ok, rcOk] at this
    refine ⟨by dsimp only; omega, by dsimp only; omega, by dsimp only; omega, ?_⟩
    rw [if_neg (by simp)]
    exact ⟨rfl, rfl⟩
  | j + 1, h => stT_ok (foS_ok ha hg j (by omega)) (ha (j + 2) (by omega))
theorem ok_bi {s : Bt} (h : s.Ok) : (0 ≤ s.b ∧ s.b ≤ 1) ∧ (0 ≤ s.i ∧ s.i ≤ 3) := by
  obtain ⟨h1, h2, h3, h4⟩ := h
  refine ⟨h1, ?_⟩
  split at h4 <;> omega

theorem specL10fold (a : Option Addr) (n cap : Nat) (l : List Rc) (w : World) (h : Rs w a n cap l) (hn : n ≤ 1048576) (ha : foAll l) :
    Calls Try.prog 70 #[.slice a n cap] w fun e w' => e = .returned (stV (foL l)) ∧ Below w.heap.size w w' := by
  obtain ⟨S, hS⟩ : ∃ S, foL l = S := ⟨_, rfl⟩
  rw [hS]
  unfold foL at hS
  have hl := h.2.1
  obtain ⟨W, hW⟩ : ∃ W, W = w.alloc (.cells #[.int .i64 0, .int .i64 0, .int .i64 0, .bool false, .int .i64 0, .int .i64 0] 35) := ⟨_, rfl⟩
  have B : Below w.heap.size w W := by rw [hW]; exact (Below.refl _ _).alloc (Nat.le_refl _) _
  have Q : Arr W w.heap.size 35 [.int .i64 0, .int .i64 0, .int .i64 0, .bool false, .int .i64 0, .int .i64 0] := by rw [hW]; exact Arr.new _ _ _
  have HA : Hid _ := ha
  clear ha
  go_enter Try.func70, Try.ntmps70
  go_upto_region 1 with fail
  rw [← hW]
  clear hW
  by_cases h2 : 2 ≤ n
  case neg =>
    have h2' : (n : Int) < 2 := by omega
    have HS : Hid _ := (if_neg (fun g : foGood l => h2 (by have := g.1; omega))).symm.trans hS
    clear hS h2
    have fR := Q.frozen
    have lR := Q.lt
    have q0 := Q.cell 0
    have q1 := Q.cell 1
    have q2 := Q.cell 2
    have q3 := Q.cell 3
    have q4 := Q.cell 4
    have q5 := Q.cell 5
    simp at q0 q1 q2 q3 q4 q5
    have HK : Hid _ := set6 Q (.int .i64 0) (.int .i64 0) (.int .i64 0) (.bool false) (.int .i64 0) (.int .i64 0)
    have HB : Hid _ := bel_set6 B (show w.heap.size ≤ w.heap.size by omega) (.int .i64 0) (.int .i64 0) (.int .i64 0) (.bool false) (.int .i64 0) (.int .i64 0)
    clear Q B
    go_wp2
    exact bodyPost_ret (results_row_tmp (v := .bool false) (t := 35) (cs := [.int .i64 0, .int .i64 0, .int .i64 0, .bool false, .int .i64 0, .int .i64 0]) rfl rfl rfl HK.out Try.underlying35 rfl (by kernel_rfl)) rfl ⟨by rw [← HS.out], HB.out⟩
  have h2' : ¬ ((n : Int) < 2) := by omega
  obtain ⟨b, o, rfl, hbs, hcell⟩ := (h.below B).opened (by omega)
  obtain ⟨x, hx⟩ : ∃ x, x = rg l 0 := ⟨_, rfl⟩
  obtain ⟨y, hy⟩ : ∃ x, x = rg l 1 := ⟨_, rfl⟩
  have hr := hcell 0 (by omega)
  have hr' := hcell 1 (by omega)
  rw [← hx] at hr
  rw [← hy] at hr'
  have EX : Hid _ := hx
  have EY : Hid _ := hy
  have HC : Hid _ := hcell
  clear hx hy hcell
  obtain ⟨xk, xb, xn, xf⟩ := x
  obtain ⟨yk, yb, yn, yf⟩ := y
  obtain ⟨c0, c1, c2, c3⟩ := hr
  obtain ⟨d0, d1, d2, d3⟩ := hr'
  simp at c0 c1 c2 c3 d0 d1 d2 d3
  have i1 : (1 : Int) < (n : Int) := by omega
  have i0 : (0 : Int) < (n : Int) := by omega
  by_cases hk0 : xk = 1
  case neg =>
    have hk0' : (xk != 1) = true := by simpa using hk0
    have HS : Hid _ := (if_neg (fun g : foGood l => hk0 (by have := g.2.1; rw [← EX.out] at this; exact this))).symm.trans hS
    clear hS hk0
    have fR := Q.frozen
    have lR := Q.lt
    have q0 := Q.cell 0
    have q1 := Q.cell 1
    have q2 := Q.cell 2
    have q3 := Q.cell 3
    have q4 := Q.cell 4
    have q5 := Q.cell 5
    simp at q0 q1 q2 q3 q4 q5
    have HK : Hid _ := set6 Q (.int .i64 0) (.int .i64 0) (.int .i64 0) (.bool false) (.int .i64 0) (.int .i64 0)
    have HB : Hid _ := bel_set6 B (show w.heap.size ≤ w.heap.size by omega) (.int .i64 0) (.int .i64 0) (.int .i64 0) (.bool false) (.int .i64 0) (.int .i64 0)
    clear Q B
    go_wp2
    exact bodyPost_ret (results_row_tmp (v := .bool false) (t := 35) (cs := [.int .i64 0, .int .i64 0, .int .i64 0, .bool false, .int .i64 0, .int .i64 0]) rfl rfl rfl HK.out Try.underlying35 rfl (by kernel_rfl)) rfl ⟨by rw [← HS.out], HB.out⟩
  have hk0' : (xk != 1) = false := by simpa using hk0
  by_cases hk1 : yk = 2
  case neg =>
    have hk1' : (yk != 2) = true := by simpa using hk1
    have HS : Hid _ := (if_neg (fun g : foGood l => hk1 (by have := g.2.2; rw [← EY.out] at this; exact this))).symm.trans hS
    clear hS hk1 hk0
    have fR := Q.frozen
    have lR := Q.lt
    have q0 := Q.cell 0
    have q1 := Q.cell 1
    have q2 := Q.cell 2
    have q3 := Q.cell 3
    have q4 := Q.cell 4
    have q5 := Q.cell 5
    simp at q0 q1 q2 q3 q4 q5
    have HK : Hid _ := set6 Q (.int .i64 0) (.int .i64 0) (.int .i64 0) (.bool false) (.int .i64 0) (.int .i64 0)
    have HB : Hid _ := bel_set6 B (show w.heap.size ≤ w.heap.size by omega) (.int .i64 0) (.int .i64 0) (.int .i64 0) (.bool false) (.int .i64 0) (.int .i64 0)
    clear Q B
    go_wp2
    exact bodyPost_ret (results_row_tmp (v := .bool false) (t := 35) (cs := [.int .i64 0, .int .i64 0, .int .i64 0, .bool false, .int .i64 0, .int .i64 0]) rfl rfl rfl HK.out Try.underlying35 rfl (by kernel_rfl)) rfl ⟨by rw [← HS.out], HB.out⟩
  have hk1' : (yk != 2) = false := by simpa using hk1
  have HG : Hid (foGood l) := ⟨by omega, by rw [← EX.out]; exact hk0, by rw [← EY.out]; exact hk1⟩
  have HS : Hid _ := (if_pos HG.out).symm.trans hS
  clear hS hk0 hk1
  go_wp2
  try simp only [Act.put]
  refine tame [kc 24 (.slice (some ⟨b, o, none⟩) n cap), kc 25 (.pointer (some ⟨b, o + 4, none⟩)), kc 26 (.pointer (some ⟨b, o + 5, none⟩)), kc 27 (.int .i64 yb), kc 28 (.slice (some ⟨b, o, none⟩) n cap), kc 29 (.pointer (some ⟨b, o + 4, none⟩)), kc 30 (.pointer (some ⟨b, o + 6, none⟩)), kc 31 (.int .i64 yn), kc 32 (.slice (some ⟨b, o, none⟩) n cap), kc 33 (.pointer (some ⟨b, o + 4, none⟩)), kc 34 (.pointer (some ⟨b, o + 7, none⟩)), kc 35 (.int .i64 yf), kc 36 (.agg #[.int .i64 yb, .int .i64 yn, .int .i64 yf, .bool false, .int .i64 0, .int .i64 0]), ka 4 35 [.int .i64 0, .int .i64 0, .int .i64 0, .bool false, .int .i64 0, .int .i64 0]] 14 (by kernel_rfl) (by kernel_rfl) (by kernel_rfl) (by repeat' first | exact trivial | apply kc_keeps | apply ka_keeps | constructor) 1 (by kernel_rfl) (fun vv ll hh yW bW => ?_) (fun vv ll hh yW bW F ivh aph => ?_)
  · have x1 := (bW.cell (p := ⟨b, _, none⟩) hbs).trans d1
    have x2 := (bW.cell (p := ⟨b, _, none⟩) hbs).trans d2
    have x3 := (bW.cell (p := ⟨b, _, none⟩) hbs).trans d3
    refine ⟨tp (by kernel_rfl), tp ?_, tp ?_, tp ?_, tp (by kernel_rfl), tp ?_, tp ?_, tp ?_, tp (by kernel_rfl), tp ?_, tp ?_, tp ?_, tp (by kernel_rfl), ta (by kernel_rfl), trivial⟩
    all_goals
      simp only [fillK, putT, List.setIfInBounds_toArray, List.set_cons_zero, List.set_cons_succ]
      unfold execOp
      try go_simp
  have f1 : Arr yW (ll 13) 35 [.int .i64 0, .int .i64 0, .int .i64 0, .bool false, .int .i64 0, .int .i64 0] ∧ ll 13 < hh 13 := F.2.2.2.2.2.2.2.2.2.2.2.2.2.1
  have s1 := ivh 13 (by omega)
  clear F ivh aph
  obtain ⟨y, hy⟩ : ∃ z, z = yW := ⟨_, rfl⟩
  rw [← hy] at bW f1 s1 ⊢
  clear hy
  obtain ⟨K1, _⟩ := f1
  refine st_row (i := 14) (by kernel_rfl) rfl rfl rfl rfl (cells := [.int .i64 yb, .int .i64 yn, .int .i64 yf, .bool false, .int .i64 0, .int .i64 0]) K1 (by kernel_rfl) (by kernel_rfl) rfl (by kernel_rfl) (by intro v hv; simp at hv; rcases hv with rfl | rfl | rfl | rfl | rfl | rfl <;> rfl) ?_
  refine wpAny_done (by kernel_rfl) ?_ _
  have G : Arr (y.setCells (ll 13) 0 [.int .i64 yb, .int .i64 yn, .int .i64 yf, .bool false, .int .i64 0, .int .i64 0]) (ll 13) 35 [.int .i64 yb, .int .i64 yn, .int .i64 yf, .bool false, .int .i64 0, .int .i64 0] := (((((K1.set 0 _).set 1 _).set 2 _).set 3 _).set 4 _).set 5 _
  simp only [fillK, putT, List.setIfInBounds_toArray, List.set_cons_zero, List.set_cons_succ]
  generalize hg : ll 13 = g at K1 G s1 ⊢
  have zB := B.size
  have zQ := Q.lt
  have n1 : w.heap.size ≠ g := by omega
  have Q2 : Arr (y.setCells g 0 [.int .i64 yb, .int .i64 yn, .int .i64 yf, .bool false, .int .i64 0, .int .i64 0]) w.heap.size 35 [.int .i64 0, .int .i64 0, .int .i64 0, .bool false, .int .i64 0, .int .i64 0] := (((((((Q.kept bW).other ⟨g, 0, none⟩ _ n1).other ⟨g, 1, none⟩ _ n1).other ⟨g, 2, none⟩ _ n1).other ⟨g, 3, none⟩ _ n1).other ⟨g, 4, none⟩ _ n1).other ⟨g, 5, none⟩ _ n1)
  have B2 : Below w.heap.size w (y.setCells g 0 [.int .i64 yb, .int .i64 yn, .int .i64 yf, .bool false, .int .i64 0, .int .i64 0]) := bel_set6 (B.trans (bW.mono B.size)) (show w.heap.size ≤ g by omega) _ _ _ _ _ _
  generalize y.setCells g 0 [.int .i64 yb, .int .i64 yn, .int .i64 yf, .bool false, .int .i64 0, .int .i64 0] = Y at G Q2 B2 ⊢
  have gY := G.lt
  have hgw : w.heap.size < g := by omega
  have G0 : Arr Y g 35 (btC (foS l 0)) := by
    have : foS l 0 = ⟨yb, yn, yf, false, 0, 0⟩ := by unfold foS fo0; rw [← EY.out]
    rw [this]
    exact G
  clear G K1 bW s1 zB zQ n1 hg B Q c0 c1 c2 c3 d0 d1 d2 d3 i1 i0
  go_wp2
  go_loopw [5] (fun i wr => ∃ j : Nat, j + 2 ≤ n ∧ i = .int .i64 ((j : Int) + 2) ∧ Arr wr g 35 (btC (foS l j)) ∧ Arr wr w.heap.size 35 [.int .i64 0, .int .i64 0, .int .i64 0, .bool false, .int .i64 0, .int .i64 0] ∧ Below w.heap.size w wr) (fun i _ => n - (intOf i).toNat)
  case atStart => exact ⟨0, by omega, rfl, G0, Q2, B2⟩
  case round =>
    obtain ⟨j, hj, rfl, G, Q, B⟩ := hrel
    clear G0 Q2 B2
    by_cases hlt : j + 2 < n
    · have hltI : (j : Int) + 2 < (n : Int) := by omega
      have hlt0 : (0 : Int) ≤ (j : Int) + 2 := by omega
      have ht : ((j : Int) + 2).toNat = j + 2 := by omega
      obtain ⟨b2, o2, eab, hbs2, hcell⟩ := (h.below B).opened (by omega)
      simp only [Option.some.injEq, Addr.mk.injEq, and_true] at eab
      obtain ⟨rfl, rfl⟩ := eab
      have hr := hcell (j + 2) hlt
      have hok := foS_ok HA.out HG.out j (by omega)
      obtain ⟨r, er⟩ : ∃ r, r = rg l (j + 2) := ⟨_, rfl⟩
      obtain ⟨s, es⟩ : ∃ s, s = foS l j := ⟨_, rfl⟩
      have en : Hid (foS l (j + 1) = (stT s r).1) := by unfold Hid; rw [es, er]; rfl
      rw [← er] at hr
      rw [← es] at G hok
      obtain ⟨hb0, hi0⟩ := ok_bi hok
      clear er es hcell hok
      obtain ⟨rk, rb, rn, rf⟩ := r
      obtain ⟨sb, sn, sf, st, si, so⟩ := s
      obtain ⟨c0, c1, c2, c3⟩ := hr
      dsimp only at c0 c1 c2 c3 hb0 hi0
      go_wp2_with fail
      refine (specL10step g sb sn sf st si so rk rb rn rf _ G hb0 hi0).mono ?_
      rintro e w2 ⟨rfl, G2, hc⟩
      replace Q := Q.chg hc (by omega)
      replace B := hc.bel B (by omega)
      rw [← en.out] at G2
      clear G hc c0 c1 c2 c3 hb0 hi0 en
      have hw : IntKind.i64.wrap ((j : Int) + 2 + 1) = (j : Int) + 2 + 1 := wr64 (by omega) (by omega)
      go_wp2
      go_roundw
      case rel => exact ⟨j + 1, by omega, by congr 1, G2, Q, B⟩
      case measure => simp [intOf]; omega
    · have hjn : j = l.length - 2 := by omega
      have hltI : ¬ ((j : Int) + 2 < (n : Int)) := by omega
      rw [← hjn] at HS
      obtain ⟨s, es⟩ : ∃ s, s = foS l j := ⟨_, rfl⟩
      rw [← es] at G HS
      clear es hjn
      obtain ⟨sb, sn, sf, st, si, so⟩ := s
      have d0 := G.cell 0
      have d1 := G.cell 1
      have d2 := G.cell 2
      have d3 := G.cell 3
      have d4 := G.cell 4
      have d5 := G.cell 5
      simp at d0 d1 d2 d3 d4 d5
      have fR := Q.frozen
      have lR := Q.lt
      have q0 := Q.cell 0
      have q1 := Q.cell 1
      have q2 := Q.cell 2
      have q3 := Q.cell 3
      have q4 := Q.cell 4
      have q5 := Q.cell 5
      simp at q0 q1 q2 q3 q4 q5
      have HK : Hid _ := set6 Q (.int .i64 sb) (.int .i64 sn) (.int .i64 sf) (.bool st) (.int .i64 si) (.int .i64 so)
      have HB : Hid _ := bel_set6 B (show w.heap.size ≤ w.heap.size by omega) (.int .i64 sb) (.int .i64 sn) (.int .i64 sf) (.bool st) (.int .i64 si) (.int .i64 so)
      clear Q B
      go_wp2
      exact bodyPost_ret (results_row_tmp (v := .bool true) (t := 35) (cs := [.int .i64 sb, .int .i64 sn, .int .i64 sf, .bool st, .int .i64 si, .int .i64 so]) rfl rfl rfl HK.out Try.underlying35 rfl (by kernel_rfl)) rfl ⟨by rw [← HS.out], HB.out⟩
theorem specFold (a : Option Addr) (n cap : Nat) (l : List Rc) (w : World) (h : Rs w a n cap l) (hn : n ≤ 1048576) :
    Calls Try.prog 42 #[.slice a n cap] w fun e w' => e = .returned (stV (foT l)) ∧ Below w.heap.size w w' := by
  obtain ⟨S, hS⟩ : ∃ S, foT l = S := ⟨_, rfl⟩
  rw [hS]
  unfold foT at hS
  have hl := h.2.1
  obtain ⟨W, hW⟩ : ∃ W, W = w.alloc (.cells #[.int .i64 0, .int .i64 0, .int .i64 0, .bool false, .int .i64 0, .int .i64 0] 35) := ⟨_, rfl⟩
  have B : Below w.heap.size w W := by rw [hW]; exact (Below.refl _ _).alloc (Nat.le_refl _) _
  have Q : Arr W w.heap.size 35 [.int .i64 0, .int .i64 0, .int .i64 0, .bool false, .int .i64 0, .int .i64 0] := by rw [hW]; exact Arr.new _ _ _
  go_enter Try.func42, Try.ntmps42
  go_upto_region 1 with fail
  rw [← hW]
  clear hW
  by_cases h32 : (n : Int) ≤ 32
  case neg =>
    have h32' : (32 : Int) < (n : Int) := by omega
    have HS : Hid _ := (if_neg (fun g : _ ∧ _ => h32 (by have := g.1; omega))).symm.trans hS
    clear hS
    have fR := Q.frozen
    have lR := Q.lt
    have q0 := Q.cell 0
    have q1 := Q.cell 1
    have q2 := Q.cell 2
    have q3 := Q.cell 3
    have q4 := Q.cell 4
    have q5 := Q.cell 5
    simp at q0 q1 q2 q3 q4 q5
    have HK : Hid _ := set6 Q (.int .i64 0) (.int .i64 0) (.int .i64 0) (.bool false) (.int .i64 0) (.int .i64 0)
    have HB : Hid _ := bel_set6 B (show w.heap.size ≤ w.heap.size by omega) (.int .i64 0) (.int .i64 0) (.int .i64 0) (.bool false) (.int .i64 0) (.int .i64 0)
    clear Q B
    go_wp2
    exact bodyPost_ret (results_row_tmp (v := .bool false) (t := 35) (cs := [.int .i64 0, .int .i64 0, .int .i64 0, .bool false, .int .i64 0, .int .i64 0]) rfl rfl rfl HK.out Try.underlying35 rfl (by kernel_rfl)) rfl ⟨by rw [← HS.out], HB.out⟩
  have H0 : Hid _ := hS
  clear hS
  have h32' : ¬ ((32 : Int) < (n : Int)) := by omega
  go_wp2
  go_loopw [4] (fun i wr => ∃ j : Nat, j ≤ n ∧ i = .int .i64 j ∧ Hid (∀ q, q < j → (rg l q).Ok) ∧ Arr wr w.heap.size 35 [.int .i64 0, .int .i64 0, .int .i64 0, .bool false, .int .i64 0, .int .i64 0] ∧ Below w.heap.size w wr) (fun i _ => n - (intOf i).toNat)
  case atStart => exact ⟨0, by omega, rfl, (fun q hq => by omega), Q, B⟩
  case round =>
    clear Q B
    obtain ⟨j, hj, rfl, HJ, Q, B⟩ := hrel
    by_cases hlt : j < n
    · obtain ⟨b, o, rfl, hbs, hcell⟩ := (h.below B).opened (by omega)
      have hr := hcell j hlt
      obtain ⟨r, er⟩ : ∃ r, r = rg l j := ⟨_, rfl⟩
      rw [← er] at hr
      have ER : Hid _ := er
      clear er hcell
      obtain ⟨rk, rb, rn, rf⟩ := r
      obtain ⟨c0, c1, c2, c3⟩ := hr
      dsimp only at c0 c1 c2 c3
      go_wp2_with fail
      refine (specRecOk rk rb rn rf _).mono ?_
      rintro e w2 ⟨rfl, hb2⟩
      replace Q := Q.kept hb2
      replace B := B.trans (hb2.mono B.size)
      clear hb2 c0 c1 c2 c3
      by_cases hok : rcOk rk rb rn rf
      · rw [decide_eq_true hok]
        go_wp2
        go_roundw
        case rel =>
          refine ⟨j + 1, by omega, by go_num, (fun q hq => ?_), Q, B⟩
          by_cases e : q = j
          · subst e; rw [← ER.out]; exact hok
          · exact HJ.out q (by omega)
        case measure => simp [intOf]; omega
      · rw [decide_eq_false hok]
        have HS : Hid _ := (if_neg (fun g : _ ∧ _ => hok (by have := g.2 j (by omega); rw [← ER.out] at this; exact this))).symm.trans H0.out
        clear H0
        have fR := Q.frozen
        have lR := Q.lt
        have q0 := Q.cell 0
        have q1 := Q.cell 1
        have q2 := Q.cell 2
        have q3 := Q.cell 3
        have q4 := Q.cell 4
        have q5 := Q.cell 5
        simp at q0 q1 q2 q3 q4 q5
        have HK : Hid _ := set6 Q (.int .i64 0) (.int .i64 0) (.int .i64 0) (.bool false) (.int .i64 0) (.int .i64 0)
        have HB : Hid _ := bel_set6 B (show w.heap.size ≤ w.heap.size by omega) (.int .i64 0) (.int .i64 0) (.int .i64 0) (.bool false) (.int .i64 0) (.int .i64 0)
        clear Q B
        go_wp2
        exact bodyPost_ret (results_row_tmp (v := .bool false) (t := 35) (cs := [.int .i64 0, .int .i64 0, .int .i64 0, .bool false, .int .i64 0, .int .i64 0]) rfl rfl rfl HK.out Try.underlying35 rfl (by kernel_rfl)) rfl ⟨by rw [← HS.out], HB.out⟩
    · have hjn : j = n := by omega
      subst hjn
      have HA : Hid (foAll l) := fun q hq => HJ.out q (by omega)
      have HS : Hid _ := (if_pos ⟨by omega, HA.out⟩).symm.trans H0.out
      clear H0
      go_wp2_with fail
      refine (specL10fold a j cap l _ (h.below B) hn HA.out).mono ?_
      rintro e w2 ⟨rfl, hb2⟩
      replace Q := Q.kept hb2
      replace B := B.trans (hb2.mono B.size)
      clear hb2
      rw [HS.out]
      clear HS
      obtain ⟨⟨sb, sn, sf, st, si, so⟩, ok⟩ := S
      have fR := Q.frozen
      have lR := Q.lt
      have q0 := Q.cell 0
      have q1 := Q.cell 1
      have q2 := Q.cell 2
      have q3 := Q.cell 3
      have q4 := Q.cell 4
      have q5 := Q.cell 5
      simp at q0 q1 q2 q3 q4 q5
      have HK : Hid _ := set6 Q (.int .i64 sb) (.int .i64 sn) (.int .i64 sf) (.bool st) (.int .i64 si) (.int .i64 so)
      have HB : Hid _ := bel_set6 B (show w.heap.size ≤ w.heap.size by omega) (.int .i64 sb) (.int .i64 sn) (.int .i64 sf) (.bool st) (.int .i64 si) (.int .i64 so)
      clear Q B
      go_wp2
      exact bodyPost_ret (results_row_tmp (v := .bool ok) (t := 35) (cs := [.int .i64 sb, .int .i64 sn, .int .i64 sf, .bool st, .int .i64 si, .int .i64 so]) rfl rfl rfl HK.out Try.underlying35 rfl (by kernel_rfl)) rfl ⟨rfl, HB.out⟩
end Go.Proofs.Ytjceajgefpinpaa
