/-
  What is proved here: what records come to, as plain data, and what the specification's l10fold and Fold answer; a Flash as a value; no program is spoken of; the halves of a log and what they come to, as plain data; what the specification's l11half and l11active answer; a summary has at most five records; no program is spoken of; what the program's usedPlaces answers.
-/
import Derived.Test.YtgfjbaigmkdbcaaJS6
import Derived.Test.YtgfjbaigmkdbcaaC0v
import Derived.Test.YtgfjbaigmkdbcaaJS1
import Derived.Test.YtgfjbaigmkdbcaaJS5
import Derived.Test.YtgfjbaigmkdbcaaJS7
import Derived.Deep.CutRange
namespace Go.Proofs.Ytgfjbaigmkdbcaa
open Go.RowKit
set_option maxRecDepth 100000
set_option maxHeartbeats 4000000
set_option linter.unusedVariables false

abbrev bz : Bt := ⟨0, 0, 0, false, 0, 0⟩
abbrev fo0 (l : List Rc) : Bt := ⟨(rg l 1).b, (rg l 1).n, (rg l 1).f, false, 0, 0⟩
/-- The state behind the set record and j more. -/
def foS (l : List Rc) : Nat → Bt
  | 0 => fo0 l
  | j + 1 => (stT (foS l j) (rg l (j + 2))).1
abbrev foAll (l : List Rc) : Prop := ∀ i, i < l.length → (rg l i).Ok
abbrev foGood (l : List Rc) : Prop := 2 ≤ l.length ∧ (rg l 0).k = 1 ∧ (rg l 1).k = 2
def foL (l : List Rc) : Bt × Bool := if foGood l then (foS l (l.length - 2), true) else (bz, false)
def foT (l : List Rc) : Bt × Bool := if l.length ≤ 32 ∧ foAll l then foL l else (bz, false)
theorem foS_ok {l : List Rc} (ha : foAll l) (hg : foGood l) : ∀ j, j + 2 ≤ l.length → (foS l j).Ok
  | 0, h => by
    have := ha 1 (by omega)
    have h2 := hg.2.2
    unfold foS fo0 Bt.Ok btOk
    simp only [Rc.Ok, rcOk] at this
    refine ⟨by dsimp only; omega, by dsimp only; omega, by dsimp only; omega, ?_⟩
    rw [if_neg (by simp)]
    exact ⟨rfl, rfl⟩
  | j + 1, h => stT_ok (foS_ok ha hg j (by omega)) (ha (j + 2) (by omega))
theorem ok_bi {s : Bt} (h : s.Ok) : (0 ≤ s.b ∧ s.b ≤ 1) ∧ (0 ≤ s.i ∧ s.i ≤ 3) := by
  obtain ⟨h1, h2, h3, h4⟩ := h
  refine ⟨h1, ?_⟩
  split at h4 <;> omega

theorem specL10fold (a : Option Addr) (n cap : Nat) (l : List Rc) (w : World) (h : Rs w a n cap l) (hn : n ≤ 1048576) (ha : foAll l) :
    Calls Try.prog 149 #[.slice a n cap] w fun e w' => e = .returned (stV (foL l)) ∧ Below w.heap.size w w' := by
  obtain ⟨S, hS⟩ : ∃ S, foL l = S := ⟨_, rfl⟩
  rw [hS]
  unfold foL at hS
  have hl := h.2.1
  obtain ⟨W, hW⟩ : ∃ W, W = w.alloc (.cells #[.int .i64 0, .int .i64 0, .int .i64 0, .bool false, .int .i64 0, .int .i64 0] 83) := ⟨_, rfl⟩
  have B : Below w.heap.size w W := by rw [hW]; exact (Below.refl _ _).alloc (Nat.le_refl _) _
  have Q : Arr W w.heap.size 83 [.int .i64 0, .int .i64 0, .int .i64 0, .bool false, .int .i64 0, .int .i64 0] := by rw [hW]; exact Arr.new _ _ _
  have HA : Hid _ := ha
  clear ha
  go_enter Try.func149, Try.ntmps149
  go_upto_region 1 with fail
  rw [← hW]
  clear hW
  by_cases h2 : 2 ≤ n
  case neg =>
    have h2' : (n : Int) < 2 := by omega
    have HS : Hid _ := (if_neg (fun g : foGood l => h2 (by have := g.1; omega))).symm.trans hS
    clear hS h2
    have fR := Q.frozen
    have lR := Q.lt
    have q0 := Q.cell 0
    have q1 := Q.cell 1
    have q2 := Q.cell 2
    have q3 := Q.cell 3
    have q4 := Q.cell 4
    have q5 := Q.cell 5
    simp at q0 q1 q2 q3 q4 q5
    have HK : Hid _ := set6 Q (.int .i64 0) (.int .i64 0) (.int .i64 0) (.bool false) (.int .i64 0) (.int .i64 0)
    have HB : Hid _ := bel_set6 B (show w.heap.size ≤ w.heap.size by omega) (.int .i64 0) (.int .i64 0) (.int .i64 0) (.bool false) (.int .i64 0) (.int .i64 0)
    clear Q B
    go_wp2
    exact bodyPost_ret (results_row_tmp (v := .bool false) (t := 83) (cs := [.int .i64 0, .int .i64 0, .int .i64 0, .bool false, .int .i64 0, .int .i64 0]) rfl rfl rfl HK.out Try.underlying83 rfl (by kernel_rfl)) rfl ⟨by rw [← HS.out], HB.out⟩
  have h2' : ¬ ((n : Int) < 2) := by omega
  obtain ⟨b, o, rfl, hbs, hcell⟩ := (h.below B).opened (by omega)
  obtain ⟨x, hx⟩ : ∃ x, x = rg l 0 := ⟨_, rfl⟩
  obtain ⟨y, hy⟩ : ∃ x, x = rg l 1 := ⟨_, rfl⟩
  have hr := hcell 0 (by omega)
  have hr' := hcell 1 (by omega)
  rw [← hx] at hr
  rw [← hy] at hr'
  have EX : Hid _ := hx
  have EY : Hid _ := hy
  have HC : Hid _ := hcell
  clear hx hy hcell
  obtain ⟨xk, xb, xn, xf⟩ := x
  obtain ⟨yk, yb, yn, yf⟩ := y
  obtain ⟨c0, c1, c2, c3⟩ := hr
  obtain ⟨d0, d1, d2, d3⟩ := hr'
  simp at c0 c1 c2 c3 d0 d1 d2 d3
  have i1 : (1 : Int) < (n : Int) := by omega
  have i0 : (0 : Int) < (n : Int) := by omega
  by_cases hk0 : xk = 1
  case neg =>
    have hk0' : (xk != 1) = true := by simpa using hk0
    have HS : Hid _ := (if_neg (fun g : foGood l => hk0 (by have := g.2.1; rw [← EX.out] at this; exact this))).symm.trans hS
    clear hS hk0
    have fR := Q.frozen
    have lR := Q.lt
    have q0 := Q.cell 0
    have q1 := Q.cell 1
    have q2 := Q.cell 2
    have q3 := Q.cell 3
    have q4 := Q.cell 4
    have q5 := Q.cell 5
    simp at q0 q1 q2 q3 q4 q5
    have HK : Hid _ := set6 Q (.int .i64 0) (.int .i64 0) (.int .i64 0) (.bool false) (.int .i64 0) (.int .i64 0)
    have HB : Hid _ := bel_set6 B (show w.heap.size ≤ w.heap.size by omega) (.int .i64 0) (.int .i64 0) (.int .i64 0) (.bool false) (.int .i64 0) (.int .i64 0)
    clear Q B
    go_wp2
    exact bodyPost_ret (results_row_tmp (v := .bool false) (t := 83) (cs := [.int .i64 0, .int .i64 0, .int .i64 0, .bool false, .int .i64 0, .int .i64 0]) rfl rfl rfl HK.out Try.underlying83 rfl (by kernel_rfl)) rfl ⟨by rw [← HS.out], HB.out⟩
  have hk0' : (xk != 1) = false := by simpa using hk0
  by_cases hk1 : yk = 2
  case neg =>
    have hk1' : (yk != 2) = true := by simpa using hk1
    have HS : Hid _ := (if_neg (fun g : foGood l => hk1 (by have := g.2.2; rw [← EY.out] at this; exact this))).symm.trans hS
    clear hS hk1 hk0
    have fR := Q.frozen
    have lR := Q.lt
    have q0 := Q.cell 0
    have q1 := Q.cell 1
    have q2 := Q.cell 2
    have q3 := Q.cell 3
    have q4 := Q.cell 4
    have q5 := Q.cell 5
    simp at q0 q1 q2 q3 q4 q5
    have HK : Hid _ := set6 Q (.int .i64 0) (.int .i64 0) (.int .i64 0) (.bool false) (.int .i64 0) (.int .i64 0)
    have HB : Hid _ := bel_set6 B (show w.heap.size ≤ w.heap.size by omega) (.int .i64 0) (.int .i64 0) (.int .i64 0) (.bool false) (.int .i64 0) (.int .i64 0)
    clear Q B
    go_wp2
    exact bodyPost_ret (results_row_tmp (v := .bool false) (t := 83) (cs := [.int .i64 0, .int .i64 0, .int .i64 0, .bool false, .int .i64 0, .int .i64 0]) rfl rfl rfl HK.out Try.underlying83 rfl (by kernel_rfl)) rfl ⟨by rw [← HS.out], HB.out⟩
  have hk1' : (yk != 2) = false := by simpa using hk1
  have HG : Hid (foGood l) := ⟨by omega, by rw [← EX.out]; exact hk0, by rw [← EY.out]; exact hk1⟩
  have HS : Hid _ := (if_pos HG.out).symm.trans hS
  clear hS hk0 hk1
  go_wp2
  try simp only [Act.put]
  refine tame [kc 24 (.slice (some ⟨b, o, none⟩) n cap), kc 25 (.pointer (some ⟨b, o + 4, none⟩)), kc 26 (.pointer (some ⟨b, o + 5, none⟩)), kc 27 (.int .i64 yb), kc 28 (.slice (some ⟨b, o, none⟩) n cap), kc 29 (.pointer (some ⟨b, o + 4, none⟩)), kc 30 (.pointer (some ⟨b, o + 6, none⟩)), kc 31 (.int .i64 yn), kc 32 (.slice (some ⟨b, o, none⟩) n cap), kc 33 (.pointer (some ⟨b, o + 4, none⟩)), kc 34 (.pointer (some ⟨b, o + 7, none⟩)), kc 35 (.int .i64 yf), kc 36 (.agg #[.int .i64 yb, .int .i64 yn, .int .i64 yf, .bool false, .int .i64 0, .int .i64 0]), ka 4 83 [.int .i64 0, .int .i64 0, .int .i64 0, .bool false, .int .i64 0, .int .i64 0]] 14 (by kernel_rfl) (by kernel_rfl) (by kernel_rfl) (by repeat' first | exact trivial | apply kc_keeps | apply ka_keeps | constructor) 1 (by kernel_rfl) (fun vv ll hh yW bW => ?_) (fun vv ll hh yW bW F ivh aph => ?_)
  · have x1 := (bW.cell (p := ⟨b, _, none⟩) hbs).trans d1
    have x2 := (bW.cell (p := ⟨b, _, none⟩) hbs).trans d2
    have x3 := (bW.cell (p := ⟨b, _, none⟩) hbs).trans d3
    refine ⟨tp (by kernel_rfl), tp ?_, tp ?_, tp ?_, tp (by kernel_rfl), tp ?_, tp ?_, tp ?_, tp (by kernel_rfl), tp ?_, tp ?_, tp ?_, tp (by kernel_rfl), ta (by kernel_rfl), trivial⟩
    all_goals
      simp only [fillK, putT, List.setIfInBounds_toArray, List.set_cons_zero, List.set_cons_succ]
      unfold execOp
      try go_simp
  have f1 : Arr yW (ll 13) 83 [.int .i64 0, .int .i64 0, .int .i64 0, .bool false, .int .i64 0, .int .i64 0] ∧ ll 13 < hh 13 := F.2.2.2.2.2.2.2.2.2.2.2.2.2.1
  have s1 := ivh 13 (by omega)
  clear F ivh aph
  obtain ⟨y, hy⟩ : ∃ z, z = yW := ⟨_, rfl⟩
  rw [← hy] at bW f1 s1 ⊢
  clear hy
  obtain ⟨K1, _⟩ := f1
  refine st_row (i := 14) (by kernel_rfl) rfl rfl rfl rfl (cells := [.int .i64 yb, .int .i64 yn, .int .i64 yf, .bool false, .int .i64 0, .int .i64 0]) K1 (by kernel_rfl) (by kernel_rfl) rfl (by kernel_rfl) (by intro v hv; simp at hv; rcases hv with rfl | rfl | rfl | rfl | rfl | rfl <;> rfl) ?_
  refine wpAny_done (by kernel_rfl) ?_ _
  have G : Arr (y.setCells (ll 13) 0 [.int .i64 yb, .int .i64 yn, .int .i64 yf, .bool false, .int .i64 0, .int .i64 0]) (ll 13) 83 [.int .i64 yb, .int .i64 yn, .int .i64 yf, .bool false, .int .i64 0, .int .i64 0] := (((((K1.set 0 _).set 1 _).set 2 _).set 3 _).set 4 _).set 5 _
  simp only [fillK, putT, List.setIfInBounds_toArray, List.set_cons_zero, List.set_cons_succ]
  generalize hg : ll 13 = g at K1 G s1 ⊢
  have zB := B.size
  have zQ := Q.lt
  have n1 : w.heap.size ≠ g := by omega
  have Q2 : Arr (y.setCells g 0 [.int .i64 yb, .int .i64 yn, .int .i64 yf, .bool false, .int .i64 0, .int .i64 0]) w.heap.size 83 [.int .i64 0, .int .i64 0, .int .i64 0, .bool false, .int .i64 0, .int .i64 0] := (((((((Q.kept bW).other ⟨g, 0, none⟩ _ n1).other ⟨g, 1, none⟩ _ n1).other ⟨g, 2, none⟩ _ n1).other ⟨g, 3, none⟩ _ n1).other ⟨g, 4, none⟩ _ n1).other ⟨g, 5, none⟩ _ n1)
  have B2 : Below w.heap.size w (y.setCells g 0 [.int .i64 yb, .int .i64 yn, .int .i64 yf, .bool false, .int .i64 0, .int .i64 0]) := bel_set6 (B.trans (bW.mono B.size)) (show w.heap.size ≤ g by omega) _ _ _ _ _ _
  generalize y.setCells g 0 [.int .i64 yb, .int .i64 yn, .int .i64 yf, .bool false, .int .i64 0, .int .i64 0] = Y at G Q2 B2 ⊢
  have gY := G.lt
  have hgw : w.heap.size < g := by omega
  have G0 : Arr Y g 83 (btC (foS l 0)) := by
    have : foS l 0 = ⟨yb, yn, yf, false, 0, 0⟩ := by unfold foS fo0; rw [← EY.out]
    rw [this]
    exact G
  clear G K1 bW s1 zB zQ n1 hg B Q c0 c1 c2 c3 d0 d1 d2 d3 i1 i0
  go_wp2
  go_loopw [5] (fun i wr => ∃ j : Nat, j + 2 ≤ n ∧ i = .int .i64 ((j : Int) + 2) ∧ Arr wr g 83 (btC (foS l j)) ∧ Arr wr w.heap.size 83 [.int .i64 0, .int .i64 0, .int .i64 0, .bool false, .int .i64 0, .int .i64 0] ∧ Below w.heap.size w wr) (fun i _ => n - (intOf i).toNat)
  case atStart => exact ⟨0, by omega, rfl, G0, Q2, B2⟩
  case round =>
    obtain ⟨j, hj, rfl, G, Q, B⟩ := hrel
    clear G0 Q2 B2
    by_cases hlt : j + 2 < n
    · have hltI : (j : Int) + 2 < (n : Int) := by omega
      have hlt0 : (0 : Int) ≤ (j : Int) + 2 := by omega
      have ht : ((j : Int) + 2).toNat = j + 2 := by omega
      obtain ⟨b2, o2, eab, hbs2, hcell⟩ := (h.below B).opened (by omega)
      simp only [Option.some.injEq, Addr.mk.injEq, and_true] at eab
      obtain ⟨rfl, rfl⟩ := eab
      have hr := hcell (j + 2) hlt
      have hok := foS_ok HA.out HG.out j (by omega)
      obtain ⟨r, er⟩ : ∃ r, r = rg l (j + 2) := ⟨_, rfl⟩
      obtain ⟨s, es⟩ : ∃ s, s = foS l j := ⟨_, rfl⟩
      have en : Hid (foS l (j + 1) = (stT s r).1) := by unfold Hid; rw [es, er]; rfl
      rw [← er] at hr
      rw [← es] at G hok
      obtain ⟨hb0, hi0⟩ := ok_bi hok
      clear er es hcell hok
      obtain ⟨rk, rb, rn, rf⟩ := r
      obtain ⟨sb, sn, sf, st, si, so⟩ := s
      obtain ⟨c0, c1, c2, c3⟩ := hr
      dsimp only at c0 c1 c2 c3 hb0 hi0
      go_wp2_with fail
      refine (specL10step g sb sn sf st si so rk rb rn rf _ G hb0 hi0).mono ?_
      rintro e w2 ⟨rfl, G2, hc⟩
      replace Q := Q.chg hc (by omega)
      replace B := hc.bel B (by omega)
      rw [← en.out] at G2
      clear G hc c0 c1 c2 c3 hb0 hi0 en
      have hw : IntKind.i64.wrap ((j : Int) + 2 + 1) = (j : Int) + 2 + 1 := wr64 (by omega) (by omega)
      go_wp2
      go_roundw
      case rel => exact ⟨j + 1, by omega, by congr 1, G2, Q, B⟩
      case measure => simp [intOf]; omega
    · have hjn : j = l.length - 2 := by omega
      have hltI : ¬ ((j : Int) + 2 < (n : Int)) := by omega
      rw [← hjn] at HS
      obtain ⟨s, es⟩ : ∃ s, s = foS l j := ⟨_, rfl⟩
      rw [← es] at G HS
      clear es hjn
      obtain ⟨sb, sn, sf, st, si, so⟩ := s
      have d0 := G.cell 0
      have d1 := G.cell 1
      have d2 := G.cell 2
      have d3 := G.cell 3
      have d4 := G.cell 4
      have d5 := G.cell 5
      simp at d0 d1 d2 d3 d4 d5
      have fR := Q.frozen
      have lR := Q.lt
      have q0 := Q.cell 0
      have q1 := Q.cell 1
      have q2 := Q.cell 2
      have q3 := Q.cell 3
      have q4 := Q.cell 4
      have q5 := Q.cell 5
      simp at q0 q1 q2 q3 q4 q5
      have HK : Hid _ := set6 Q (.int .i64 sb) (.int .i64 sn) (.int .i64 sf) (.bool st) (.int .i64 si) (.int .i64 so)
      have HB : Hid _ := bel_set6 B (show w.heap.size ≤ w.heap.size by omega) (.int .i64 sb) (.int .i64 sn) (.int .i64 sf) (.bool st) (.int .i64 si) (.int .i64 so)
      clear Q B
      go_wp2
      exact bodyPost_ret (results_row_tmp (v := .bool true) (t := 83) (cs := [.int .i64 sb, .int .i64 sn, .int .i64 sf, .bool st, .int .i64 si, .int .i64 so]) rfl rfl rfl HK.out Try.underlying83 rfl (by kernel_rfl)) rfl ⟨by rw [← HS.out], HB.out⟩
end Go.Proofs.Ytgfjbaigmkdbcaa
namespace Go.Proofs.Ytgfjbaigmkdbcaa
set_option maxRecDepth 100000
open Go.RowKit

/-- A Flash as a value. -/
abbrev flV (aB : Option Addr) (nB cB : Nat) (aW : Option Addr) (nW cW : Nat) : Value := .agg #[.slice aB nB cB, .slice aW nW cW]

theorem arr2 {W : World} {g : Nat} {t : TypeId} {a b : Value} (h : Arr W g t [a, b]) : W.cell? ⟨g, 0, none⟩ = some a ∧ W.cell? ⟨g, 1, none⟩ = some b := ⟨h.cell 0, h.cell 1⟩

end Go.Proofs.Ytgfjbaigmkdbcaa
namespace Go.Proofs.Ytgfjbaigmkdbcaa
open Go.RowKit
set_option maxRecDepth 100000
set_option maxHeartbeats 4000000
set_option linter.unusedVariables false

/-- A half of a log. -/
def hf (xs : List Int) (k : Nat) : List Int := (xs.drop (2560 + 256 * k)).take 256
theorem hf_len {xs : List Int} (h : xs.length = 3072) {k : Nat} (hk : k < 2) : (hf xs k).length = 256 := by
  unfold hf
  rw [List.length_take, List.length_drop, h]
  omega
theorem bs_hf {w : World} {b o c k : Nat} {xs : List Int} (h : Bs w (some ⟨b, o, none⟩) 3072 c xs) (hk : k < 2) : Bs w (some ⟨b, o + (2560 + 256 * k), none⟩) 256 (c - (2560 + 256 * k)) (hf xs k) := by
  obtain ⟨_, hl, hc, hby, hr⟩ := h
  refine ⟨(fun h => by cases h), hf_len hl hk, by omega, fun x hx => hby x (List.mem_of_mem_drop (List.mem_of_mem_take hx)), .inr ⟨b, o + (2560 + 256 * k), rfl, ?_, fun j hj => ?_⟩⟩
  · rcases hr with hr | ⟨b', o', e, hlt, _⟩
    · omega
    · cases e; exact hlt
  · rcases hr with hr | ⟨b', o', e, hlt, hcell⟩
    · omega
    · cases e
      have e2 : (hf xs k).getD j 0 = xs.getD (2560 + 256 * k + j) 0 := by
        simp [hf, List.getD_eq_getElem?_getD, hj]
      rw [e2, show o + (2560 + 256 * k) + j = o + (2560 + 256 * k + j) by omega]
      exact hcell _ (by omega)
/-- A half counts. -/
def cntB (ys : List Int) : Bool := gOkB (pl ys 0) && (decide (gK (pl ys 0) = 1) && (foL (scR ys 32)).2)
def hdN (ys : List Int) : Int := gN (pl ys 0)
/-- The better of the first halves: which, its head's number, its records. -/
def acT (xs : List Int) : Nat → Int × Int × List Rc
  | 0 => (-1, -1, [])
  | k + 1 => if cntB (hf xs k) = true ∧ (acT xs k).2.1 < hdN (hf xs k) then ((k : Int), hdN (hf xs k), scR (hf xs k) 32) else acT xs k
theorem scR_ok (xs : List Int) : ∀ k, ∀ r ∈ scR xs k, r.Ok
  | 0, r, h => by cases h
  | k + 1, r, h => by
    have : r ∈ scR xs k ++ (if gOkB (pl xs k) = true then [goR (pl xs k)] else []) := h
    rw [List.mem_append] at this
    rcases this with h1 | h1
    · exact scR_ok xs k r h1
    · split at h1
      · next hg =>
        simp at h1
        subst h1
        have := (gOkB_iff _).1 hg
        show rcOk (goK (pl xs k)) (goB (pl xs k)) (goN (pl xs k)) (goF (pl xs k))
        simp only [goK, goB, goN, goF, hg, if_true]
        exact this.2.2
      · cases h1
theorem scR_all (xs : List Int) (k : Nat) : foAll (scR xs k) := fun i hi => scR_ok xs k _ (by unfold rg; rw [List.getD_eq_getElem?_getD, List.getElem?_eq_getElem hi]; exact List.getElem_mem hi)
theorem acT_len (xs : List Int) : ∀ k, (acT xs k).2.2.length ≤ 32 ∧ foAll (acT xs k).2.2
  | 0 => ⟨by simp [acT], fun i hi => by simp [acT] at hi⟩
  | k + 1 => by
    unfold acT
    split
    · exact ⟨scR_le _ 32, scR_all _ 32⟩
    · exact acT_len xs k
theorem specHalf (ab : Option Addr) (nb cb : Nat) (aw : Option Addr) (nw cw : Nat) (xs : List Int) (k : Nat) (w : World) (h : Bs w ab nb cb xs) (hn : nb = 3072) (hk : k < 2) :
    Calls Try.prog 159 #[flV ab nb cb aw nw cw, .int .i64 (k : Int)] w fun e w' => ∃ b o, ab = some ⟨b, o, none⟩ ∧ e = .returned (.slice (some ⟨b, o + (2560 + 256 * k), none⟩) 256 (cb - (2560 + 256 * k))) ∧ Below w.heap.size w w' := by
  subst hn
  obtain ⟨_, _, hc, _, hr⟩ := h
  rcases hr with hr | ⟨b, o, rfl, hlt, _⟩
  · omega
  obtain ⟨V, hV⟩ : ∃ V, V = w.alloc (.cells #[.slice (some ⟨b, o, none⟩) 3072 cb, .slice aw nw cw] 68) := ⟨_, rfl⟩
  have B : Below w.heap.size w V := by rw [hV]; exact (Below.refl _ _).alloc (Nat.le_refl _) _
  have A : Arr V w.heap.size 68 [.slice (some ⟨b, o, none⟩) 3072 cb, .slice aw nw cw] := by rw [hV]; exact Arr.new _ _ _
  have c0 := A.cell 0
  simp at c0
  have HB : Hid (Below w.heap.size w V) := B
  clear A B
  have hk2 : k = 0 ∨ k = 1 := by omega
  have hcb : ((2560 : Int) ≤ (cb : Int)) ∧ ((2816 : Int) ≤ (cb : Int)) ∧ ((3072 : Int) ≤ (cb : Int)) := by omega
  obtain ⟨hc1, hc2, hc3⟩ := hcb
  go_enter Try.func159, Try.ntmps159
  go_upto_region 1 with fail
  rw [← hV]
  clear hV
  rcases hk2 with rfl | rfl
  · go_wp2
    go_ret
    exact ⟨b, o, rfl, rfl, HB.out⟩
  · go_wp2
    go_ret
    exact ⟨b, o, rfl, rfl, HB.out⟩
end Go.Proofs.Ytgfjbaigmkdbcaa
namespace Go.Proofs.Ytgfjbaigmkdbcaa
open Go.RowKit
theorem smL_len (b n f : Int) (t : Bool) (i o : Int) : (smL b n f t i o).length ≤ 5 := by
  unfold smL smR
  split
  · next h =>
    have h4 := h.2.2.2
    cases t
    · simp
    · simp at h4 ⊢
      omega
  · simp
end Go.Proofs.Ytgfjbaigmkdbcaa
namespace Go.Proofs.Ytgfjbaigmkdbcaa
set_option maxRecDepth 100000
set_option maxHeartbeats 4000000
open Go.RowKit
set_option linter.unusedVariables false

theorem blk_pl {xs : List Int} {k : Nat} (h : xs.length = 256) (hk : k < 32) : blk (pl xs k) = true ↔ ∀ j, j < 8 → xs.getD (8 * k + j) 0 = 255 := by
  unfold blk
  rw [decide_eq_true_eq]
  constructor
  · intro ha j hj
    rw [← pl_get hj]
    have hl := pl_len h hk
    have e : (pl xs k).getD j 0 = (pl xs k)[j] := by simp [hl, hj]
    rw [e]
    exact ha _ (List.getElem_mem _)
  · intro ha x hx
    obtain ⟨j, hj, rfl⟩ := List.mem_iff_getElem.1 hx
    have hl := pl_len h hk
    have hj8 : j < 8 := by omega
    have := ha j hj8
    rw [← pl_get hj8] at this
    simpa [hj] using this
theorem scU_of {xs : List Int} {u : Nat} : ∀ K, (∀ k, u ≤ k → k < K → blk (pl xs k) = true) → (u = 0 ∨ (u ≤ K ∧ blk (pl xs (u - 1)) = false)) → scU xs K = u
  | 0, _, h => by rcases h with h | ⟨h, _⟩ <;> simp [scU] <;> omega
  | K + 1, ha, h => by
    unfold scU
    by_cases hb : blk (pl xs K) = true
    · rw [if_pos hb]
      refine scU_of K (fun k h1 h2 => ha k h1 (by omega)) ?_
      rcases h with h | ⟨h, h'⟩
      · exact .inl h
      · by_cases e : u = K + 1
        · rw [e] at h'
          simp at h'
          rw [hb] at h'
          cases h'
        · exact .inr ⟨by omega, h'⟩
    · rw [if_neg hb]
      by_cases hu : u ≤ K
      · exact absurd (ha K hu (by omega)) hb
      · rcases h with h | ⟨h, _⟩ <;> omega
theorem used_eq {xs : List Int} {E : Nat} (hl : xs.length = 256) (hE : E ≤ 256) (ha : ∀ j, E ≤ j → j < 256 → xs.getD j 0 = 255) (he : E = 0 ∨ xs.getD (E - 1) 0 ≠ 255) : scU xs 32 = (E + 7) / 8 := by
  refine scU_of 32 (fun k h1 h2 => (blk_pl hl h2).2 fun j hj => ha _ (by omega) (by omega)) ?_
  by_cases h0 : E = 0
  · exact .inl (by omega)
  · refine .inr ⟨by omega, ?_⟩
    have hne := he.resolve_left h0
    cases hx : blk (pl xs ((E + 7) / 8 - 1)) with
    | false => rfl
    | true =>
      have := (blk_pl hl (by omega)).1 hx ((E - 1) % 8) (by omega)
      rw [show 8 * ((E + 7) / 8 - 1) + (E - 1) % 8 = E - 1 by omega] at this
      exact absurd this hne

theorem implIsWritten (x : Int) (w : World) : Calls Try.prog 143 #[.int .u8 x] w fun e w' => e = .returned (.bool (x != 255)) ∧ w' = w := by
  go_enter Try.func143, Try.ntmps143
  go_wp2
  go_ret
  exact ⟨rfl, rfl⟩
theorem implUsed (a : Option Addr) (c : Nat) (xs : List Int) (w : World) (h : Bs w a 256 c xs) :
    Calls Try.prog 110 #[.slice a 256 c] w fun e w' => e = .returned (.int .i64 ((scU xs 32 : Nat) : Int)) ∧ w' = w := by
  have hl := h.2.1
  have hby := h.2.2.2.1
  rcases h.2.2.2.2 with h0 | ⟨b, o, rfl, hlt, hcell⟩
  · omega
  go_enter Try.func110, Try.ntmps110
  go_wp2
  go_loopw [3] (fun e wr => ∃ k : Nat, k ≤ 256 ∧ e = .int .i64 k ∧ Hid (∀ j, k ≤ j → j < 256 → xs.getD j 0 = 255) ∧ wr = w) (fun e _ => (intOf e).toNat)
  case atStart => exact ⟨256, by omega, rfl, (fun j h1 h2 => by omega), rfl⟩
  case round =>
    obtain ⟨k, hk, rfl, HA, rfl⟩ := hrel
    by_cases h0 : k = 0
    · have h0' : ¬ ((0 : Int) < (k : Int)) := by omega
      have HE : Hid (scU xs 32 = (k + 7) / 8) := used_eq hl hk HA.out (.inl h0)
      have w1 : IntKind.i64.wrap ((k : Int) + 8) = (k : Int) + 8 := wr64 (by omega) (by omega)
      have w2 : IntKind.i64.wrap ((k : Int) + 8 - 1) = (k : Int) + 8 - 1 := wr64 (by omega) (by omega)
      have hq : ((k : Int) + 8 - 1).tdiv 8 = (((k + 7) / 8 : Nat) : Int) := by rw [Int.tdiv_eq_ediv_of_nonneg (by omega)]; omega
      have w2b : IntKind.i64.wrap ((k : Int) + 7) = (k : Int) + 7 := wr64 (by omega) (by omega)
      have hqb : ((k : Int) + 7).tdiv 8 = (((k + 7) / 8 : Nat) : Int) := by rw [Int.tdiv_eq_ediv_of_nonneg (by omega)]; omega
      have w3 : IntKind.i64.wrap ((((k + 7) / 8 : Nat) : Int)) = (((k + 7) / 8 : Nat) : Int) := wr64 (by omega) (by omega)
      generalize (k + 7) / 8 = q at hq hqb w3 HE
      clear h0
      go_wp2
      go_ret
      exact ⟨by rw [HE.out]; first | rfl | (simp; done) | (simp only [w1, w2, w2b, hq, hqb, w3]; done), rfl⟩
    · obtain ⟨m, rfl⟩ : ∃ m, k = m + 1 := ⟨k - 1, by omega⟩
      have h1 : (0 : Int) < ((m + 1 : Nat) : Int) := by omega
      obtain ⟨x, hx⟩ : ∃ x, x = xs.getD m 0 := ⟨_, rfl⟩
      have hc := hcell m (by omega)
      rw [← hx] at hc
      have HX : Hid _ := hx
      clear hx h0
      obtain ⟨K, hK⟩ : ∃ K : Int, K = ((m + 1 : Nat) : Int) := ⟨_, rfl⟩
      rw [← hK] at h1 ⊢
      have s1 : IntKind.i64.wrap (K - 1) = (m : Int) := by rw [hK, show (((m + 1 : Nat) : Int) - 1) = (m : Int) by omega]; exact wr64 (by omega) (by omega)
      have hm256 : (m : Int) < 256 := by omega
      by_cases hx5 : x = 255
      · have hb : (x != 255) = false := by simpa using hx5
        have HA2 : Hid (∀ j, m ≤ j → j < 256 → xs.getD j 0 = 255) := fun j h1 h2 => by
          by_cases e : j = m
          · subst e; rw [← HX.out]; exact hx5
          · exact HA.out j (by omega) h2
        have HK : Hid _ := hK
        clear hK hx5 HA
        go_wp2_with fail
        refine (implIsWritten x _).mono ?_
        rintro e w2 ⟨rfl, hw2⟩
        rw [hw2, hb]
        clear hw2
        go_wp2
        go_roundw
        case rel => exact ⟨m, by omega, rfl, HA2, by first | rfl | trivial⟩
        case measure => have := HK.out; simp [intOf]; omega
      · have hb : (x != 255) = true := by simpa using hx5
        have HE : Hid (scU xs 32 = (m + 1 + 7) / 8) := used_eq hl hk HA.out (.inr (by simp only [Nat.add_sub_cancel]; rw [← HX.out]; exact hx5))
        have w1 : IntKind.i64.wrap (K + 8) = K + 8 := wr64 (by omega) (by omega)
        have w2 : IntKind.i64.wrap (K + 8 - 1) = K + 8 - 1 := wr64 (by omega) (by omega)
        have hq : (K + 8 - 1).tdiv 8 = (((m + 1 + 7) / 8 : Nat) : Int) := by rw [hK, Int.tdiv_eq_ediv_of_nonneg (by omega)]; omega
        have w2b : IntKind.i64.wrap (K + 7) = K + 7 := wr64 (by omega) (by omega)
        have hqb : (K + 7).tdiv 8 = (((m + 1 + 7) / 8 : Nat) : Int) := by rw [hK, Int.tdiv_eq_ediv_of_nonneg (by omega)]; omega
        have w3 : IntKind.i64.wrap ((((m + 1 + 7) / 8 : Nat) : Int)) = (((m + 1 + 7) / 8 : Nat) : Int) := wr64 (by omega) (by omega)
        generalize (m + 1 + 7) / 8 = q at hq hqb w3 HE
        clear hK hx5 HA
        go_wp2_with fail
        refine (implIsWritten x _).mono ?_
        rintro e w2 ⟨rfl, hw2⟩
        rw [hw2, hb]
        clear hw2
        go_wp2
        go_ret
        exact ⟨by rw [HE.out]; first | rfl | (simp; done) | (simp only [w1, w2, w2b, hq, hqb, w3]; done), rfl⟩
end Go.Proofs.Ytgfjbaigmkdbcaa
