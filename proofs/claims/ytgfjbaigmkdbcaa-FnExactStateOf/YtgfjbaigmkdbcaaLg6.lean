/-
  What is proved here: what the program's logOf answers.
-/
import Derived.Test.YtgfjbaigmkdbcaaLg5
import Derived.Test.YtgfjbaigmkdbcaaJS4
namespace Go.Proofs.Ytgfjbaigmkdbcaa
open Go.RowKit
set_option maxRecDepth 100000
set_option maxHeartbeats 4000000
set_option linter.unusedVariables false

theorem implOtherHalf (w : World) : Calls Try.prog 151 #[.int .i64 0] w fun e w' => e = .returned (.int .i64 1) ∧ Below w.heap.size w w' := by
  have h : IntKind.i64.wrap (1 - 0) = 1 := rfl
  go_enter Try.func151, Try.ntmps151
  go_wp2
  go_ret
  exact ⟨rfl, Below.refl _ _⟩
theorem arr_oth11 {W : World} {g g2 : Nat} {t : TypeId} {cs : List Value} (h : Arr W g2 t cs) (hne : g2 ≠ g) (v0 v1 v2 v3 v4 v5 v6 v7 v8 v9 v10 : Value) : Arr (W.setCells g 0 [v0, v1, v2, v3, v4, v5, v6, v7, v8, v9, v10]) g2 t cs :=
  ((((((((((h.other ⟨g, 0, none⟩ v0 hne).other ⟨g, 1, none⟩ v1 hne).other ⟨g, 2, none⟩ v2 hne).other ⟨g, 3, none⟩ v3 hne).other ⟨g, 4, none⟩ v4 hne).other ⟨g, 5, none⟩ v5 hne).other ⟨g, 6, none⟩ v6 hne).other ⟨g, 7, none⟩ v7 hne).other ⟨g, 8, none⟩ v8 hne).other ⟨g, 9, none⟩ v9 hne).other ⟨g, 10, none⟩ v10 hne
theorem hlL_ex (b o cb : Nat) (aw : Option Addr) (nw cw : Nat) (xs : List Int) (k : Nat) : ∃ (a1 : Option Addr) (n1 c1 : Nat) (a2 : Option Addr) (n2 c2 : Nat) (x1 x2 x3 : Int), hlL b o cb aw nw cw xs k = [.slice a1 n1 c1, .slice a2 n2 c2, .int .i64 x1, .int .i64 x2, .int .i64 x3, .int .i64 (hfS (hf xs k)).1.b, .int .i64 (hfS (hf xs k)).1.n, .int .i64 (hfS (hf xs k)).1.f, .bool (hfS (hf xs k)).1.t, .int .i64 (hfS (hf xs k)).1.i, .int .i64 (hfS (hf xs k)).1.o] ∧ ((hfS (hf xs k)).2 = true → x2 = hdN (hf xs k)) := by
  unfold hlL
  by_cases g : hdOk (hf xs k) = true
  · rw [if_pos g]
    refine ⟨_, _, _, _, _, _, _, _, _, rfl, fun _ => ?_⟩
    unfold hdOk at g
    simp only [Bool.and_eq_true, decide_eq_true_eq] at g
    exact if_pos g.1
  · rw [if_neg g]
    have e : hfS (hf xs k) = (bz, false) := if_neg g
    rw [e]
    exact ⟨_, _, _, _, _, _, _, _, _, rfl, fun h => by cases h⟩
/-- What logOf answers. -/
def lgT (b o cb : Nat) (aw : Option Addr) (nw cw : Nat) (xs : List Int) : List Value × Bool :=
  if (hfS (hf xs 1)).2 = true ∧ ((hfS (hf xs 0)).2 = false ∨ hdN (hf xs 0) < hdN (hf xs 1)) then (hlL b o cb aw nw cw xs 1, true) else (hlL b o cb aw nw cw xs 0, (hfS (hf xs 0)).2)
theorem lgT_ex (b o cb : Nat) (aw : Option Addr) (nw cw : Nat) (xs : List Int) : ∃ (a1 : Option Addr) (n1 c1 : Nat) (a2 : Option Addr) (n2 c2 : Nat) (x1 x2 x3 : Int), lgT b o cb aw nw cw xs = ([.slice a1 n1 c1, .slice a2 n2 c2, .int .i64 x1, .int .i64 x2, .int .i64 x3, .int .i64 (bootT xs).1.b, .int .i64 (bootT xs).1.n, .int .i64 (bootT xs).1.f, .bool (bootT xs).1.t, .int .i64 (bootT xs).1.i, .int .i64 (bootT xs).1.o], (bootT xs).2) := by
  rw [bootT_eq]
  unfold lgT
  split
  · next h =>
    obtain ⟨a1, n1, c1, a2, n2, c2, x1, x2, x3, e, _⟩ := hlL_ex b o cb aw nw cw xs 1
    rw [e, h.1]
    exact ⟨_, _, _, _, _, _, _, _, _, rfl⟩
  · obtain ⟨a1, n1, c1, a2, n2, c2, x1, x2, x3, e, _⟩ := hlL_ex b o cb aw nw cw xs 0
    rw [e]
    exact ⟨_, _, _, _, _, _, _, _, _, rfl⟩
theorem implLogOf (b o cb : Nat) (aw : Option Addr) (nw cw : Nat) (xs : List Int) (w : World) (h : Bs w (some ⟨b, o, none⟩) 3072 cb xs) :
    Calls Try.prog 120 #[flV (some ⟨b, o, none⟩) 3072 cb aw nw cw] w fun e w' => e = .returned (.tuple #[.agg (lgT b o cb aw nw cw xs).1.toArray, .bool (lgT b o cb aw nw cw xs).2]) ∧ Below w.heap.size w w' := by
  obtain ⟨V, hV⟩ : ∃ V, V = (w.alloc (.cells #[.slice (some ⟨b, o, none⟩) 3072 cb, .slice aw nw cw] 68)).alloc (.cells #[.slice none 0 0, .slice none 0 0, .int .i64 0, .int .i64 0, .int .i64 0, .int .i64 0, .int .i64 0, .int .i64 0, .bool false, .int .i64 0, .int .i64 0] 154) := ⟨_, rfl⟩
  have B : Below w.heap.size w V := by rw [hV]; exact ((Below.refl _ _).alloc (Nat.le_refl _) _).alloc (by simp) _
  have A : Arr V w.heap.size 68 [.slice (some ⟨b, o, none⟩) 3072 cb, .slice aw nw cw] := by rw [hV]; exact (Arr.new w [.slice (some ⟨b, o, none⟩) 3072 cb, .slice aw nw cw] 68).alloc _
  have Q : Arr V (w.heap.size + 1) 154 [.slice none 0 0, .slice none 0 0, .int .i64 0, .int .i64 0, .int .i64 0, .int .i64 0, .int .i64 0, .int .i64 0, .bool false, .int .i64 0, .int .i64 0] := by
    rw [hV]
    have := Arr.new (w.alloc (.cells #[.slice (some ⟨b, o, none⟩) 3072 cb, .slice aw nw cw] 68)) [.slice none 0 0, .slice none 0 0, .int .i64 0, .int .i64 0, .int .i64 0, .int .i64 0, .int .i64 0, .int .i64 0, .bool false, .int .i64 0, .int .i64 0] 154
    simpa using this
  have H0 : Hid (∀ Z, Below w.heap.size w Z → Calls Try.prog 150 #[flV (some ⟨b, o, none⟩) 3072 cb aw nw cw, .int .i64 0] Z fun e w' => e = .returned (.tuple #[.agg (hlL b o cb aw nw cw xs 0).toArray, .bool (hfS (hf xs 0)).2]) ∧ Below Z.heap.size Z w') := fun Z hZ => implHalfOf b o cb aw nw cw xs 0 Z (h.below hZ) (by omega)
  have H1 : Hid (∀ Z, Below w.heap.size w Z → Calls Try.prog 150 #[flV (some ⟨b, o, none⟩) 3072 cb aw nw cw, .int .i64 1] Z fun e w' => e = .returned (.tuple #[.agg (hlL b o cb aw nw cw xs 1).toArray, .bool (hfS (hf xs 1)).2]) ∧ Below Z.heap.size Z w') := fun Z hZ => implHalfOf b o cb aw nw cw xs 1 Z (h.below hZ) (by omega)
  obtain ⟨T, hT⟩ : ∃ T, T = lgT b o cb aw nw cw xs := ⟨_, rfl⟩
  rw [← hT]
  unfold lgT at hT
  obtain ⟨a0, m0, c0, d0, n0, e0, x0, y0, z0, E0, k0⟩ := hlL_ex b o cb aw nw cw xs 0
  obtain ⟨a1, m1, c1, d1, n1, e1, x1, y1, z1, E1, k1⟩ := hlL_ex b o cb aw nw cw xs 1
  rw [E0] at H0 hT
  rw [E1] at H1 hT
  clear E0 E1 h
  generalize hfS (hf xs 0) = S0 at H0 hT k0
  generalize hfS (hf xs 1) = S1 at H1 hT k1
  obtain ⟨⟨sb0, sn0, sf0, st0, si0, so0⟩, r0⟩ := S0
  obtain ⟨⟨sb1, sn1, sf1, st1, si1, so1⟩, r1⟩ := S1
  dsimp only at H0 H1 hT k0 k1
  replace H0 : Hid (∀ Z, Below w.heap.size w Z → Calls Try.prog 150 #[flV (some ⟨b, o, none⟩) 3072 cb aw nw cw, .int .i64 0] Z fun e w' => e = .returned (.tuple #[.agg #[.slice a0 m0 c0, .slice d0 n0 e0, .int .i64 x0, .int .i64 y0, .int .i64 z0, .int .i64 sb0, .int .i64 sn0, .int .i64 sf0, .bool st0, .int .i64 si0, .int .i64 so0], .bool r0]) ∧ Below Z.heap.size Z w') := H0
  replace H1 : Hid (∀ Z, Below w.heap.size w Z → Calls Try.prog 150 #[flV (some ⟨b, o, none⟩) 3072 cb aw nw cw, .int .i64 1] Z fun e w' => e = .returned (.tuple #[.agg #[.slice a1 m1 c1, .slice d1 n1 e1, .int .i64 x1, .int .i64 y1, .int .i64 z1, .int .i64 sb1, .int .i64 sn1, .int .i64 sf1, .bool st1, .int .i64 si1, .int .i64 so1], .bool r1]) ∧ Below Z.heap.size Z w') := H1
  generalize hdN (hf xs 0) = N0 at hT k0
  generalize hdN (hf xs 1) = N1 at hT k1
  have HT : Hid _ := hT
  have HK0 : Hid _ := k0
  have HK1 : Hid _ := k1
  clear hT k0 k1
  obtain ⟨G, hG⟩ : ∃ G, G = w.heap.size + 1 := ⟨_, rfl⟩
  obtain ⟨F, hF⟩ : ∃ F, F = w.heap.size := ⟨_, rfl⟩
  have hGw : w.heap.size ≤ G := by omega
  rw [← hG] at Q
  rw [← hF] at A
  have p0 := A.cell 0
  have p1 := A.cell 1
  simp at p0 p1
  go_enter Try.func120, Try.ntmps120
  go_upto_region 1 with fail
  rw [← hV]
  rw [← hG]
  rw [← hF]
  clear hF hG hV
  go_wp2_with fail
  refine Calls.mono (H0.out _ B) ?_
  rintro e w1 ⟨rfl, hb⟩
  replace A := A.kept hb
  replace Q := Q.kept hb
  replace B := B.trans (hb.mono B.size)
  clear hb H0 p0 p1
  obtain ⟨X, hX⟩ : ∃ X, X = w1.alloc (.cells #[.slice a0 m0 c0, .slice d0 n0 e0, .int .i64 x0, .int .i64 y0, .int .i64 z0, .int .i64 sb0, .int .i64 sn0, .int .i64 sf0, .bool st0, .int .i64 si0, .int .i64 so0] 154) := ⟨_, rfl⟩
  have L : Arr X w1.heap.size 154 [.slice a0 m0 c0, .slice d0 n0 e0, .int .i64 x0, .int .i64 y0, .int .i64 z0, .int .i64 sb0, .int .i64 sn0, .int .i64 sf0, .bool st0, .int .i64 si0, .int .i64 so0] := by rw [hX]; exact Arr.new _ _ _
  have lG := Q.lt
  replace Q : Arr X G 154 [.slice none 0 0, .slice none 0 0, .int .i64 0, .int .i64 0, .int .i64 0, .int .i64 0, .int .i64 0, .int .i64 0, .bool false, .int .i64 0, .int .i64 0] := by rw [hX]; exact Q.alloc _
  replace A : Arr X F 68 [.slice (some ⟨b, o, none⟩) 3072 cb, .slice aw nw cw] := by rw [hX]; exact A.alloc _
  replace B : Below w.heap.size w X := by rw [hX]; exact B.alloc B.size _
  obtain ⟨H, hH⟩ : ∃ H, H = w1.heap.size := ⟨_, rfl⟩
  have hGH : G < H := by omega
  rw [← hH] at L
  go_upto_region 2 with fail
  rw [← hX]
  rw [← hH]
  clear hX hH lG
  have p0 := A.cell 0
  have p1 := A.cell 1
  simp at p0 p1
  have lA := A.lt
  have HB : Hid (Below w.heap.size w X) := B
  clear B
  try simp only [Act.put]
  refine tameL [kc 14 (.agg #[.slice (some ⟨b, o, none⟩) 3072 cb, .slice aw nw cw]), kc 15 (.int .i64 1), kc 16 (.tuple #[.agg #[.slice a1 m1 c1, .slice d1 n1 e1, .int .i64 x1, .int .i64 y1, .int .i64 z1, .int .i64 sb1, .int .i64 sn1, .int .i64 sf1, .bool st1, .int .i64 si1, .int .i64 so1], .bool r1]), kc 13 (.tuple #[.agg #[.slice a1 m1 c1, .slice d1 n1 e1, .int .i64 x1, .int .i64 y1, .int .i64 z1, .int .i64 sb1, .int .i64 sn1, .int .i64 sf1, .bool st1, .int .i64 si1, .int .i64 so1], .bool r1]), kc 17 (.agg #[.slice a1 m1 c1, .slice d1 n1 e1, .int .i64 x1, .int .i64 y1, .int .i64 z1, .int .i64 sb1, .int .i64 sn1, .int .i64 sf1, .bool st1, .int .i64 si1, .int .i64 so1]), kc 18 (.bool r1), ka 6 154 [.slice none 0 0, .slice none 0 0, .int .i64 0, .int .i64 0, .int .i64 0, .int .i64 0, .int .i64 0, .int .i64 0, .bool false, .int .i64 0, .int .i64 0]] 7 (by kernel_rfl) (by kernel_rfl) [5] (by kernel_rfl) (by repeat' first | exact trivial | apply kc_keeps | apply ka_keeps | constructor) (fun _ c a d v w h => by cases d <;> exact h) (fun V L i hi => by simp only [List.mem_cons, List.not_mem_nil, or_false] at hi; subst hi; exact ⟨_, _, _, rfl, rfl, .inl ⟨by kernel_rfl, fun _ => by kernel_rfl⟩⟩) 2 (by kernel_rfl) (fun vv ll hh yW bW => ?_) (fun vv ll hh yW bW F0 ivh aph => ?_)
  · have x0 := (bW.cell (p := ⟨F, 0, none⟩) lA).trans p0
    have x1 := (bW.cell (p := ⟨F, 1, none⟩) lA).trans p1
    refine ⟨og (tp ?_) (by kernel_rfl), og (tc (implOtherHalf _) (by kernel_rfl)) (by kernel_rfl), og (tc (H1.out _ (HB.out.trans (bW.mono HB.out.size))) (by kernel_rfl)) (by kernel_rfl), og (tp (by kernel_rfl)) (by kernel_rfl), og (tp (by kernel_rfl)) (by kernel_rfl), og (tp (by kernel_rfl)) (by kernel_rfl), og (ta (by kernel_rfl)) (by kernel_rfl), trivial⟩
    all_goals
      simp only [fillK, putT, List.setIfInBounds_toArray, List.set_cons_zero, List.set_cons_succ]
      unfold execOp
      try go_simp
  have f1 : Arr yW (ll 6) 154 [.slice none 0 0, .slice none 0 0, .int .i64 0, .int .i64 0, .int .i64 0, .int .i64 0, .int .i64 0, .int .i64 0, .bool false, .int .i64 0, .int .i64 0] ∧ ll 6 < hh 6 := F0.2.2.2.2.2.2.1
  have s1 := ivh 6 (by omega)
  clear F0 ivh aph
  obtain ⟨y, hy⟩ : ∃ z, z = yW := ⟨_, rfl⟩
  rw [← hy] at bW f1 s1 ⊢
  clear hy
  obtain ⟨K1, _⟩ := f1
  refine st_row (i := 7) (by kernel_rfl) rfl rfl rfl rfl (cells := [.slice a1 m1 c1, .slice d1 n1 e1, .int .i64 x1, .int .i64 y1, .int .i64 z1, .int .i64 sb1, .int .i64 sn1, .int .i64 sf1, .bool st1, .int .i64 si1, .int .i64 so1]) K1 (by kernel_rfl) (by kernel_rfl) rfl (by kernel_rfl) (by intro v hv; simp at hv; rcases hv with rfl | rfl | rfl | rfl | rfl | rfl | rfl | rfl | rfl | rfl | rfl <;> rfl) ?_
  refine st_set (i := 8) (by kernel_rfl) rfl rfl (v := .bool r1) (by kernel_rfl) ?_
  refine wpAny_done (by kernel_rfl) ?_ _
  have lL := L.lt
  have lQ := Q.lt
  have G1 := set11 K1 (.slice a1 m1 c1) (.slice d1 n1 e1) (.int .i64 x1) (.int .i64 y1) (.int .i64 z1) (.int .i64 sb1) (.int .i64 sn1) (.int .i64 sf1) (.bool st1) (.int .i64 si1) (.int .i64 so1)
  have Q1 := arr_oth11 (Q.kept bW) (show G ≠ ll 6 by omega) (.slice a1 m1 c1) (.slice d1 n1 e1) (.int .i64 x1) (.int .i64 y1) (.int .i64 z1) (.int .i64 sb1) (.int .i64 sn1) (.int .i64 sf1) (.bool st1) (.int .i64 si1) (.int .i64 so1)
  have L1 := arr_oth11 (L.kept bW) (show H ≠ ll 6 by omega) (.slice a1 m1 c1) (.slice d1 n1 e1) (.int .i64 x1) (.int .i64 y1) (.int .i64 z1) (.int .i64 sb1) (.int .i64 sn1) (.int .i64 sf1) (.bool st1) (.int .i64 si1) (.int .i64 so1)
  have B1 := bel_set11 (HB.out.trans (bW.mono HB.out.size)) (show w.heap.size ≤ ll 6 by have := HB.out.size; omega) (.slice a1 m1 c1) (.slice d1 n1 e1) (.int .i64 x1) (.int .i64 y1) (.int .i64 z1) (.int .i64 sb1) (.int .i64 sn1) (.int .i64 sf1) (.bool st1) (.int .i64 si1) (.int .i64 so1)
  simp only [fillK, putT, List.setIfInBounds_toArray, List.set_cons_zero, List.set_cons_succ]
  generalize hg : ll 6 = g at G1 Q1 L1 B1 s1 ⊢
  have hgG : G ≠ g := by omega
  generalize y.setCells g 0 [.slice a1 m1 c1, .slice d1 n1 e1, .int .i64 x1, .int .i64 y1, .int .i64 z1, .int .i64 sb1, .int .i64 sn1, .int .i64 sf1, .bool st1, .int .i64 si1, .int .i64 so1] = Y at G1 Q1 L1 B1 ⊢
  clear K1 bW s1 hg HB H1 lA p0 p1 A L Q lL lQ
  cases r1
  · have HE : Hid _ := HT.out.trans (if_neg (fun h => by cases h.1))
    clear HT HK0 HK1 G1
    have Q := Q1
    have B := B1
    clear Q1 B1
    have l0 := L1.cell 0
    have l1 := L1.cell 1
    have l2 := L1.cell 2
    have l3 := L1.cell 3
    have l4 := L1.cell 4
    have l5 := L1.cell 5
    have l6 := L1.cell 6
    have l7 := L1.cell 7
    have l8 := L1.cell 8
    have l9 := L1.cell 9
    have l10 := L1.cell 10
    simp at l0 l1 l2 l3 l4 l5 l6 l7 l8 l9 l10
    have q0 := Q.cell 0
    have q1 := Q.cell 1
    have q2 := Q.cell 2
    have q3 := Q.cell 3
    have q4 := Q.cell 4
    have q5 := Q.cell 5
    have q6 := Q.cell 6
    have q7 := Q.cell 7
    have q8 := Q.cell 8
    have q9 := Q.cell 9
    have q10 := Q.cell 10
    simp at q0 q1 q2 q3 q4 q5 q6 q7 q8 q9 q10
    have fQ := Q.frozen
    have lQ := Q.lt
    have HK : Hid _ := set11 Q (.slice a0 m0 c0) (.slice d0 n0 e0) (.int .i64 x0) (.int .i64 y0) (.int .i64 z0) (.int .i64 sb0) (.int .i64 sn0) (.int .i64 sf0) (.bool st0) (.int .i64 si0) (.int .i64 so0)
    have HB : Hid _ := bel_set11 B hGw (.slice a0 m0 c0) (.slice d0 n0 e0) (.int .i64 x0) (.int .i64 y0) (.int .i64 z0) (.int .i64 sb0) (.int .i64 sn0) (.int .i64 sf0) (.bool st0) (.int .i64 si0) (.int .i64 so0)
    clear Q B
    go_wp2
    exact bodyPost_ret (results_row_tmp (v := .bool r0) (t := 154) (cs := [.slice a0 m0 c0, .slice d0 n0 e0, .int .i64 x0, .int .i64 y0, .int .i64 z0, .int .i64 sb0, .int .i64 sn0, .int .i64 sf0, .bool st0, .int .i64 si0, .int .i64 so0]) rfl rfl rfl HK.out Try.underlying154 rfl (by kernel_rfl)) rfl ⟨by rw [HE.out], HB.out⟩
  · have hk1 := HK1.out rfl
    cases r0
    · have HE : Hid _ := HT.out.trans (if_pos ⟨rfl, .inl rfl⟩)
      clear HT HK0 HK1 hk1
      have Q := Q1
      have B := B1
      clear Q1 B1
      have g0 := G1.cell 0
      have g1 := G1.cell 1
      have g2 := G1.cell 2
      have g3 := G1.cell 3
      have g4 := G1.cell 4
      have g5 := G1.cell 5
      have g6 := G1.cell 6
      have g7 := G1.cell 7
      have g8 := G1.cell 8
      have g9 := G1.cell 9
      have g10 := G1.cell 10
      simp at g0 g1 g2 g3 g4 g5 g6 g7 g8 g9 g10
      have q0 := Q.cell 0
      have q1 := Q.cell 1
      have q2 := Q.cell 2
      have q3 := Q.cell 3
      have q4 := Q.cell 4
      have q5 := Q.cell 5
      have q6 := Q.cell 6
      have q7 := Q.cell 7
      have q8 := Q.cell 8
      have q9 := Q.cell 9
      have q10 := Q.cell 10
      simp at q0 q1 q2 q3 q4 q5 q6 q7 q8 q9 q10
      have fQ := Q.frozen
      have lQ := Q.lt
      have HK : Hid _ := set11 Q (.slice a1 m1 c1) (.slice d1 n1 e1) (.int .i64 x1) (.int .i64 y1) (.int .i64 z1) (.int .i64 sb1) (.int .i64 sn1) (.int .i64 sf1) (.bool st1) (.int .i64 si1) (.int .i64 so1)
      have HB : Hid _ := bel_set11 B hGw (.slice a1 m1 c1) (.slice d1 n1 e1) (.int .i64 x1) (.int .i64 y1) (.int .i64 z1) (.int .i64 sb1) (.int .i64 sn1) (.int .i64 sf1) (.bool st1) (.int .i64 si1) (.int .i64 so1)
      clear Q B
      go_wp2
      exact bodyPost_ret (results_row_tmp (v := .bool true) (t := 154) (cs := [.slice a1 m1 c1, .slice d1 n1 e1, .int .i64 x1, .int .i64 y1, .int .i64 z1, .int .i64 sb1, .int .i64 sn1, .int .i64 sf1, .bool st1, .int .i64 si1, .int .i64 so1]) rfl rfl rfl HK.out Try.underlying154 rfl (by kernel_rfl)) rfl ⟨by rw [HE.out], HB.out⟩
    · have hk0 := HK0.out rfl
      by_cases hlt : y0 < y1
      · have HE : Hid _ := HT.out.trans (if_pos ⟨rfl, .inr (by omega)⟩)
        clear HT HK0 HK1 hk0 hk1
        have l0 := L1.cell 0
        have l1 := L1.cell 1
        have l2 := L1.cell 2
        have l3 := L1.cell 3
        have l4 := L1.cell 4
        have l5 := L1.cell 5
        have l6 := L1.cell 6
        have l7 := L1.cell 7
        have l8 := L1.cell 8
        have l9 := L1.cell 9
        have l10 := L1.cell 10
        simp at l0 l1 l2 l3 l4 l5 l6 l7 l8 l9 l10
        have Q := Q1
        have B := B1
        clear Q1 B1
        have g0 := G1.cell 0
        have g1 := G1.cell 1
        have g2 := G1.cell 2
        have g3 := G1.cell 3
        have g4 := G1.cell 4
        have g5 := G1.cell 5
        have g6 := G1.cell 6
        have g7 := G1.cell 7
        have g8 := G1.cell 8
        have g9 := G1.cell 9
        have g10 := G1.cell 10
        simp at g0 g1 g2 g3 g4 g5 g6 g7 g8 g9 g10
        have q0 := Q.cell 0
        have q1 := Q.cell 1
        have q2 := Q.cell 2
        have q3 := Q.cell 3
        have q4 := Q.cell 4
        have q5 := Q.cell 5
        have q6 := Q.cell 6
        have q7 := Q.cell 7
        have q8 := Q.cell 8
        have q9 := Q.cell 9
        have q10 := Q.cell 10
        simp at q0 q1 q2 q3 q4 q5 q6 q7 q8 q9 q10
        have fQ := Q.frozen
        have lQ := Q.lt
        have HK : Hid _ := set11 Q (.slice a1 m1 c1) (.slice d1 n1 e1) (.int .i64 x1) (.int .i64 y1) (.int .i64 z1) (.int .i64 sb1) (.int .i64 sn1) (.int .i64 sf1) (.bool st1) (.int .i64 si1) (.int .i64 so1)
        have HB : Hid _ := bel_set11 B hGw (.slice a1 m1 c1) (.slice d1 n1 e1) (.int .i64 x1) (.int .i64 y1) (.int .i64 z1) (.int .i64 sb1) (.int .i64 sn1) (.int .i64 sf1) (.bool st1) (.int .i64 si1) (.int .i64 so1)
        clear Q B
        go_wp2
        exact bodyPost_ret (results_row_tmp (v := .bool true) (t := 154) (cs := [.slice a1 m1 c1, .slice d1 n1 e1, .int .i64 x1, .int .i64 y1, .int .i64 z1, .int .i64 sb1, .int .i64 sn1, .int .i64 sf1, .bool st1, .int .i64 si1, .int .i64 so1]) rfl rfl rfl HK.out Try.underlying154 rfl (by kernel_rfl)) rfl ⟨by rw [HE.out], HB.out⟩
      · have HE : Hid _ := HT.out.trans (if_neg (fun h => h.2.elim (fun h => by cases h) (fun h => by omega)))
        clear HT HK0 HK1 hk0 hk1
        have g0 := G1.cell 0
        have g1 := G1.cell 1
        have g2 := G1.cell 2
        have g3 := G1.cell 3
        have g4 := G1.cell 4
        have g5 := G1.cell 5
        have g6 := G1.cell 6
        have g7 := G1.cell 7
        have g8 := G1.cell 8
        have g9 := G1.cell 9
        have g10 := G1.cell 10
        simp at g0 g1 g2 g3 g4 g5 g6 g7 g8 g9 g10
        have Q := Q1
        have B := B1
        clear Q1 B1
        have l0 := L1.cell 0
        have l1 := L1.cell 1
        have l2 := L1.cell 2
        have l3 := L1.cell 3
        have l4 := L1.cell 4
        have l5 := L1.cell 5
        have l6 := L1.cell 6
        have l7 := L1.cell 7
        have l8 := L1.cell 8
        have l9 := L1.cell 9
        have l10 := L1.cell 10
        simp at l0 l1 l2 l3 l4 l5 l6 l7 l8 l9 l10
        have q0 := Q.cell 0
        have q1 := Q.cell 1
        have q2 := Q.cell 2
        have q3 := Q.cell 3
        have q4 := Q.cell 4
        have q5 := Q.cell 5
        have q6 := Q.cell 6
        have q7 := Q.cell 7
        have q8 := Q.cell 8
        have q9 := Q.cell 9
        have q10 := Q.cell 10
        simp at q0 q1 q2 q3 q4 q5 q6 q7 q8 q9 q10
        have fQ := Q.frozen
        have lQ := Q.lt
        have HK : Hid _ := set11 Q (.slice a0 m0 c0) (.slice d0 n0 e0) (.int .i64 x0) (.int .i64 y0) (.int .i64 z0) (.int .i64 sb0) (.int .i64 sn0) (.int .i64 sf0) (.bool st0) (.int .i64 si0) (.int .i64 so0)
        have HB : Hid _ := bel_set11 B hGw (.slice a0 m0 c0) (.slice d0 n0 e0) (.int .i64 x0) (.int .i64 y0) (.int .i64 z0) (.int .i64 sb0) (.int .i64 sn0) (.int .i64 sf0) (.bool st0) (.int .i64 si0) (.int .i64 so0)
        clear Q B
        go_wp2
        exact bodyPost_ret (results_row_tmp (v := .bool true) (t := 154) (cs := [.slice a0 m0 c0, .slice d0 n0 e0, .int .i64 x0, .int .i64 y0, .int .i64 z0, .int .i64 sb0, .int .i64 sn0, .int .i64 sf0, .bool st0, .int .i64 si0, .int .i64 so0]) rfl rfl rfl HK.out Try.underlying154 rfl (by kernel_rfl)) rfl ⟨by rw [HE.out], HB.out⟩
end Go.Proofs.Ytgfjbaigmkdbcaa
