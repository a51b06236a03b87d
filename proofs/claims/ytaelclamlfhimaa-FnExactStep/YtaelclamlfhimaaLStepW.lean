/-
  What is proved here: the exact law of Step returns true at every argument, and writes into nothing that was there.
-/
import Derived.Test.YtaelclamlfhimaaC0z
import Derived.Test.YtaelclamlfhimaaLarg10
namespace Go.Proofs.Ytaelclamlfhimaa
set_option maxRecDepth 100000
open Go.RowKit
set_option linter.unusedVariables false

set_option maxHeartbeats 4000000 in
theorem walk_fnExactStep (w : World) (b0 n0 f0 : Int) (t0 : Bool) (i0 o0 k1 b1 n1 f1 : Int) (hb0 : I64R b0) (hn0 : I64R n0) (hf0 : I64R f0) (hi0 : I64R i0) (ho0 : I64R o0) (hk1 : I64R k1) (hb1 : I64R b1) (hn1 : I64R n1) (hf1 : I64R f1) :
    Calls Try.prog 10 #[btV b0 n0 f0 t0 i0 o0, rcV k1 b1 n1 f1] w fun e w' => e = .returned (.bool true) ∧ Below w.heap.size w w' := by
  clear hb0 hn0 hf0 hi0 ho0 hk1 hb1 hn1 hf1
  obtain ⟨⟨⟨xb, xn, xf, xt, xi, xo⟩, xok⟩, hS⟩ : ∃ S, stepT ⟨b0, n0, f0, t0, i0, o0⟩ ⟨k1, b1, n1, f1⟩ = S := ⟨_, rfl⟩
  have HS : Hid (∀ yW : World, Calls Try.prog 38 #[btV b0 n0 f0 t0 i0 o0, rcV k1 b1 n1 f1] yW fun e w' => e = .returned (.tuple #[btV xb xn xf xt xi xo, .bool xok]) ∧ Below yW.heap.size yW w') := by
    intro yW
    have := specStep b0 n0 f0 t0 i0 o0 k1 b1 n1 f1 yW
    rw [hS] at this
    exact this
  have HI : Hid (∀ yW : World, Calls Try.prog 39 #[btV b0 n0 f0 t0 i0 o0, rcV k1 b1 n1 f1] yW fun e w' => e = .returned (.tuple #[btV xb xn xf xt xi xo, .bool xok]) ∧ Below yW.heap.size yW w') := by
    intro yW
    have := implStep b0 n0 f0 t0 i0 o0 k1 b1 n1 f1 yW
    rw [hS] at this
    exact this
  clear hS
  obtain ⟨V, hV⟩ : ∃ V, V = (w.alloc (.cells #[.int .i64 b0, .int .i64 n0, .int .i64 f0, .bool t0, .int .i64 i0, .int .i64 o0] 50)).alloc (.cells #[.int .i64 k1, .int .i64 b1, .int .i64 n1, .int .i64 f1] 41) := ⟨_, rfl⟩
  have B : Below w.heap.size w V := by rw [hV]; exact ((Below.refl _ _).alloc (Nat.le_refl _) _).alloc (by simp) _
  have A : Arr V w.heap.size 50 [.int .i64 b0, .int .i64 n0, .int .i64 f0, .bool t0, .int .i64 i0, .int .i64 o0] := by rw [hV]; exact (Arr.new w [.int .i64 b0, .int .i64 n0, .int .i64 f0, .bool t0, .int .i64 i0, .int .i64 o0] 50).alloc _
  have R : Arr V (w.heap.size + 1) 41 [.int .i64 k1, .int .i64 b1, .int .i64 n1, .int .i64 f1] := by rw [hV]; have := Arr.new (w.alloc (.cells #[.int .i64 b0, .int .i64 n0, .int .i64 f0, .bool t0, .int .i64 i0, .int .i64 o0] 50)) [.int .i64 k1, .int .i64 b1, .int .i64 n1, .int .i64 f1] 41; simpa using this
  go_enter Try.func10, Try.ntmps10
  go_upto_region 1 with fail
  rw [← hV]
  clear hV
  have a0 := A.cell 0
  have a1 := A.cell 1
  have a2 := A.cell 2
  have a3 := A.cell 3
  have a4 := A.cell 4
  have a5 := A.cell 5
  simp at a0 a1 a2 a3 a4 a5
  have c0 := R.cell 0
  have c1 := R.cell 1
  have c2 := R.cell 2
  have c3 := R.cell 3
  simp at c0 c1 c2 c3
  go_wp2
  try simp only [Act.put]
  refine tameL [kc 10 (btV b0 n0 f0 t0 i0 o0), kc 11 (btV b0 n0 f0 t0 i0 o0), kc 12 (rcV k1 b1 n1 f1), kc 13 (rcV k1 b1 n1 f1), kc 14 (.tuple #[btV xb xn xf xt xi xo, .bool xok]), kc 9 (.tuple #[btV xb xn xf xt xi xo, .bool xok]), kc 15 (btV xb xn xf xt xi xo), kc 16 (.bool xok), ka 5 35 [.int .i64 0, .int .i64 0, .int .i64 0, .bool false, .int .i64 0, .int .i64 0]] 9 (by kernel_rfl) (by kernel_rfl) [7] (by kernel_rfl) (by repeat' first | exact trivial | apply kc_keeps | apply ka_keeps | constructor) (fun _ c a d v w h => by cases d <;> exact h) (fun V L i hi => by simp only [List.mem_cons, List.not_mem_nil, or_false] at hi; subst hi; exact ⟨_, _, _, rfl, rfl, .inl ⟨by kernel_rfl, fun _ => by kernel_rfl⟩⟩) 2 (by kernel_rfl) (fun vv ll hh yW bW => ?_) (fun vv ll hh yW bW F ivh aph => ?_)
  · have x0 := (bW.cell (p := ⟨w.heap.size, 0, none⟩) A.lt).trans a0
    have x1 := (bW.cell (p := ⟨w.heap.size, 1, none⟩) A.lt).trans a1
    have x2 := (bW.cell (p := ⟨w.heap.size, 2, none⟩) A.lt).trans a2
    have x3 := (bW.cell (p := ⟨w.heap.size, 3, none⟩) A.lt).trans a3
    have x4 := (bW.cell (p := ⟨w.heap.size, 4, none⟩) A.lt).trans a4
    have x5 := (bW.cell (p := ⟨w.heap.size, 5, none⟩) A.lt).trans a5
    have y0 := (bW.cell (p := ⟨w.heap.size + 1, 0, none⟩) R.lt).trans c0
    have y1 := (bW.cell (p := ⟨w.heap.size + 1, 1, none⟩) R.lt).trans c1
    have y2 := (bW.cell (p := ⟨w.heap.size + 1, 2, none⟩) R.lt).trans c2
    have y3 := (bW.cell (p := ⟨w.heap.size + 1, 3, none⟩) R.lt).trans c3
    refine ⟨og (tp ?_) (by kernel_rfl), og (tc (toBootC b0 n0 f0 t0 i0 o0 _) (by kernel_rfl)) (by kernel_rfl), og (tp ?_) (by kernel_rfl), og (tc (toRecC k1 b1 n1 f1 _) (by kernel_rfl)) (by kernel_rfl), og (tc (HS.out _) (by kernel_rfl)) (by kernel_rfl), og (tp (by kernel_rfl)) (by kernel_rfl), og (tp (by kernel_rfl)) (by kernel_rfl), og (tp (by kernel_rfl)) (by kernel_rfl), og (ta (by kernel_rfl)) (by kernel_rfl), trivial⟩
    all_goals
      simp only [fillK, putT, List.setIfInBounds_toArray, List.set_cons_zero, List.set_cons_succ]
      unfold execOp
      try go_simp
  have f1 : Arr yW (ll 8) 35 [.int .i64 0, .int .i64 0, .int .i64 0, .bool false, .int .i64 0, .int .i64 0] ∧ ll 8 < hh 8 := F.2.2.2.2.2.2.2.2.1
  have s1 := ivh 8 (by omega)
  clear F ivh aph
  obtain ⟨y, hy⟩ : ∃ z, z = yW := ⟨_, rfl⟩
  rw [← hy] at bW f1 s1 ⊢
  clear hy
  obtain ⟨K1, _⟩ := f1
  refine st_row (i := 9) (by kernel_rfl) rfl rfl rfl rfl (cells := [.int .i64 xb, .int .i64 xn, .int .i64 xf, .bool xt, .int .i64 xi, .int .i64 xo]) K1 (by kernel_rfl) (by kernel_rfl) rfl (by kernel_rfl) (by intro v hv; simp at hv; rcases hv with rfl | rfl | rfl | rfl | rfl | rfl <;> rfl) ?_
  refine st_set (i := 10) (by kernel_rfl) rfl rfl (v := .bool xok) (by kernel_rfl) ?_
  refine wpAny_done (by kernel_rfl) ?_ _
  have Sw : Arr (y.setCells (ll 8) 0 [.int .i64 xb, .int .i64 xn, .int .i64 xf, .bool xt, .int .i64 xi, .int .i64 xo]) (ll 8) 35 [.int .i64 xb, .int .i64 xn, .int .i64 xf, .bool xt, .int .i64 xi, .int .i64 xo] := (((((K1.set 0 _).set 1 _).set 2 _).set 3 _).set 4 _).set 5 _
  simp only [fillK, putT, List.setIfInBounds_toArray, List.set_cons_zero, List.set_cons_succ]
  generalize hg : ll 8 = gSw at K1 Sw s1 ⊢
  have zb := bW.size
  have zB := B.size
  have zR := R.lt
  have A2 : Arr (y.setCells gSw 0 [.int .i64 xb, .int .i64 xn, .int .i64 xf, .bool xt, .int .i64 xi, .int .i64 xo]) w.heap.size 50 [.int .i64 b0, .int .i64 n0, .int .i64 f0, .bool t0, .int .i64 i0, .int .i64 o0] := by
    have n1 : w.heap.size ≠ gSw := by have := A.lt; omega
    exact (((((((A.kept bW).other ⟨gSw, 0, none⟩ _ n1).other ⟨gSw, 1, none⟩ _ n1).other ⟨gSw, 2, none⟩ _ n1).other ⟨gSw, 3, none⟩ _ n1).other ⟨gSw, 4, none⟩ _ n1).other ⟨gSw, 5, none⟩ _ n1)
  have R2 : Arr (y.setCells gSw 0 [.int .i64 xb, .int .i64 xn, .int .i64 xf, .bool xt, .int .i64 xi, .int .i64 xo]) (w.heap.size + 1) 41 [.int .i64 k1, .int .i64 b1, .int .i64 n1, .int .i64 f1] := by
    have n1 : (w.heap.size + 1) ≠ gSw := by have := R.lt; omega
    exact (((((((R.kept bW).other ⟨gSw, 0, none⟩ _ n1).other ⟨gSw, 1, none⟩ _ n1).other ⟨gSw, 2, none⟩ _ n1).other ⟨gSw, 3, none⟩ _ n1).other ⟨gSw, 4, none⟩ _ n1).other ⟨gSw, 5, none⟩ _ n1)
  have B2 : Below w.heap.size w (y.setCells gSw 0 [.int .i64 xb, .int .i64 xn, .int .i64 xf, .bool xt, .int .i64 xi, .int .i64 xo]) := bel_set6 (B.trans (bW.mono B.size)) (show w.heap.size ≤ gSw by omega) _ _ _ _ _ _
  generalize y.setCells gSw 0 [.int .i64 xb, .int .i64 xn, .int .i64 xf, .bool xt, .int .i64 xi, .int .i64 xo] = Y1 at Sw A2 R2 B2 ⊢
  clear K1 bW s1 zb zB zR hg B A R a0 a1 a2 a3 a4 a5 c0 c1 c2 c3
  have A := A2
  clear A2
  have R := R2
  clear R2
  have B := B2
  clear B2
  have a0 := A.cell 0
  have a1 := A.cell 1
  have a2 := A.cell 2
  have a3 := A.cell 3
  have a4 := A.cell 4
  have a5 := A.cell 5
  simp at a0 a1 a2 a3 a4 a5
  have c0 := R.cell 0
  have c1 := R.cell 1
  have c2 := R.cell 2
  have c3 := R.cell 3
  simp at c0 c1 c2 c3
  go_wp2
  try simp only [Act.put]
  refine tameL [kc 18 (btV b0 n0 f0 t0 i0 o0), kc 19 (btV b0 n0 f0 t0 i0 o0), kc 20 (rcV k1 b1 n1 f1), kc 21 (rcV k1 b1 n1 f1), kc 22 (.tuple #[btV xb xn xf xt xi xo, .bool xok]), kc 17 (.tuple #[btV xb xn xf xt xi xo, .bool xok]), kc 23 (btV xb xn xf xt xi xo), kc 24 (.bool xok), ka 7 35 [.int .i64 0, .int .i64 0, .int .i64 0, .bool false, .int .i64 0, .int .i64 0]] 9 (by kernel_rfl) (by kernel_rfl) [7] (by kernel_rfl) (by repeat' first | exact trivial | apply kc_keeps | apply ka_keeps | constructor) (fun _ c a d v w h => by cases d <;> exact h) (fun V L i hi => by simp only [List.mem_cons, List.not_mem_nil, or_false] at hi; subst hi; exact ⟨_, _, _, rfl, rfl, .inl ⟨by kernel_rfl, fun _ => by kernel_rfl⟩⟩) 2 (by kernel_rfl) (fun vv ll hh yW bW => ?_) (fun vv ll hh yW bW F ivh aph => ?_)
  · have x0 := (bW.cell (p := ⟨w.heap.size, 0, none⟩) A.lt).trans a0
    have x1 := (bW.cell (p := ⟨w.heap.size, 1, none⟩) A.lt).trans a1
    have x2 := (bW.cell (p := ⟨w.heap.size, 2, none⟩) A.lt).trans a2
    have x3 := (bW.cell (p := ⟨w.heap.size, 3, none⟩) A.lt).trans a3
    have x4 := (bW.cell (p := ⟨w.heap.size, 4, none⟩) A.lt).trans a4
    have x5 := (bW.cell (p := ⟨w.heap.size, 5, none⟩) A.lt).trans a5
    have y0 := (bW.cell (p := ⟨w.heap.size + 1, 0, none⟩) R.lt).trans c0
    have y1 := (bW.cell (p := ⟨w.heap.size + 1, 1, none⟩) R.lt).trans c1
    have y2 := (bW.cell (p := ⟨w.heap.size + 1, 2, none⟩) R.lt).trans c2
    have y3 := (bW.cell (p := ⟨w.heap.size + 1, 3, none⟩) R.lt).trans c3
    refine ⟨og (tp ?_) (by kernel_rfl), og (tc (toBootC b0 n0 f0 t0 i0 o0 _) (by kernel_rfl)) (by kernel_rfl), og (tp ?_) (by kernel_rfl), og (tc (toRecC k1 b1 n1 f1 _) (by kernel_rfl)) (by kernel_rfl), og (tc (HI.out _) (by kernel_rfl)) (by kernel_rfl), og (tp (by kernel_rfl)) (by kernel_rfl), og (tp (by kernel_rfl)) (by kernel_rfl), og (tp (by kernel_rfl)) (by kernel_rfl), og (ta (by kernel_rfl)) (by kernel_rfl), trivial⟩
    all_goals
      simp only [fillK, putT, List.setIfInBounds_toArray, List.set_cons_zero, List.set_cons_succ]
      unfold execOp
      try go_simp
  have f1 : Arr yW (ll 8) 35 [.int .i64 0, .int .i64 0, .int .i64 0, .bool false, .int .i64 0, .int .i64 0] ∧ ll 8 < hh 8 := F.2.2.2.2.2.2.2.2.1
  have s1 := ivh 8 (by omega)
  clear F ivh aph
  obtain ⟨y, hy⟩ : ∃ z, z = yW := ⟨_, rfl⟩
  rw [← hy] at bW f1 s1 ⊢
  clear hy
  obtain ⟨K1, _⟩ := f1
  refine st_row (i := 9) (by kernel_rfl) rfl rfl rfl rfl (cells := [.int .i64 xb, .int .i64 xn, .int .i64 xf, .bool xt, .int .i64 xi, .int .i64 xo]) K1 (by kernel_rfl) (by kernel_rfl) rfl (by kernel_rfl) (by intro v hv; simp at hv; rcases hv with rfl | rfl | rfl | rfl | rfl | rfl <;> rfl) ?_
  refine st_set (i := 10) (by kernel_rfl) rfl rfl (v := .bool xok) (by kernel_rfl) ?_
  refine wpAny_done (by kernel_rfl) ?_ _
  have Sg : Arr (y.setCells (ll 8) 0 [.int .i64 xb, .int .i64 xn, .int .i64 xf, .bool xt, .int .i64 xi, .int .i64 xo]) (ll 8) 35 [.int .i64 xb, .int .i64 xn, .int .i64 xf, .bool xt, .int .i64 xi, .int .i64 xo] := (((((K1.set 0 _).set 1 _).set 2 _).set 3 _).set 4 _).set 5 _
  simp only [fillK, putT, List.setIfInBounds_toArray, List.set_cons_zero, List.set_cons_succ]
  generalize hg : ll 8 = gSg at K1 Sg s1 ⊢
  have zb := bW.size
  have zB := B.size
  have zR := R.lt
  have A2 : Arr (y.setCells gSg 0 [.int .i64 xb, .int .i64 xn, .int .i64 xf, .bool xt, .int .i64 xi, .int .i64 xo]) w.heap.size 50 [.int .i64 b0, .int .i64 n0, .int .i64 f0, .bool t0, .int .i64 i0, .int .i64 o0] := by
    have n1 : w.heap.size ≠ gSg := by have := A.lt; omega
    exact (((((((A.kept bW).other ⟨gSg, 0, none⟩ _ n1).other ⟨gSg, 1, none⟩ _ n1).other ⟨gSg, 2, none⟩ _ n1).other ⟨gSg, 3, none⟩ _ n1).other ⟨gSg, 4, none⟩ _ n1).other ⟨gSg, 5, none⟩ _ n1)
  have R2 : Arr (y.setCells gSg 0 [.int .i64 xb, .int .i64 xn, .int .i64 xf, .bool xt, .int .i64 xi, .int .i64 xo]) (w.heap.size + 1) 41 [.int .i64 k1, .int .i64 b1, .int .i64 n1, .int .i64 f1] := by
    have n1 : (w.heap.size + 1) ≠ gSg := by have := R.lt; omega
    exact (((((((R.kept bW).other ⟨gSg, 0, none⟩ _ n1).other ⟨gSg, 1, none⟩ _ n1).other ⟨gSg, 2, none⟩ _ n1).other ⟨gSg, 3, none⟩ _ n1).other ⟨gSg, 4, none⟩ _ n1).other ⟨gSg, 5, none⟩ _ n1)
  have Sw2 : Arr (y.setCells gSg 0 [.int .i64 xb, .int .i64 xn, .int .i64 xf, .bool xt, .int .i64 xi, .int .i64 xo]) gSw 35 [.int .i64 xb, .int .i64 xn, .int .i64 xf, .bool xt, .int .i64 xi, .int .i64 xo] := by
    have n1 : gSw ≠ gSg := by have := Sw.lt; omega
    exact (((((((Sw.kept bW).other ⟨gSg, 0, none⟩ _ n1).other ⟨gSg, 1, none⟩ _ n1).other ⟨gSg, 2, none⟩ _ n1).other ⟨gSg, 3, none⟩ _ n1).other ⟨gSg, 4, none⟩ _ n1).other ⟨gSg, 5, none⟩ _ n1)
  have B2 : Below w.heap.size w (y.setCells gSg 0 [.int .i64 xb, .int .i64 xn, .int .i64 xf, .bool xt, .int .i64 xi, .int .i64 xo]) := bel_set6 (B.trans (bW.mono B.size)) (show w.heap.size ≤ gSg by omega) _ _ _ _ _ _
  generalize y.setCells gSg 0 [.int .i64 xb, .int .i64 xn, .int .i64 xf, .bool xt, .int .i64 xi, .int .i64 xo] = Y2 at Sg A2 R2 Sw2 B2 ⊢
  clear K1 bW s1 zb zB zR hg B A R Sw a0 a1 a2 a3 a4 a5 c0 c1 c2 c3
  have A := A2
  clear A2
  have R := R2
  clear R2
  have Sw := Sw2
  clear Sw2
  have B := B2
  clear B2
  have u0 := Sw.cell 0
  have u1 := Sw.cell 1
  have u2 := Sw.cell 2
  have u3 := Sw.cell 3
  have u4 := Sw.cell 4
  have u5 := Sw.cell 5
  simp at u0 u1 u2 u3 u4 u5
  have v0 := Sg.cell 0
  have v1 := Sg.cell 1
  have v2 := Sg.cell 2
  have v3 := Sg.cell 3
  have v4 := Sg.cell 4
  have v5 := Sg.cell 5
  simp at v0 v1 v2 v3 v4 v5
  have hRR : (xok != xok) = false := by simp
  go_wp2_with fail
  refine (eqBootC xb xn xf xt xi xo _).mono ?_
  rintro e w9 ⟨rfl, hb⟩
  replace B := B.trans (hb.mono B.size)
  clear hb
  go_wp2
  go_ret
  exact ⟨rfl, B⟩
end Go.Proofs.Ytaelclamlfhimaa
