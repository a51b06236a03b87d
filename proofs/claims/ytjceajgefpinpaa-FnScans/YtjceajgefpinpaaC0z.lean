/-
  What is proved here: what the program's Step answers.
-/
import Derived.Test.YtjceajgefpinpaaC0y
import Derived.Laws.Tables
namespace Go.Proofs.Ytjceajgefpinpaa
open Go.RowKit
set_option maxRecDepth 100000
set_option maxHeartbeats 4000000
set_option linter.unusedVariables false

abbrev F7 : List Value := [.nilFunc, .func (.func 81) #[] #[], .func (.func 81) #[] #[], .func (.func 82) #[] #[], .func (.func 83) #[] #[], .func (.func 84) #[] #[], .func (.func 85) #[] #[]]
theorem implDeeds (w : World) : Calls Try.prog 69 #[] w fun e w' => e = .returned (.agg F7.toArray) ∧ Below w.heap.size w w' := by
  have A : (w.alloc (.cells #[.nilFunc, .nilFunc, .nilFunc, .nilFunc, .nilFunc, .nilFunc, .nilFunc] 83)).heap[w.heap.size]? = some (.cells #[.nilFunc, .nilFunc, .nilFunc, .nilFunc, .nilFunc, .nilFunc, .nilFunc] 83 (0, 0)) := Arr.new w [.nilFunc, .nilFunc, .nilFunc, .nilFunc, .nilFunc, .nilFunc, .nilFunc] 83
  have K : Arr ((w.alloc (.cells #[.nilFunc, .nilFunc, .nilFunc, .nilFunc, .nilFunc, .nilFunc, .nilFunc] 83)).setRow w.heap.size F7.toArray) w.heap.size 83 F7 := Arr.row A F7
  have B : Below w.heap.size w ((w.alloc (.cells #[.nilFunc, .nilFunc, .nilFunc, .nilFunc, .nilFunc, .nilFunc, .nilFunc] 83)).setRow w.heap.size F7.toArray) := setRow_below ((Below.refl _ _).alloc (Nat.le_refl _) _) _ _ (Nat.le_refl _)
  go_enter Try.func69, Try.ntmps69
  go_wp2_with (first
    | (refine wpList_store_row rfl 83 _ _ rfl w.heap.size F7.toArray rfl rfl 83 #[.nilFunc, .nilFunc, .nilFunc, .nilFunc, .nilFunc, .nilFunc, .nilFunc] A (by kernel_rfl) (by kernel_rfl) (by kernel_rfl) ?_))
  exact bodyPost_ret (results_cell_row rfl _ _ w.heap.size 83 _ (0, 0) _ rfl K Try.underlying83 rfl (by kernel_rfl)) rfl ⟨rfl, B⟩

theorem implStep (b n f : Int) (t : Bool) (i o k rb rn rf : Int) (w : World) :
    Calls Try.prog 39 #[btV b n f t i o, rcV k rb rn rf] w fun e w' => e = .returned (stV (stepT ⟨b, n, f, t, i, o⟩ ⟨k, rb, rn, rf⟩)) ∧ Below w.heap.size w w' := by
  obtain ⟨S, hS⟩ : ∃ S, (stepT ⟨b, n, f, t, i, o⟩ ⟨k, rb, rn, rf⟩ : Bt × Bool) = S := ⟨_, rfl⟩
  rw [hS]
  obtain ⟨W, hW⟩ : ∃ W, W = ((w.alloc (.cells #[.int .i64 b, .int .i64 n, .int .i64 f, .bool t, .int .i64 i, .int .i64 o] 35)).alloc (.cells #[.int .i64 k, .int .i64 rb, .int .i64 rn, .int .i64 rf] 29)).alloc (.cells #[.int .i64 0, .int .i64 0, .int .i64 0, .bool false, .int .i64 0, .int .i64 0] 35) := ⟨_, rfl⟩
  have B : Below w.heap.size w W := by rw [hW]; exact (((Below.refl _ _).alloc (Nat.le_refl _) _).alloc (by simp) _).alloc (by simp; omega) _
  have A : Arr W w.heap.size 35 [.int .i64 b, .int .i64 n, .int .i64 f, .bool t, .int .i64 i, .int .i64 o] := by rw [hW]; exact ((Arr.new w [.int .i64 b, .int .i64 n, .int .i64 f, .bool t, .int .i64 i, .int .i64 o] 35).alloc (.cells #[.int .i64 k, .int .i64 rb, .int .i64 rn, .int .i64 rf] 29)).alloc (.cells #[.int .i64 0, .int .i64 0, .int .i64 0, .bool false, .int .i64 0, .int .i64 0] 35)
  have R : Arr W (w.heap.size + 1) 29 [.int .i64 k, .int .i64 rb, .int .i64 rn, .int .i64 rf] := by rw [hW]; have := (Arr.new (w.alloc (.cells #[.int .i64 b, .int .i64 n, .int .i64 f, .bool t, .int .i64 i, .int .i64 o] 35)) [.int .i64 k, .int .i64 rb, .int .i64 rn, .int .i64 rf] 29).alloc (.cells #[.int .i64 0, .int .i64 0, .int .i64 0, .bool false, .int .i64 0, .int .i64 0] 35); simpa using this
  have Q : Arr W (w.heap.size + 2) 35 [.int .i64 0, .int .i64 0, .int .i64 0, .bool false, .int .i64 0, .int .i64 0] := by rw [hW]; have := Arr.new ((w.alloc (.cells #[.int .i64 b, .int .i64 n, .int .i64 f, .bool t, .int .i64 i, .int .i64 o] 35)).alloc (.cells #[.int .i64 k, .int .i64 rb, .int .i64 rn, .int .i64 rf] 29)) [.int .i64 0, .int .i64 0, .int .i64 0, .bool false, .int .i64 0, .int .i64 0] 35; simpa using this
  unfold stepT at hS
  go_enter Try.func39, Try.ntmps39
  go_upto_region 1 with fail
  rw [← hW]
  clear hW
  have a0 := A.cell 0
  have a1 := A.cell 1
  have a2 := A.cell 2
  have a3 := A.cell 3
  have a4 := A.cell 4
  have a5 := A.cell 5
  simp at a0 a1 a2 a3 a4 a5
  have c0 := R.cell 0
  have c1 := R.cell 1
  have c2 := R.cell 2
  have c3 := R.cell 3
  simp at c0 c1 c2 c3
  go_wp2_with fail
  refine (implBootOk b n f t i o _).mono ?_
  rintro e w1 ⟨rfl, hb1⟩
  replace A := A.kept hb1
  replace R := R.kept hb1
  replace Q := Q.kept hb1
  replace B := B.trans (hb1.mono B.size)
  clear hb1
  clear a0 a1 a2 a3 a4 a5 c0 c1 c2 c3
  by_cases h1 : btOk b n f t i o
  case neg =>
    rw [decide_eq_false h1]
    have HS : Hid _ := (if_neg (fun h : _ ∧ _ => h1 h.1)).symm.trans hS
    clear hS h1
    have fR := Q.frozen
    have lR := Q.lt
    have q0 := Q.cell 0
    have q1 := Q.cell 1
    have q2 := Q.cell 2
    have q3 := Q.cell 3
    have q4 := Q.cell 4
    have q5 := Q.cell 5
    simp at q0 q1 q2 q3 q4 q5
    have HK : Hid _ := set6 Q (.int .i64 0) (.int .i64 0) (.int .i64 0) (.bool false) (.int .i64 0) (.int .i64 0)
    have HB : Hid _ := bel_set6 B (show w.heap.size ≤ w.heap.size + 2 by omega) (.int .i64 0) (.int .i64 0) (.int .i64 0) (.bool false) (.int .i64 0) (.int .i64 0)
    clear Q B
    go_wp2
    exact bodyPost_ret (results_row_tmp (v := .bool false) (t := 35) (cs := [.int .i64 0, .int .i64 0, .int .i64 0, .bool false, .int .i64 0, .int .i64 0]) rfl rfl rfl HK.out Try.underlying35 rfl (by kernel_rfl)) rfl ⟨by rw [← HS.out], HB.out⟩
  rw [decide_eq_true h1]
  have H1 : Hid _ := h1
  clear h1
  have c0 := R.cell 0
  have c1 := R.cell 1
  have c2 := R.cell 2
  have c3 := R.cell 3
  simp at c0 c1 c2 c3
  go_wp2_with fail
  refine (implRecOk k rb rn rf _).mono ?_
  rintro e w1 ⟨rfl, hb1⟩
  replace A := A.kept hb1
  replace R := R.kept hb1
  replace Q := Q.kept hb1
  replace B := B.trans (hb1.mono B.size)
  clear hb1
  clear c0 c1 c2 c3
  by_cases h2 : rcOk k rb rn rf
  case neg =>
    rw [decide_eq_false h2]
    have HS : Hid _ := (if_neg (fun h : _ ∧ _ => h2 h.2)).symm.trans hS
    clear hS h2
    have fR := Q.frozen
    have lR := Q.lt
    have q0 := Q.cell 0
    have q1 := Q.cell 1
    have q2 := Q.cell 2
    have q3 := Q.cell 3
    have q4 := Q.cell 4
    have q5 := Q.cell 5
    simp at q0 q1 q2 q3 q4 q5
    have HK : Hid _ := set6 Q (.int .i64 0) (.int .i64 0) (.int .i64 0) (.bool false) (.int .i64 0) (.int .i64 0)
    have HB : Hid _ := bel_set6 B (show w.heap.size ≤ w.heap.size + 2 by omega) (.int .i64 0) (.int .i64 0) (.int .i64 0) (.bool false) (.int .i64 0) (.int .i64 0)
    clear Q B
    go_wp2
    exact bodyPost_ret (results_row_tmp (v := .bool false) (t := 35) (cs := [.int .i64 0, .int .i64 0, .int .i64 0, .bool false, .int .i64 0, .int .i64 0]) rfl rfl rfl HK.out Try.underlying35 rfl (by kernel_rfl)) rfl ⟨by rw [← HS.out], HB.out⟩
  rw [decide_eq_true h2]
  have HS : Hid _ := (if_pos ⟨H1.out, h2⟩).symm.trans hS
  have H2 : Hid _ := h2
  clear h2 hS
  have hk : k = 1 ∨ k = 2 ∨ k = 3 ∨ k = 4 ∨ k = 5 ∨ k = 6 := by have := H2.out; omega
  have hb := H1.out.1
  have hi : 0 ≤ i ∧ i ≤ 3 := by have := H1.out.2.2.2; revert this; cases t <;> simp <;> omega
  obtain ⟨⟨xb, xn, xf, xt, xi, xo⟩, xok⟩ := S
  rcases hk with rfl | rfl | rfl | rfl | rfl | rfl
  · have a0 := A.cell 0
    have a1 := A.cell 1
    have a2 := A.cell 2
    have a3 := A.cell 3
    have a4 := A.cell 4
    have a5 := A.cell 5
    simp at a0 a1 a2 a3 a4 a5
    have c0 := R.cell 0
    have c1 := R.cell 1
    have c2 := R.cell 2
    have c3 := R.cell 3
    simp at c0 c1 c2 c3
    have HC : Hid (∀ yW : World, Calls Try.prog 81 #[btV b n f t i o, rcV 1 rb rn rf] yW fun e w' => e = .returned (.tuple #[btV xb xn xf xt xi xo, .bool xok]) ∧ Below yW.heap.size yW w') := by
      intro yW
      have e1 := HS.out
      unfold stT at e1
      simp only [reduceIte, show ¬ ((1 : Int) = 3) by omega, show ¬ ((1 : Int) = 4) by omega, show ¬ ((1 : Int) = 5) by omega, show ¬ ((1 : Int) = 6) by omega] at e1
      have := implUnmoved b n f t i o 1 rb rn rf yW
      first | rw [e1] at this | skip
      exact this
    go_wp2
    try simp only [Act.put]
    refine tame [kc 15 (.agg F7.toArray), kc 16 (.pointer (some ⟨(w.heap.size + 1), 0, none⟩)), kc 17 (.int .i64 1), kc 18 (.func (.func 81) #[] #[]), kc 19 (.agg #[.int .i64 b, .int .i64 n, .int .i64 f, .bool t, .int .i64 i, .int .i64 o]), kc 20 (.agg #[.int .i64 1, .int .i64 rb, .int .i64 rn, .int .i64 rf]), kc 21 (.tuple #[btV xb xn xf xt xi xo, .bool xok]), kc 22 (.agg #[.int .i64 xb, .int .i64 xn, .int .i64 xf, .bool xt, .int .i64 xi, .int .i64 xo]), kc 23 (.bool xok)] 9 (by kernel_rfl) (by kernel_rfl) (by kernel_rfl) (by repeat' first | exact trivial | apply kc_keeps | constructor) 2 (by kernel_rfl) (fun vv ll hh yW bW => ?_) (fun vv ll hh yW bW F ivh aph => ?_)
    · have x0 := (bW.cell (p := ⟨w.heap.size, 0, none⟩) A.lt).trans a0
      have x1 := (bW.cell (p := ⟨w.heap.size, 1, none⟩) A.lt).trans a1
      have x2 := (bW.cell (p := ⟨w.heap.size, 2, none⟩) A.lt).trans a2
      have x3 := (bW.cell (p := ⟨w.heap.size, 3, none⟩) A.lt).trans a3
      have x4 := (bW.cell (p := ⟨w.heap.size, 4, none⟩) A.lt).trans a4
      have x5 := (bW.cell (p := ⟨w.heap.size, 5, none⟩) A.lt).trans a5
      have y0 := (bW.cell (p := ⟨w.heap.size + 1, 0, none⟩) R.lt).trans c0
      have y1 := (bW.cell (p := ⟨w.heap.size + 1, 1, none⟩) R.lt).trans c1
      have y2 := (bW.cell (p := ⟨w.heap.size + 1, 2, none⟩) R.lt).trans c2
      have y3 := (bW.cell (p := ⟨w.heap.size + 1, 3, none⟩) R.lt).trans c3
      refine ⟨tc (implDeeds _) (by kernel_rfl), tp (by kernel_rfl), tp ?_, tp (by kernel_rfl), tp ?_, tp ?_, tc (HC.out _) (by kernel_rfl), tp (by kernel_rfl), tp (by kernel_rfl), trivial⟩
      all_goals
        simp only [fillK, putT, List.setIfInBounds_toArray, List.set_cons_zero, List.set_cons_succ]
        unfold execOp
        try go_simp
        all_goals first | rfl | (refine wr64 ?_ ?_ <;> omega)
    clear F ivh aph
    obtain ⟨y, hy⟩ : ∃ z, z = yW := ⟨_, rfl⟩
    rw [← hy] at bW ⊢
    clear hy
    have K1 := Q.kept bW
    refine st_row (i := 9) (by kernel_rfl) rfl rfl rfl rfl (cells := [.int .i64 xb, .int .i64 xn, .int .i64 xf, .bool xt, .int .i64 xi, .int .i64 xo]) K1 (by kernel_rfl) (by kernel_rfl) rfl (by kernel_rfl) (by intro v hv; simp at hv; rcases hv with rfl | rfl | rfl | rfl | rfl | rfl <;> rfl) ?_
    refine st_set (i := 10) (by kernel_rfl) rfl rfl (v := .bool xok) (by kernel_rfl) ?_
    refine wpAny_done (by kernel_rfl) ?_ _
    simp only [fillK, putT, List.setIfInBounds_toArray, List.set_cons_zero, List.set_cons_succ]
    have A2 : Arr (y.setCells (w.heap.size + 2) 0 [.int .i64 xb, .int .i64 xn, .int .i64 xf, .bool xt, .int .i64 xi, .int .i64 xo]) (w.heap.size + 2) 35 [.int .i64 xb, .int .i64 xn, .int .i64 xf, .bool xt, .int .i64 xi, .int .i64 xo] := (((((K1.set 0 _).set 1 _).set 2 _).set 3 _).set 4 _).set 5 _
    have B2 : Below w.heap.size w (y.setCells (w.heap.size + 2) 0 [.int .i64 xb, .int .i64 xn, .int .i64 xf, .bool xt, .int .i64 xi, .int .i64 xo]) := bel_set6 (B.trans (bW.mono B.size)) (show w.heap.size ≤ w.heap.size + 2 by omega) _ _ _ _ _ _
    generalize y.setCells (w.heap.size + 2) 0 [.int .i64 xb, .int .i64 xn, .int .i64 xf, .bool xt, .int .i64 xi, .int .i64 xo] = Y at A2 B2 ⊢
    go_wp2
    exact bodyPost_ret (results_row_tmp (v := .bool xok) (t := 35) (cs := [.int .i64 xb, .int .i64 xn, .int .i64 xf, .bool xt, .int .i64 xi, .int .i64 xo]) rfl rfl rfl A2 Try.underlying35 rfl (by kernel_rfl)) rfl ⟨rfl, B2⟩
  · have a0 := A.cell 0
    have a1 := A.cell 1
    have a2 := A.cell 2
    have a3 := A.cell 3
    have a4 := A.cell 4
    have a5 := A.cell 5
    simp at a0 a1 a2 a3 a4 a5
    have c0 := R.cell 0
    have c1 := R.cell 1
    have c2 := R.cell 2
    have c3 := R.cell 3
    simp at c0 c1 c2 c3
    have HC : Hid (∀ yW : World, Calls Try.prog 81 #[btV b n f t i o, rcV 2 rb rn rf] yW fun e w' => e = .returned (.tuple #[btV xb xn xf xt xi xo, .bool xok]) ∧ Below yW.heap.size yW w') := by
      intro yW
      have e1 := HS.out
      unfold stT at e1
      simp only [reduceIte, show ¬ ((2 : Int) = 3) by omega, show ¬ ((2 : Int) = 4) by omega, show ¬ ((2 : Int) = 5) by omega, show ¬ ((2 : Int) = 6) by omega] at e1
      have := implUnmoved b n f t i o 2 rb rn rf yW
      first | rw [e1] at this | skip
      exact this
    go_wp2
    try simp only [Act.put]
    refine tame [kc 15 (.agg F7.toArray), kc 16 (.pointer (some ⟨(w.heap.size + 1), 0, none⟩)), kc 17 (.int .i64 2), kc 18 (.func (.func 81) #[] #[]), kc 19 (.agg #[.int .i64 b, .int .i64 n, .int .i64 f, .bool t, .int .i64 i, .int .i64 o]), kc 20 (.agg #[.int .i64 2, .int .i64 rb, .int .i64 rn, .int .i64 rf]), kc 21 (.tuple #[btV xb xn xf xt xi xo, .bool xok]), kc 22 (.agg #[.int .i64 xb, .int .i64 xn, .int .i64 xf, .bool xt, .int .i64 xi, .int .i64 xo]), kc 23 (.bool xok)] 9 (by kernel_rfl) (by kernel_rfl) (by kernel_rfl) (by repeat' first | exact trivial | apply kc_keeps | constructor) 2 (by kernel_rfl) (fun vv ll hh yW bW => ?_) (fun vv ll hh yW bW F ivh aph => ?_)
    · have x0 := (bW.cell (p := ⟨w.heap.size, 0, none⟩) A.lt).trans a0
      have x1 := (bW.cell (p := ⟨w.heap.size, 1, none⟩) A.lt).trans a1
      have x2 := (bW.cell (p := ⟨w.heap.size, 2, none⟩) A.lt).trans a2
      have x3 := (bW.cell (p := ⟨w.heap.size, 3, none⟩) A.lt).trans a3
      have x4 := (bW.cell (p := ⟨w.heap.size, 4, none⟩) A.lt).trans a4
      have x5 := (bW.cell (p := ⟨w.heap.size, 5, none⟩) A.lt).trans a5
      have y0 := (bW.cell (p := ⟨w.heap.size + 1, 0, none⟩) R.lt).trans c0
      have y1 := (bW.cell (p := ⟨w.heap.size + 1, 1, none⟩) R.lt).trans c1
      have y2 := (bW.cell (p := ⟨w.heap.size + 1, 2, none⟩) R.lt).trans c2
      have y3 := (bW.cell (p := ⟨w.heap.size + 1, 3, none⟩) R.lt).trans c3
      refine ⟨tc (implDeeds _) (by kernel_rfl), tp (by kernel_rfl), tp ?_, tp (by kernel_rfl), tp ?_, tp ?_, tc (HC.out _) (by kernel_rfl), tp (by kernel_rfl), tp (by kernel_rfl), trivial⟩
      all_goals
        simp only [fillK, putT, List.setIfInBounds_toArray, List.set_cons_zero, List.set_cons_succ]
        unfold execOp
        try go_simp
        all_goals first | rfl | (refine wr64 ?_ ?_ <;> omega)
    clear F ivh aph
    obtain ⟨y, hy⟩ : ∃ z, z = yW := ⟨_, rfl⟩
    rw [← hy] at bW ⊢
    clear hy
    have K1 := Q.kept bW
    refine st_row (i := 9) (by kernel_rfl) rfl rfl rfl rfl (cells := [.int .i64 xb, .int .i64 xn, .int .i64 xf, .bool xt, .int .i64 xi, .int .i64 xo]) K1 (by kernel_rfl) (by kernel_rfl) rfl (by kernel_rfl) (by intro v hv; simp at hv; rcases hv with rfl | rfl | rfl | rfl | rfl | rfl <;> rfl) ?_
    refine st_set (i := 10) (by kernel_rfl) rfl rfl (v := .bool xok) (by kernel_rfl) ?_
    refine wpAny_done (by kernel_rfl) ?_ _
    simp only [fillK, putT, List.setIfInBounds_toArray, List.set_cons_zero, List.set_cons_succ]
    have A2 : Arr (y.setCells (w.heap.size + 2) 0 [.int .i64 xb, .int .i64 xn, .int .i64 xf, .bool xt, .int .i64 xi, .int .i64 xo]) (w.heap.size + 2) 35 [.int .i64 xb, .int .i64 xn, .int .i64 xf, .bool xt, .int .i64 xi, .int .i64 xo] := (((((K1.set 0 _).set 1 _).set 2 _).set 3 _).set 4 _).set 5 _
    have B2 : Below w.heap.size w (y.setCells (w.heap.size + 2) 0 [.int .i64 xb, .int .i64 xn, .int .i64 xf, .bool xt, .int .i64 xi, .int .i64 xo]) := bel_set6 (B.trans (bW.mono B.size)) (show w.heap.size ≤ w.heap.size + 2 by omega) _ _ _ _ _ _
    generalize y.setCells (w.heap.size + 2) 0 [.int .i64 xb, .int .i64 xn, .int .i64 xf, .bool xt, .int .i64 xi, .int .i64 xo] = Y at A2 B2 ⊢
    go_wp2
    exact bodyPost_ret (results_row_tmp (v := .bool xok) (t := 35) (cs := [.int .i64 xb, .int .i64 xn, .int .i64 xf, .bool xt, .int .i64 xi, .int .i64 xo]) rfl rfl rfl A2 Try.underlying35 rfl (by kernel_rfl)) rfl ⟨rfl, B2⟩
  · have a0 := A.cell 0
    have a1 := A.cell 1
    have a2 := A.cell 2
    have a3 := A.cell 3
    have a4 := A.cell 4
    have a5 := A.cell 5
    simp at a0 a1 a2 a3 a4 a5
    have c0 := R.cell 0
    have c1 := R.cell 1
    have c2 := R.cell 2
    have c3 := R.cell 3
    simp at c0 c1 c2 c3
    have HC : Hid (∀ yW : World, Calls Try.prog 82 #[btV b n f t i o, rcV 3 rb rn rf] yW fun e w' => e = .returned (.tuple #[btV xb xn xf xt xi xo, .bool xok]) ∧ Below yW.heap.size yW w') := by
      intro yW
      have e1 := HS.out
      unfold stT at e1
      simp only [reduceIte] at e1
      have := implCommitted b n f t i o 3 rb rn rf yW
      first | rw [e1] at this | skip
      exact this
    go_wp2
    try simp only [Act.put]
    refine tame [kc 15 (.agg F7.toArray), kc 16 (.pointer (some ⟨(w.heap.size + 1), 0, none⟩)), kc 17 (.int .i64 3), kc 18 (.func (.func 82) #[] #[]), kc 19 (.agg #[.int .i64 b, .int .i64 n, .int .i64 f, .bool t, .int .i64 i, .int .i64 o]), kc 20 (.agg #[.int .i64 3, .int .i64 rb, .int .i64 rn, .int .i64 rf]), kc 21 (.tuple #[btV xb xn xf xt xi xo, .bool xok]), kc 22 (.agg #[.int .i64 xb, .int .i64 xn, .int .i64 xf, .bool xt, .int .i64 xi, .int .i64 xo]), kc 23 (.bool xok)] 9 (by kernel_rfl) (by kernel_rfl) (by kernel_rfl) (by repeat' first | exact trivial | apply kc_keeps | constructor) 2 (by kernel_rfl) (fun vv ll hh yW bW => ?_) (fun vv ll hh yW bW F ivh aph => ?_)
    · have x0 := (bW.cell (p := ⟨w.heap.size, 0, none⟩) A.lt).trans a0
      have x1 := (bW.cell (p := ⟨w.heap.size, 1, none⟩) A.lt).trans a1
      have x2 := (bW.cell (p := ⟨w.heap.size, 2, none⟩) A.lt).trans a2
      have x3 := (bW.cell (p := ⟨w.heap.size, 3, none⟩) A.lt).trans a3
      have x4 := (bW.cell (p := ⟨w.heap.size, 4, none⟩) A.lt).trans a4
      have x5 := (bW.cell (p := ⟨w.heap.size, 5, none⟩) A.lt).trans a5
      have y0 := (bW.cell (p := ⟨w.heap.size + 1, 0, none⟩) R.lt).trans c0
      have y1 := (bW.cell (p := ⟨w.heap.size + 1, 1, none⟩) R.lt).trans c1
      have y2 := (bW.cell (p := ⟨w.heap.size + 1, 2, none⟩) R.lt).trans c2
      have y3 := (bW.cell (p := ⟨w.heap.size + 1, 3, none⟩) R.lt).trans c3
      refine ⟨tc (implDeeds _) (by kernel_rfl), tp (by kernel_rfl), tp ?_, tp (by kernel_rfl), tp ?_, tp ?_, tc (HC.out _) (by kernel_rfl), tp (by kernel_rfl), tp (by kernel_rfl), trivial⟩
      all_goals
        simp only [fillK, putT, List.setIfInBounds_toArray, List.set_cons_zero, List.set_cons_succ]
        unfold execOp
        try go_simp
        all_goals first | rfl | (refine wr64 ?_ ?_ <;> omega)
    clear F ivh aph
    obtain ⟨y, hy⟩ : ∃ z, z = yW := ⟨_, rfl⟩
    rw [← hy] at bW ⊢
    clear hy
    have K1 := Q.kept bW
    refine st_row (i := 9) (by kernel_rfl) rfl rfl rfl rfl (cells := [.int .i64 xb, .int .i64 xn, .int .i64 xf, .bool xt, .int .i64 xi, .int .i64 xo]) K1 (by kernel_rfl) (by kernel_rfl) rfl (by kernel_rfl) (by intro v hv; simp at hv; rcases hv with rfl | rfl | rfl | rfl | rfl | rfl <;> rfl) ?_
    refine st_set (i := 10) (by kernel_rfl) rfl rfl (v := .bool xok) (by kernel_rfl) ?_
    refine wpAny_done (by kernel_rfl) ?_ _
    simp only [fillK, putT, List.setIfInBounds_toArray, List.set_cons_zero, List.set_cons_succ]
    have A2 : Arr (y.setCells (w.heap.size + 2) 0 [.int .i64 xb, .int .i64 xn, .int .i64 xf, .bool xt, .int .i64 xi, .int .i64 xo]) (w.heap.size + 2) 35 [.int .i64 xb, .int .i64 xn, .int .i64 xf, .bool xt, .int .i64 xi, .int .i64 xo] := (((((K1.set 0 _).set 1 _).set 2 _).set 3 _).set 4 _).set 5 _
    have B2 : Below w.heap.size w (y.setCells (w.heap.size + 2) 0 [.int .i64 xb, .int .i64 xn, .int .i64 xf, .bool xt, .int .i64 xi, .int .i64 xo]) := bel_set6 (B.trans (bW.mono B.size)) (show w.heap.size ≤ w.heap.size + 2 by omega) _ _ _ _ _ _
    generalize y.setCells (w.heap.size + 2) 0 [.int .i64 xb, .int .i64 xn, .int .i64 xf, .bool xt, .int .i64 xi, .int .i64 xo] = Y at A2 B2 ⊢
    go_wp2
    exact bodyPost_ret (results_row_tmp (v := .bool xok) (t := 35) (cs := [.int .i64 xb, .int .i64 xn, .int .i64 xf, .bool xt, .int .i64 xi, .int .i64 xo]) rfl rfl rfl A2 Try.underlying35 rfl (by kernel_rfl)) rfl ⟨rfl, B2⟩
  · have a0 := A.cell 0
    have a1 := A.cell 1
    have a2 := A.cell 2
    have a3 := A.cell 3
    have a4 := A.cell 4
    have a5 := A.cell 5
    simp at a0 a1 a2 a3 a4 a5
    have c0 := R.cell 0
    have c1 := R.cell 1
    have c2 := R.cell 2
    have c3 := R.cell 3
    simp at c0 c1 c2 c3
    have HC : Hid (∀ yW : World, Calls Try.prog 83 #[btV b n f t i o, rcV 4 rb rn rf] yW fun e w' => e = .returned (.tuple #[btV xb xn xf xt xi xo, .bool xok]) ∧ Below yW.heap.size yW w') := by
      intro yW
      have e1 := HS.out
      unfold stT at e1
      simp only [reduceIte, show ¬ ((4 : Int) = 3) by omega] at e1
      have := implTried b n f t i o 4 rb rn rf yW hi
      first | rw [e1] at this | skip
      exact this
    go_wp2
    try simp only [Act.put]
    refine tame [kc 15 (.agg F7.toArray), kc 16 (.pointer (some ⟨(w.heap.size + 1), 0, none⟩)), kc 17 (.int .i64 4), kc 18 (.func (.func 83) #[] #[]), kc 19 (.agg #[.int .i64 b, .int .i64 n, .int .i64 f, .bool t, .int .i64 i, .int .i64 o]), kc 20 (.agg #[.int .i64 4, .int .i64 rb, .int .i64 rn, .int .i64 rf]), kc 21 (.tuple #[btV xb xn xf xt xi xo, .bool xok]), kc 22 (.agg #[.int .i64 xb, .int .i64 xn, .int .i64 xf, .bool xt, .int .i64 xi, .int .i64 xo]), kc 23 (.bool xok)] 9 (by kernel_rfl) (by kernel_rfl) (by kernel_rfl) (by repeat' first | exact trivial | apply kc_keeps | constructor) 2 (by kernel_rfl) (fun vv ll hh yW bW => ?_) (fun vv ll hh yW bW F ivh aph => ?_)
    · have x0 := (bW.cell (p := ⟨w.heap.size, 0, none⟩) A.lt).trans a0
      have x1 := (bW.cell (p := ⟨w.heap.size, 1, none⟩) A.lt).trans a1
      have x2 := (bW.cell (p := ⟨w.heap.size, 2, none⟩) A.lt).trans a2
      have x3 := (bW.cell (p := ⟨w.heap.size, 3, none⟩) A.lt).trans a3
      have x4 := (bW.cell (p := ⟨w.heap.size, 4, none⟩) A.lt).trans a4
      have x5 := (bW.cell (p := ⟨w.heap.size, 5, none⟩) A.lt).trans a5
      have y0 := (bW.cell (p := ⟨w.heap.size + 1, 0, none⟩) R.lt).trans c0
      have y1 := (bW.cell (p := ⟨w.heap.size + 1, 1, none⟩) R.lt).trans c1
      have y2 := (bW.cell (p := ⟨w.heap.size + 1, 2, none⟩) R.lt).trans c2
      have y3 := (bW.cell (p := ⟨w.heap.size + 1, 3, none⟩) R.lt).trans c3
      refine ⟨tc (implDeeds _) (by kernel_rfl), tp (by kernel_rfl), tp ?_, tp (by kernel_rfl), tp ?_, tp ?_, tc (HC.out _) (by kernel_rfl), tp (by kernel_rfl), tp (by kernel_rfl), trivial⟩
      all_goals
        simp only [fillK, putT, List.setIfInBounds_toArray, List.set_cons_zero, List.set_cons_succ]
        unfold execOp
        try go_simp
        all_goals first | rfl | (refine wr64 ?_ ?_ <;> omega)
    clear F ivh aph
    obtain ⟨y, hy⟩ : ∃ z, z = yW := ⟨_, rfl⟩
    rw [← hy] at bW ⊢
    clear hy
    have K1 := Q.kept bW
    refine st_row (i := 9) (by kernel_rfl) rfl rfl rfl rfl (cells := [.int .i64 xb, .int .i64 xn, .int .i64 xf, .bool xt, .int .i64 xi, .int .i64 xo]) K1 (by kernel_rfl) (by kernel_rfl) rfl (by kernel_rfl) (by intro v hv; simp at hv; rcases hv with rfl | rfl | rfl | rfl | rfl | rfl <;> rfl) ?_
    refine st_set (i := 10) (by kernel_rfl) rfl rfl (v := .bool xok) (by kernel_rfl) ?_
    refine wpAny_done (by kernel_rfl) ?_ _
    simp only [fillK, putT, List.setIfInBounds_toArray, List.set_cons_zero, List.set_cons_succ]
    have A2 : Arr (y.setCells (w.heap.size + 2) 0 [.int .i64 xb, .int .i64 xn, .int .i64 xf, .bool xt, .int .i64 xi, .int .i64 xo]) (w.heap.size + 2) 35 [.int .i64 xb, .int .i64 xn, .int .i64 xf, .bool xt, .int .i64 xi, .int .i64 xo] := (((((K1.set 0 _).set 1 _).set 2 _).set 3 _).set 4 _).set 5 _
    have B2 : Below w.heap.size w (y.setCells (w.heap.size + 2) 0 [.int .i64 xb, .int .i64 xn, .int .i64 xf, .bool xt, .int .i64 xi, .int .i64 xo]) := bel_set6 (B.trans (bW.mono B.size)) (show w.heap.size ≤ w.heap.size + 2 by omega) _ _ _ _ _ _
    generalize y.setCells (w.heap.size + 2) 0 [.int .i64 xb, .int .i64 xn, .int .i64 xf, .bool xt, .int .i64 xi, .int .i64 xo] = Y at A2 B2 ⊢
    go_wp2
    exact bodyPost_ret (results_row_tmp (v := .bool xok) (t := 35) (cs := [.int .i64 xb, .int .i64 xn, .int .i64 xf, .bool xt, .int .i64 xi, .int .i64 xo]) rfl rfl rfl A2 Try.underlying35 rfl (by kernel_rfl)) rfl ⟨rfl, B2⟩
  · have a0 := A.cell 0
    have a1 := A.cell 1
    have a2 := A.cell 2
    have a3 := A.cell 3
    have a4 := A.cell 4
    have a5 := A.cell 5
    simp at a0 a1 a2 a3 a4 a5
    have c0 := R.cell 0
    have c1 := R.cell 1
    have c2 := R.cell 2
    have c3 := R.cell 3
    simp at c0 c1 c2 c3
    have HC : Hid (∀ yW : World, Calls Try.prog 84 #[btV b n f t i o, rcV 5 rb rn rf] yW fun e w' => e = .returned (.tuple #[btV xb xn xf xt xi xo, .bool xok]) ∧ Below yW.heap.size yW w') := by
      intro yW
      have e1 := HS.out
      unfold stT at e1
      simp only [reduceIte, show ¬ ((5 : Int) = 3) by omega, show ¬ ((5 : Int) = 4) by omega] at e1
      have := implConfirmed b n f t i o 5 rb rn rf yW
      first | rw [e1] at this | skip
      exact this
    go_wp2
    try simp only [Act.put]
    refine tame [kc 15 (.agg F7.toArray), kc 16 (.pointer (some ⟨(w.heap.size + 1), 0, none⟩)), kc 17 (.int .i64 5), kc 18 (.func (.func 84) #[] #[]), kc 19 (.agg #[.int .i64 b, .int .i64 n, .int .i64 f, .bool t, .int .i64 i, .int .i64 o]), kc 20 (.agg #[.int .i64 5, .int .i64 rb, .int .i64 rn, .int .i64 rf]), kc 21 (.tuple #[btV xb xn xf xt xi xo, .bool xok]), kc 22 (.agg #[.int .i64 xb, .int .i64 xn, .int .i64 xf, .bool xt, .int .i64 xi, .int .i64 xo]), kc 23 (.bool xok)] 9 (by kernel_rfl) (by kernel_rfl) (by kernel_rfl) (by repeat' first | exact trivial | apply kc_keeps | constructor) 2 (by kernel_rfl) (fun vv ll hh yW bW => ?_) (fun vv ll hh yW bW F ivh aph => ?_)
    · have x0 := (bW.cell (p := ⟨w.heap.size, 0, none⟩) A.lt).trans a0
      have x1 := (bW.cell (p := ⟨w.heap.size, 1, none⟩) A.lt).trans a1
      have x2 := (bW.cell (p := ⟨w.heap.size, 2, none⟩) A.lt).trans a2
      have x3 := (bW.cell (p := ⟨w.heap.size, 3, none⟩) A.lt).trans a3
      have x4 := (bW.cell (p := ⟨w.heap.size, 4, none⟩) A.lt).trans a4
      have x5 := (bW.cell (p := ⟨w.heap.size, 5, none⟩) A.lt).trans a5
      have y0 := (bW.cell (p := ⟨w.heap.size + 1, 0, none⟩) R.lt).trans c0
      have y1 := (bW.cell (p := ⟨w.heap.size + 1, 1, none⟩) R.lt).trans c1
      have y2 := (bW.cell (p := ⟨w.heap.size + 1, 2, none⟩) R.lt).trans c2
      have y3 := (bW.cell (p := ⟨w.heap.size + 1, 3, none⟩) R.lt).trans c3
      refine ⟨tc (implDeeds _) (by kernel_rfl), tp (by kernel_rfl), tp ?_, tp (by kernel_rfl), tp ?_, tp ?_, tc (HC.out _) (by kernel_rfl), tp (by kernel_rfl), tp (by kernel_rfl), trivial⟩
      all_goals
        simp only [fillK, putT, List.setIfInBounds_toArray, List.set_cons_zero, List.set_cons_succ]
        unfold execOp
        try go_simp
        all_goals first | rfl | (refine wr64 ?_ ?_ <;> omega)
    clear F ivh aph
    obtain ⟨y, hy⟩ : ∃ z, z = yW := ⟨_, rfl⟩
    rw [← hy] at bW ⊢
    clear hy
    have K1 := Q.kept bW
    refine st_row (i := 9) (by kernel_rfl) rfl rfl rfl rfl (cells := [.int .i64 xb, .int .i64 xn, .int .i64 xf, .bool xt, .int .i64 xi, .int .i64 xo]) K1 (by kernel_rfl) (by kernel_rfl) rfl (by kernel_rfl) (by intro v hv; simp at hv; rcases hv with rfl | rfl | rfl | rfl | rfl | rfl <;> rfl) ?_
    refine st_set (i := 10) (by kernel_rfl) rfl rfl (v := .bool xok) (by kernel_rfl) ?_
    refine wpAny_done (by kernel_rfl) ?_ _
    simp only [fillK, putT, List.setIfInBounds_toArray, List.set_cons_zero, List.set_cons_succ]
    have A2 : Arr (y.setCells (w.heap.size + 2) 0 [.int .i64 xb, .int .i64 xn, .int .i64 xf, .bool xt, .int .i64 xi, .int .i64 xo]) (w.heap.size + 2) 35 [.int .i64 xb, .int .i64 xn, .int .i64 xf, .bool xt, .int .i64 xi, .int .i64 xo] := (((((K1.set 0 _).set 1 _).set 2 _).set 3 _).set 4 _).set 5 _
    have B2 : Below w.heap.size w (y.setCells (w.heap.size + 2) 0 [.int .i64 xb, .int .i64 xn, .int .i64 xf, .bool xt, .int .i64 xi, .int .i64 xo]) := bel_set6 (B.trans (bW.mono B.size)) (show w.heap.size ≤ w.heap.size + 2 by omega) _ _ _ _ _ _
    generalize y.setCells (w.heap.size + 2) 0 [.int .i64 xb, .int .i64 xn, .int .i64 xf, .bool xt, .int .i64 xi, .int .i64 xo] = Y at A2 B2 ⊢
    go_wp2
    exact bodyPost_ret (results_row_tmp (v := .bool xok) (t := 35) (cs := [.int .i64 xb, .int .i64 xn, .int .i64 xf, .bool xt, .int .i64 xi, .int .i64 xo]) rfl rfl rfl A2 Try.underlying35 rfl (by kernel_rfl)) rfl ⟨rfl, B2⟩
  · have a0 := A.cell 0
    have a1 := A.cell 1
    have a2 := A.cell 2
    have a3 := A.cell 3
    have a4 := A.cell 4
    have a5 := A.cell 5
    simp at a0 a1 a2 a3 a4 a5
    have c0 := R.cell 0
    have c1 := R.cell 1
    have c2 := R.cell 2
    have c3 := R.cell 3
    simp at c0 c1 c2 c3
    have HC : Hid (∀ yW : World, Calls Try.prog 85 #[btV b n f t i o, rcV 6 rb rn rf] yW fun e w' => e = .returned (.tuple #[btV xb xn xf xt xi xo, .bool xok]) ∧ Below yW.heap.size yW w') := by
      intro yW
      have e1 := HS.out
      unfold stT at e1
      simp only [reduceIte, show ¬ ((6 : Int) = 3) by omega, show ¬ ((6 : Int) = 4) by omega, show ¬ ((6 : Int) = 5) by omega] at e1
      have := implBack b n f t i o 6 rb rn rf yW hb
      first | rw [e1] at this | skip
      exact this
    go_wp2
    try simp only [Act.put]
    refine tame [kc 15 (.agg F7.toArray), kc 16 (.pointer (some ⟨(w.heap.size + 1), 0, none⟩)), kc 17 (.int .i64 6), kc 18 (.func (.func 85) #[] #[]), kc 19 (.agg #[.int .i64 b, .int .i64 n, .int .i64 f, .bool t, .int .i64 i, .int .i64 o]), kc 20 (.agg #[.int .i64 6, .int .i64 rb, .int .i64 rn, .int .i64 rf]), kc 21 (.tuple #[btV xb xn xf xt xi xo, .bool xok]), kc 22 (.agg #[.int .i64 xb, .int .i64 xn, .int .i64 xf, .bool xt, .int .i64 xi, .int .i64 xo]), kc 23 (.bool xok)] 9 (by kernel_rfl) (by kernel_rfl) (by kernel_rfl) (by repeat' first | exact trivial | apply kc_keeps | constructor) 2 (by kernel_rfl) (fun vv ll hh yW bW => ?_) (fun vv ll hh yW bW F ivh aph => ?_)
    · have x0 := (bW.cell (p := ⟨w.heap.size, 0, none⟩) A.lt).trans a0
      have x1 := (bW.cell (p := ⟨w.heap.size, 1, none⟩) A.lt).trans a1
      have x2 := (bW.cell (p := ⟨w.heap.size, 2, none⟩) A.lt).trans a2
      have x3 := (bW.cell (p := ⟨w.heap.size, 3, none⟩) A.lt).trans a3
      have x4 := (bW.cell (p := ⟨w.heap.size, 4, none⟩) A.lt).trans a4
      have x5 := (bW.cell (p := ⟨w.heap.size, 5, none⟩) A.lt).trans a5
      have y0 := (bW.cell (p := ⟨w.heap.size + 1, 0, none⟩) R.lt).trans c0
      have y1 := (bW.cell (p := ⟨w.heap.size + 1, 1, none⟩) R.lt).trans c1
      have y2 := (bW.cell (p := ⟨w.heap.size + 1, 2, none⟩) R.lt).trans c2
      have y3 := (bW.cell (p := ⟨w.heap.size + 1, 3, none⟩) R.lt).trans c3
      refine ⟨tc (implDeeds _) (by kernel_rfl), tp (by kernel_rfl), tp ?_, tp (by kernel_rfl), tp ?_, tp ?_, tc (HC.out _) (by kernel_rfl), tp (by kernel_rfl), tp (by kernel_rfl), trivial⟩
      all_goals
        simp only [fillK, putT, List.setIfInBounds_toArray, List.set_cons_zero, List.set_cons_succ]
        unfold execOp
        try go_simp
        all_goals first | rfl | (refine wr64 ?_ ?_ <;> omega)
    clear F ivh aph
    obtain ⟨y, hy⟩ : ∃ z, z = yW := ⟨_, rfl⟩
    rw [← hy] at bW ⊢
    clear hy
    have K1 := Q.kept bW
    refine st_row (i := 9) (by kernel_rfl) rfl rfl rfl rfl (cells := [.int .i64 xb, .int .i64 xn, .int .i64 xf, .bool xt, .int .i64 xi, .int .i64 xo]) K1 (by kernel_rfl) (by kernel_rfl) rfl (by kernel_rfl) (by intro v hv; simp at hv; rcases hv with rfl | rfl | rfl | rfl | rfl | rfl <;> rfl) ?_
    refine st_set (i := 10) (by kernel_rfl) rfl rfl (v := .bool xok) (by kernel_rfl) ?_
    refine wpAny_done (by kernel_rfl) ?_ _
    simp only [fillK, putT, List.setIfInBounds_toArray, List.set_cons_zero, List.set_cons_succ]
    have A2 : Arr (y.setCells (w.heap.size + 2) 0 [.int .i64 xb, .int .i64 xn, .int .i64 xf, .bool xt, .int .i64 xi, .int .i64 xo]) (w.heap.size + 2) 35 [.int .i64 xb, .int .i64 xn, .int .i64 xf, .bool xt, .int .i64 xi, .int .i64 xo] := (((((K1.set 0 _).set 1 _).set 2 _).set 3 _).set 4 _).set 5 _
    have B2 : Below w.heap.size w (y.setCells (w.heap.size + 2) 0 [.int .i64 xb, .int .i64 xn, .int .i64 xf, .bool xt, .int .i64 xi, .int .i64 xo]) := bel_set6 (B.trans (bW.mono B.size)) (show w.heap.size ≤ w.heap.size + 2 by omega) _ _ _ _ _ _
    generalize y.setCells (w.heap.size + 2) 0 [.int .i64 xb, .int .i64 xn, .int .i64 xf, .bool xt, .int .i64 xi, .int .i64 xo] = Y at A2 B2 ⊢
    go_wp2
    exact bodyPost_ret (results_row_tmp (v := .bool xok) (t := 35) (cs := [.int .i64 xb, .int .i64 xn, .int .i64 xf, .bool xt, .int .i64 xi, .int .i64 xo]) rfl rfl rfl A2 Try.underlying35 rfl (by kernel_rfl)) rfl ⟨rfl, B2⟩
end Go.Proofs.Ytjceajgefpinpaa
