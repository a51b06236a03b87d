/-
  What is proved here: what the specification's l10step leaves of a state.
-/
import Derived.Test.YtjceajgefpinpaaJN2
import Derived.Test.YtjceajgefpinpaaJN7
import Derived.Test.YtjceajgefpinpaaJN12
import Derived.Test.YtjceajgefpinpaaJN11
namespace Go.Proofs.Ytjceajgefpinpaa
open Go.RowKit
set_option maxRecDepth 100000
set_option maxHeartbeats 4000000
set_option linter.unusedVariables false

theorem set6 {W : World} {g : Nat} {t : TypeId} {a b c d e f : Value} (h : Arr W g t [a, b, c, d, e, f]) (a' b' c' d' e' f' : Value) :
    Arr ((((((W.setCell ⟨g, 0, none⟩ a').setCell ⟨g, 1, none⟩ b').setCell ⟨g, 2, none⟩ c').setCell ⟨g, 3, none⟩ d').setCell ⟨g, 4, none⟩ e').setCell ⟨g, 5, none⟩ f') g t [a', b', c', d', e', f'] := (((((h.set 0 a').set 1 b').set 2 c').set 3 d').set 4 e').set 5 f'
theorem bel_set6 {w W : World} {B g : Nat} (h : Below B w W) (hg : B ≤ g) (a b c d e f : Value) : Below B w ((((((W.setCell ⟨g, 0, none⟩ a).setCell ⟨g, 1, none⟩ b).setCell ⟨g, 2, none⟩ c).setCell ⟨g, 3, none⟩ d).setCell ⟨g, 4, none⟩ e).setCell ⟨g, 5, none⟩ f) :=
  (((((h.setCell hg _).setCell hg _).setCell hg _).setCell hg _).setCell hg _).setCell hg _
theorem Chg.set {W W' : World} {a b g : Nat} (h : Chg W W' a b) (ha : a ≤ g) (hb : g < b) (j : Nat) (v : Value) : Chg W (W'.setCell ⟨g, j, none⟩ v) a b :=
  ⟨h.os, h.tape, h.output, by simpa using h.size, fun i hi hj => (heap_setCell_other W' ⟨g, j, none⟩ i v (by simp; omega)).trans (h.block i hi hj)⟩
theorem Chg.wide {W W' : World} {a : Nat} (h : Chg W W' a a) (a' b' : Nat) : Chg W W' a' b' := ⟨h.os, h.tape, h.output, h.size, fun i hi _ => h.block i hi (by omega)⟩
theorem Chg.andB {W W' W2 : World} {a b : Nat} (h : Chg W W' a b) (hb : Below W'.heap.size W' W2) : Chg W W2 a b :=
  ⟨hb.os.trans h.os, hb.tape.trans h.tape, hb.output.trans h.output, Nat.le_trans h.size hb.size, fun i hi hj => (hb.block i (Nat.lt_of_lt_of_le hi h.size)).trans (h.block i hi hj)⟩
theorem chg_set6 {w W : World} {a b g : Nat} (h : Chg w W a b) (ha : a ≤ g) (hb : g < b) (v1 v2 v3 v4 v5 v6 : Value) : Chg w ((((((W.setCell ⟨g, 0, none⟩ v1).setCell ⟨g, 1, none⟩ v2).setCell ⟨g, 2, none⟩ v3).setCell ⟨g, 3, none⟩ v4).setCell ⟨g, 4, none⟩ v5).setCell ⟨g, 5, none⟩ v6) a b :=
  (((((h.set ha hb 0 _).set ha hb 1 _).set ha hb 2 _).set ha hb 3 _).set ha hb 4 _).set ha hb 5 _

theorem specL10step (g : Nat) (b n f : Int) (t : Bool) (i o k rb rn rf : Int) (w : World) (A : Arr w g 35 [.int .i64 b, .int .i64 n, .int .i64 f, .bool t, .int .i64 i, .int .i64 o]) (hb : 0 ≤ b ∧ b ≤ 1) (hi : 0 ≤ i ∧ i ≤ 3) :
    Calls Try.prog 68 #[.pointer (some ⟨g, 0, none⟩), rcV k rb rn rf] w fun e w' => e = .returned (.bool (stT ⟨b, n, f, t, i, o⟩ ⟨k, rb, rn, rf⟩).2) ∧ Arr w' g 35 (btC (stT ⟨b, n, f, t, i, o⟩ ⟨k, rb, rn, rf⟩).1) ∧ Chg w w' g (g + 1) := by
  obtain ⟨S, hS⟩ : ∃ S, stT ⟨b, n, f, t, i, o⟩ ⟨k, rb, rn, rf⟩ = S := ⟨_, rfl⟩
  rw [hS]
  unfold stT at hS
  dsimp only at hS
  obtain ⟨W, hW⟩ : ∃ W, W = w.alloc (.cells #[.int .i64 k, .int .i64 rb, .int .i64 rn, .int .i64 rf] 29) := ⟨_, rfl⟩
  have B : Chg w W g (g + 1) := by rw [hW]; exact (Chg.alloc _ _ 0).wide _ _
  have R : Arr W w.heap.size 29 [.int .i64 k, .int .i64 rb, .int .i64 rn, .int .i64 rf] := by rw [hW]; exact Arr.new _ _ _
  have gw := A.lt
  have A' : Arr W g 35 [.int .i64 b, .int .i64 n, .int .i64 f, .bool t, .int .i64 i, .int .i64 o] := by rw [hW]; exact A.alloc _
  replace A := A'
  clear A'
  go_enter Try.func68, Try.ntmps68
  go_upto_region 1 with fail
  rw [← hW]
  clear hW
  by_cases k3 : k = 3
  · subst k3
    rw [if_pos rfl] at hS
    cases t
    · by_cases hbb : rb = b
      · have hbb' : (rb == b) = true := by simpa using hbb
        have HS : Hid _ := (if_pos (.inr hbb)).symm.trans hS
        clear hS hbb
        have c0 := R.cell 0
        have c1 := R.cell 1
        have c2 := R.cell 2
        have c3 := R.cell 3
        have s0 := A.cell 0
        have s1 := A.cell 1
        have s2 := A.cell 2
        have s3 := A.cell 3
        have s4 := A.cell 4
        have s5 := A.cell 5
        simp at c0 c1 c2 c3 s0 s1 s2 s3 s4 s5
        go_wp2
        go_quiet (fail)
        have hq := bel_drewN W nq
        replace R := R.kept hq
        replace A := A.kept hq
        have gq : g < (W.drewN nq).heap.size := A.lt
        replace B := B.andB hq
        generalize W.drewN nq = W2 at A B R gq ⊢
        clear hq c0 c1 c2 c3 s0 s1 s2 s3 s4 s5
        have c0 := R.cell 0
        have c1 := R.cell 1
        have c2 := R.cell 2
        have c3 := R.cell 3
        have s0 := A.cell 0
        have s1 := A.cell 1
        have s2 := A.cell 2
        have s3 := A.cell 3
        have s4 := A.cell 4
        have s5 := A.cell 5
        simp at c0 c1 c2 c3 s0 s1 s2 s3 s4 s5
        go_wp2
        go_ret
        rw [← HS.out]
        exact ⟨rfl, A, B⟩
      · have hbb' : (rb == b) = false := by simpa using hbb
        have HS : Hid _ := (if_neg (show ¬ (false = true ∨ rb = b) by simpa using hbb)).symm.trans hS
        clear hS hbb
        have c0 := R.cell 0
        have c1 := R.cell 1
        have c2 := R.cell 2
        have c3 := R.cell 3
        have s0 := A.cell 0
        have s1 := A.cell 1
        have s2 := A.cell 2
        have s3 := A.cell 3
        have s4 := A.cell 4
        have s5 := A.cell 5
        simp at c0 c1 c2 c3 s0 s1 s2 s3 s4 s5
        go_wp2
        go_quiet (fail)
        have hq := bel_drewN W nq
        replace R := R.kept hq
        replace A := A.kept hq
        have gq : g < (W.drewN nq).heap.size := A.lt
        replace B := B.andB hq
        generalize W.drewN nq = W2 at A B R gq ⊢
        clear hq c0 c1 c2 c3 s0 s1 s2 s3 s4 s5
        have c0 := R.cell 0
        have c1 := R.cell 1
        have c2 := R.cell 2
        have c3 := R.cell 3
        have s0 := A.cell 0
        have s1 := A.cell 1
        have s2 := A.cell 2
        have s3 := A.cell 3
        have s4 := A.cell 4
        have s5 := A.cell 5
        simp at c0 c1 c2 c3 s0 s1 s2 s3 s4 s5
        go_wp2
        try simp only [Act.put]
        refine tame [kc 23 (.pointer (some ⟨g, 0, none⟩)), kc 24 (.pointer (some ⟨w.heap.size, 1, none⟩)), kc 25 (.int .i64 rb), kc 26 (.pointer (some ⟨w.heap.size, 2, none⟩)), kc 27 (.int .i64 rn), kc 28 (.pointer (some ⟨g, 0, none⟩)), kc 29 (.pointer (some ⟨g, 0, none⟩)), kc 30 (.pointer (some ⟨g, 2, none⟩)), kc 31 (.int .i64 f), kc 32 (.pointer (some ⟨g, 0, none⟩)), kc 33 (.pointer (some ⟨g, 0, none⟩)), kc 34 (.pointer (some ⟨g, 1, none⟩)), kc 35 (.int .i64 n), kc 36 (.agg #[.int .i64 rb, .int .i64 rn, .int .i64 f, .bool true, .int .i64 0, .int .i64 n]), kc 37 (.pointer (some ⟨g, 0, none⟩))] 15 (by kernel_rfl) (by kernel_rfl) (by kernel_rfl) (by repeat' first | exact trivial | apply kc_keeps | constructor) 1 (by kernel_rfl) (fun vv ll hh yW bW => ?_) (fun vv ll hh yW bW F ivh aph => ?_)
        · have x0 := (bW.cell (p := ⟨g, 0, none⟩) A.lt).trans s0
          have x1 := (bW.cell (p := ⟨g, 1, none⟩) A.lt).trans s1
          have x2 := (bW.cell (p := ⟨g, 2, none⟩) A.lt).trans s2
          have x3 := (bW.cell (p := ⟨g, 3, none⟩) A.lt).trans s3
          have x4 := (bW.cell (p := ⟨g, 4, none⟩) A.lt).trans s4
          have x5 := (bW.cell (p := ⟨g, 5, none⟩) A.lt).trans s5
          have y0 := (bW.cell (p := ⟨w.heap.size, 0, none⟩) R.lt).trans c0
          have y1 := (bW.cell (p := ⟨w.heap.size, 1, none⟩) R.lt).trans c1
          have y2 := (bW.cell (p := ⟨w.heap.size, 2, none⟩) R.lt).trans c2
          have y3 := (bW.cell (p := ⟨w.heap.size, 3, none⟩) R.lt).trans c3
          refine ⟨tp (by kernel_rfl), tp (by kernel_rfl), tp ?_, tp (by kernel_rfl), tp ?_, tp (by kernel_rfl), tp (by kernel_rfl), tp (by kernel_rfl), tp ?_, tp (by kernel_rfl), tp (by kernel_rfl), tp (by kernel_rfl), tp ?_, tp (by kernel_rfl), tp (by kernel_rfl), trivial⟩
          all_goals
            simp only [fillK, putT, List.setIfInBounds_toArray, List.set_cons_zero, List.set_cons_succ]
            unfold execOp
            try go_simp
            all_goals first | rfl | (refine wr64 ?_ ?_ <;> omega)
        clear F ivh aph
        obtain ⟨y, hy⟩ : ∃ z, z = yW := ⟨_, rfl⟩
        rw [← hy] at bW ⊢
        clear hy
        have K1 := A.kept bW
        refine st_row (i := 15) (by kernel_rfl) rfl rfl rfl rfl (cells := [.int .i64 rb, .int .i64 rn, .int .i64 f, .bool true, .int .i64 0, .int .i64 n]) K1 (by kernel_rfl) (by kernel_rfl) rfl (by kernel_rfl) (by intro v hv; simp at hv; rcases hv with rfl | rfl | rfl | rfl | rfl | rfl <;> rfl) ?_
        refine wpAny_done (by kernel_rfl) ?_ _
        simp only [fillK, putT, List.setIfInBounds_toArray, List.set_cons_zero, List.set_cons_succ]
        have A2 : Arr (y.setCells g 0 [.int .i64 rb, .int .i64 rn, .int .i64 f, .bool true, .int .i64 0, .int .i64 n]) g 35 [.int .i64 rb, .int .i64 rn, .int .i64 f, .bool true, .int .i64 0, .int .i64 n] := (((((K1.set 0 _).set 1 _).set 2 _).set 3 _).set 4 _).set 5 _
        have B2 : Chg w (y.setCells g 0 [.int .i64 rb, .int .i64 rn, .int .i64 f, .bool true, .int .i64 0, .int .i64 n]) g (g + 1) := chg_set6 (B.andB bW) (Nat.le_refl _) (by omega) _ _ _ _ _ _
        generalize y.setCells g 0 [.int .i64 rb, .int .i64 rn, .int .i64 f, .bool true, .int .i64 0, .int .i64 n] = Y at A2 B2 ⊢
        clear K1 bW A B R c0 c1 c2 c3 s0 s1 s2 s3 s4 s5
        go_wp2
        go_ret
        rw [← HS.out]
        exact ⟨rfl, A2, B2⟩
    · have HS : Hid _ := (if_pos (.inl rfl)).symm.trans hS
      clear hS
      have c0 := R.cell 0
      have c1 := R.cell 1
      have c2 := R.cell 2
      have c3 := R.cell 3
      have s0 := A.cell 0
      have s1 := A.cell 1
      have s2 := A.cell 2
      have s3 := A.cell 3
      have s4 := A.cell 4
      have s5 := A.cell 5
      simp at c0 c1 c2 c3 s0 s1 s2 s3 s4 s5
      go_wp2
      go_quiet (fail)
      have hq := bel_drewN W nq
      replace R := R.kept hq
      replace A := A.kept hq
      have gq : g < (W.drewN nq).heap.size := A.lt
      replace B := B.andB hq
      generalize W.drewN nq = W2 at A B R gq ⊢
      clear hq c0 c1 c2 c3 s0 s1 s2 s3 s4 s5
      have c0 := R.cell 0
      have c1 := R.cell 1
      have c2 := R.cell 2
      have c3 := R.cell 3
      have s0 := A.cell 0
      have s1 := A.cell 1
      have s2 := A.cell 2
      have s3 := A.cell 3
      have s4 := A.cell 4
      have s5 := A.cell 5
      simp at c0 c1 c2 c3 s0 s1 s2 s3 s4 s5
      go_wp2
      go_ret
      rw [← HS.out]
      exact ⟨rfl, A, B⟩
  rw [if_neg k3] at hS
  have k3' : (k == 3) = false := by simpa using k3
  clear k3
  by_cases k4 : k = 4
  · subst k4
    rw [if_pos rfl] at hS
    cases t
    · have HS : Hid _ := (if_pos (.inl rfl)).symm.trans hS
      clear hS
      have c0 := R.cell 0
      have c1 := R.cell 1
      have c2 := R.cell 2
      have c3 := R.cell 3
      have s0 := A.cell 0
      have s1 := A.cell 1
      have s2 := A.cell 2
      have s3 := A.cell 3
      have s4 := A.cell 4
      have s5 := A.cell 5
      simp at c0 c1 c2 c3 s0 s1 s2 s3 s4 s5
      go_wp2
      go_ret
      rw [← HS.out]
      exact ⟨rfl, A, B⟩
    · by_cases h3 : 3 ≤ i
      · have HS : Hid _ := (if_pos (.inr h3)).symm.trans hS
        clear hS
        have c0 := R.cell 0
        have c1 := R.cell 1
        have c2 := R.cell 2
        have c3 := R.cell 3
        have s0 := A.cell 0
        have s1 := A.cell 1
        have s2 := A.cell 2
        have s3 := A.cell 3
        have s4 := A.cell 4
        have s5 := A.cell 5
        simp at c0 c1 c2 c3 s0 s1 s2 s3 s4 s5
        go_wp2
        go_ret
        rw [← HS.out]
        exact ⟨rfl, A, B⟩
      · have HS : Hid _ := (if_neg (show ¬ (true = false ∨ 3 ≤ i) by simpa using h3)).symm.trans hS
        clear hS
        have c0 := R.cell 0
        have c1 := R.cell 1
        have c2 := R.cell 2
        have c3 := R.cell 3
        have s0 := A.cell 0
        have s1 := A.cell 1
        have s2 := A.cell 2
        have s3 := A.cell 3
        have s4 := A.cell 4
        have s5 := A.cell 5
        simp at c0 c1 c2 c3 s0 s1 s2 s3 s4 s5
        have fR := A.frozen
        have lR := A.lt
        have HA : Hid _ := A.set 4 (.int .i64 (i + 1))
        have HB : Hid _ := B.set (Nat.le_refl g) (by omega) 4 (.int .i64 (i + 1))
        have hw : IntKind.i64.wrap (i + 1) = i + 1 := wr64 (by omega) (by omega)
        clear A B
        go_wp2
        go_ret
        rw [← HS.out]
        exact ⟨rfl, HA.out, HB.out⟩
  rw [if_neg k4] at hS
  have k4' : (k == 4) = false := by simpa using k4
  clear k4
  by_cases k5 : k = 5
  · subst k5
    rw [if_pos rfl] at hS
    cases t
    · have HS : Hid _ := (if_pos rfl).symm.trans hS
      clear hS
      have c0 := R.cell 0
      have c1 := R.cell 1
      have c2 := R.cell 2
      have c3 := R.cell 3
      have s0 := A.cell 0
      have s1 := A.cell 1
      have s2 := A.cell 2
      have s3 := A.cell 3
      have s4 := A.cell 4
      have s5 := A.cell 5
      simp at c0 c1 c2 c3 s0 s1 s2 s3 s4 s5
      go_wp2
      go_ret
      rw [← HS.out]
      exact ⟨rfl, A, B⟩
    · have HS0 := (if_neg (show ¬ (true = false) by simp)).symm.trans hS
      clear hS
      by_cases hf : f < rf
      · rw [show max f rf = rf by omega] at HS0
        have HS : Hid _ := HS0
        clear HS0
        have c0 := R.cell 0
        have c1 := R.cell 1
        have c2 := R.cell 2
        have c3 := R.cell 3
        have s0 := A.cell 0
        have s1 := A.cell 1
        have s2 := A.cell 2
        have s3 := A.cell 3
        have s4 := A.cell 4
        have s5 := A.cell 5
        simp at c0 c1 c2 c3 s0 s1 s2 s3 s4 s5
        go_wp2
        try simp only [Act.put]
        refine tame [kc 76 (.pointer (some ⟨g, 0, none⟩)), kc 77 (.pointer (some ⟨g, 0, none⟩)), kc 78 (.pointer (some ⟨g, 0, none⟩)), kc 79 (.pointer (some ⟨g, 0, none⟩)), kc 80 (.int .i64 b), kc 81 (.pointer (some ⟨g, 0, none⟩)), kc 82 (.pointer (some ⟨g, 0, none⟩)), kc 83 (.pointer (some ⟨g, 1, none⟩)), kc 84 (.int .i64 n), kc 85 (.int .i64 rf), kc 86 (.agg #[.int .i64 b, .int .i64 n, .int .i64 rf, .bool false, .int .i64 0, .int .i64 0]), kc 87 (.pointer (some ⟨g, 0, none⟩))] 12 (by kernel_rfl) (by kernel_rfl) (by kernel_rfl) (by repeat' first | exact trivial | apply kc_keeps | constructor) 1 (by kernel_rfl) (fun vv ll hh yW bW => ?_) (fun vv ll hh yW bW F ivh aph => ?_)
        · have x0 := (bW.cell (p := ⟨g, 0, none⟩) A.lt).trans s0
          have x1 := (bW.cell (p := ⟨g, 1, none⟩) A.lt).trans s1
          have x2 := (bW.cell (p := ⟨g, 2, none⟩) A.lt).trans s2
          have x3 := (bW.cell (p := ⟨g, 3, none⟩) A.lt).trans s3
          have x4 := (bW.cell (p := ⟨g, 4, none⟩) A.lt).trans s4
          have x5 := (bW.cell (p := ⟨g, 5, none⟩) A.lt).trans s5
          have y0 := (bW.cell (p := ⟨w.heap.size, 0, none⟩) R.lt).trans c0
          have y1 := (bW.cell (p := ⟨w.heap.size, 1, none⟩) R.lt).trans c1
          have y2 := (bW.cell (p := ⟨w.heap.size, 2, none⟩) R.lt).trans c2
          have y3 := (bW.cell (p := ⟨w.heap.size, 3, none⟩) R.lt).trans c3
          refine ⟨tp (by kernel_rfl), tp (by kernel_rfl), tp (by kernel_rfl), tp (by kernel_rfl), tp ?_, tp (by kernel_rfl), tp (by kernel_rfl), tp (by kernel_rfl), tp ?_, tp (by kernel_rfl), tp (by kernel_rfl), tp (by kernel_rfl), trivial⟩
          all_goals
            simp only [fillK, putT, List.setIfInBounds_toArray, List.set_cons_zero, List.set_cons_succ]
            unfold execOp
            try go_simp
            all_goals first | rfl | (refine wr64 ?_ ?_ <;> omega)
        clear F ivh aph
        obtain ⟨y, hy⟩ : ∃ z, z = yW := ⟨_, rfl⟩
        rw [← hy] at bW ⊢
        clear hy
        have K1 := A.kept bW
        refine st_row (i := 12) (by kernel_rfl) rfl rfl rfl rfl (cells := [.int .i64 b, .int .i64 n, .int .i64 rf, .bool false, .int .i64 0, .int .i64 0]) K1 (by kernel_rfl) (by kernel_rfl) rfl (by kernel_rfl) (by intro v hv; simp at hv; rcases hv with rfl | rfl | rfl | rfl | rfl | rfl <;> rfl) ?_
        refine wpAny_done (by kernel_rfl) ?_ _
        simp only [fillK, putT, List.setIfInBounds_toArray, List.set_cons_zero, List.set_cons_succ]
        have A2 : Arr (y.setCells g 0 [.int .i64 b, .int .i64 n, .int .i64 rf, .bool false, .int .i64 0, .int .i64 0]) g 35 [.int .i64 b, .int .i64 n, .int .i64 rf, .bool false, .int .i64 0, .int .i64 0] := (((((K1.set 0 _).set 1 _).set 2 _).set 3 _).set 4 _).set 5 _
        have B2 : Chg w (y.setCells g 0 [.int .i64 b, .int .i64 n, .int .i64 rf, .bool false, .int .i64 0, .int .i64 0]) g (g + 1) := chg_set6 (B.andB bW) (Nat.le_refl _) (by omega) _ _ _ _ _ _
        generalize y.setCells g 0 [.int .i64 b, .int .i64 n, .int .i64 rf, .bool false, .int .i64 0, .int .i64 0] = Y at A2 B2 ⊢
        clear K1 bW A B R c0 c1 c2 c3 s0 s1 s2 s3 s4 s5
        go_wp2
        go_ret
        rw [← HS.out]
        exact ⟨rfl, A2, B2⟩
      · rw [show max f rf = f by omega] at HS0
        have HS : Hid _ := HS0
        clear HS0
        have c0 := R.cell 0
        have c1 := R.cell 1
        have c2 := R.cell 2
        have c3 := R.cell 3
        have s0 := A.cell 0
        have s1 := A.cell 1
        have s2 := A.cell 2
        have s3 := A.cell 3
        have s4 := A.cell 4
        have s5 := A.cell 5
        simp at c0 c1 c2 c3 s0 s1 s2 s3 s4 s5
        go_wp2
        try simp only [Act.put]
        refine tame [kc 76 (.pointer (some ⟨g, 0, none⟩)), kc 77 (.pointer (some ⟨g, 0, none⟩)), kc 78 (.pointer (some ⟨g, 0, none⟩)), kc 79 (.pointer (some ⟨g, 0, none⟩)), kc 80 (.int .i64 b), kc 81 (.pointer (some ⟨g, 0, none⟩)), kc 82 (.pointer (some ⟨g, 0, none⟩)), kc 83 (.pointer (some ⟨g, 1, none⟩)), kc 84 (.int .i64 n), kc 85 (.int .i64 f), kc 86 (.agg #[.int .i64 b, .int .i64 n, .int .i64 f, .bool false, .int .i64 0, .int .i64 0]), kc 87 (.pointer (some ⟨g, 0, none⟩))] 12 (by kernel_rfl) (by kernel_rfl) (by kernel_rfl) (by repeat' first | exact trivial | apply kc_keeps | constructor) 1 (by kernel_rfl) (fun vv ll hh yW bW => ?_) (fun vv ll hh yW bW F ivh aph => ?_)
        · have x0 := (bW.cell (p := ⟨g, 0, none⟩) A.lt).trans s0
          have x1 := (bW.cell (p := ⟨g, 1, none⟩) A.lt).trans s1
          have x2 := (bW.cell (p := ⟨g, 2, none⟩) A.lt).trans s2
          have x3 := (bW.cell (p := ⟨g, 3, none⟩) A.lt).trans s3
          have x4 := (bW.cell (p := ⟨g, 4, none⟩) A.lt).trans s4
          have x5 := (bW.cell (p := ⟨g, 5, none⟩) A.lt).trans s5
          have y0 := (bW.cell (p := ⟨w.heap.size, 0, none⟩) R.lt).trans c0
          have y1 := (bW.cell (p := ⟨w.heap.size, 1, none⟩) R.lt).trans c1
          have y2 := (bW.cell (p := ⟨w.heap.size, 2, none⟩) R.lt).trans c2
          have y3 := (bW.cell (p := ⟨w.heap.size, 3, none⟩) R.lt).trans c3
          refine ⟨tp (by kernel_rfl), tp (by kernel_rfl), tp (by kernel_rfl), tp (by kernel_rfl), tp ?_, tp (by kernel_rfl), tp (by kernel_rfl), tp (by kernel_rfl), tp ?_, tp (by kernel_rfl), tp (by kernel_rfl), tp (by kernel_rfl), trivial⟩
          all_goals
            simp only [fillK, putT, List.setIfInBounds_toArray, List.set_cons_zero, List.set_cons_succ]
            unfold execOp
            try go_simp
            all_goals first | rfl | (refine wr64 ?_ ?_ <;> omega)
        clear F ivh aph
        obtain ⟨y, hy⟩ : ∃ z, z = yW := ⟨_, rfl⟩
        rw [← hy] at bW ⊢
        clear hy
        have K1 := A.kept bW
        refine st_row (i := 12) (by kernel_rfl) rfl rfl rfl rfl (cells := [.int .i64 b, .int .i64 n, .int .i64 f, .bool false, .int .i64 0, .int .i64 0]) K1 (by kernel_rfl) (by kernel_rfl) rfl (by kernel_rfl) (by intro v hv; simp at hv; rcases hv with rfl | rfl | rfl | rfl | rfl | rfl <;> rfl) ?_
        refine wpAny_done (by kernel_rfl) ?_ _
        simp only [fillK, putT, List.setIfInBounds_toArray, List.set_cons_zero, List.set_cons_succ]
        have A2 : Arr (y.setCells g 0 [.int .i64 b, .int .i64 n, .int .i64 f, .bool false, .int .i64 0, .int .i64 0]) g 35 [.int .i64 b, .int .i64 n, .int .i64 f, .bool false, .int .i64 0, .int .i64 0] := (((((K1.set 0 _).set 1 _).set 2 _).set 3 _).set 4 _).set 5 _
        have B2 : Chg w (y.setCells g 0 [.int .i64 b, .int .i64 n, .int .i64 f, .bool false, .int .i64 0, .int .i64 0]) g (g + 1) := chg_set6 (B.andB bW) (Nat.le_refl _) (by omega) _ _ _ _ _ _
        generalize y.setCells g 0 [.int .i64 b, .int .i64 n, .int .i64 f, .bool false, .int .i64 0, .int .i64 0] = Y at A2 B2 ⊢
        clear K1 bW A B R c0 c1 c2 c3 s0 s1 s2 s3 s4 s5
        go_wp2
        go_ret
        rw [← HS.out]
        exact ⟨rfl, A2, B2⟩
  rw [if_neg k5] at hS
  have k5' : (k == 5) = false := by simpa using k5
  clear k5
  by_cases k6 : k = 6
  · subst k6
    rw [if_pos rfl] at hS
    cases t
    · have HS : Hid _ := (if_pos rfl).symm.trans hS
      clear hS
      have c0 := R.cell 0
      have c1 := R.cell 1
      have c2 := R.cell 2
      have c3 := R.cell 3
      have s0 := A.cell 0
      have s1 := A.cell 1
      have s2 := A.cell 2
      have s3 := A.cell 3
      have s4 := A.cell 4
      have s5 := A.cell 5
      simp at c0 c1 c2 c3 s0 s1 s2 s3 s4 s5
      go_wp2
      go_ret
      rw [← HS.out]
      exact ⟨rfl, A, B⟩
    · have HS : Hid _ := (if_neg (show ¬ (true = false) by simp)).symm.trans hS
      clear hS
      have c0 := R.cell 0
      have c1 := R.cell 1
      have c2 := R.cell 2
      have c3 := R.cell 3
      have s0 := A.cell 0
      have s1 := A.cell 1
      have s2 := A.cell 2
      have s3 := A.cell 3
      have s4 := A.cell 4
      have s5 := A.cell 5
      simp at c0 c1 c2 c3 s0 s1 s2 s3 s4 s5
      go_wp2
      try simp only [Act.put]
      refine tame [kc 95 (.pointer (some ⟨g, 0, none⟩)), kc 96 (.pointer (some ⟨g, 0, none⟩)), kc 97 (.pointer (some ⟨g, 0, none⟩)), kc 98 (.pointer (some ⟨g, 0, none⟩)), kc 99 (.int .i64 b), kc 100 (.int .i64 (1 - b)), kc 101 (.pointer (some ⟨g, 0, none⟩)), kc 102 (.pointer (some ⟨g, 0, none⟩)), kc 103 (.pointer (some ⟨g, 5, none⟩)), kc 104 (.int .i64 o), kc 105 (.pointer (some ⟨g, 0, none⟩)), kc 106 (.pointer (some ⟨g, 0, none⟩)), kc 107 (.pointer (some ⟨g, 2, none⟩)), kc 108 (.int .i64 f), kc 109 (.agg #[.int .i64 (1 - b), .int .i64 o, .int .i64 f, .bool false, .int .i64 0, .int .i64 0]), kc 110 (.pointer (some ⟨g, 0, none⟩))] 16 (by kernel_rfl) (by kernel_rfl) (by kernel_rfl) (by repeat' first | exact trivial | apply kc_keeps | constructor) 1 (by kernel_rfl) (fun vv ll hh yW bW => ?_) (fun vv ll hh yW bW F ivh aph => ?_)
      · have x0 := (bW.cell (p := ⟨g, 0, none⟩) A.lt).trans s0
        have x1 := (bW.cell (p := ⟨g, 1, none⟩) A.lt).trans s1
        have x2 := (bW.cell (p := ⟨g, 2, none⟩) A.lt).trans s2
        have x3 := (bW.cell (p := ⟨g, 3, none⟩) A.lt).trans s3
        have x4 := (bW.cell (p := ⟨g, 4, none⟩) A.lt).trans s4
        have x5 := (bW.cell (p := ⟨g, 5, none⟩) A.lt).trans s5
        have y0 := (bW.cell (p := ⟨w.heap.size, 0, none⟩) R.lt).trans c0
        have y1 := (bW.cell (p := ⟨w.heap.size, 1, none⟩) R.lt).trans c1
        have y2 := (bW.cell (p := ⟨w.heap.size, 2, none⟩) R.lt).trans c2
        have y3 := (bW.cell (p := ⟨w.heap.size, 3, none⟩) R.lt).trans c3
        refine ⟨tp (by kernel_rfl), tp (by kernel_rfl), tp (by kernel_rfl), tp (by kernel_rfl), tp ?_, tp ?_, tp (by kernel_rfl), tp (by kernel_rfl), tp (by kernel_rfl), tp ?_, tp (by kernel_rfl), tp (by kernel_rfl), tp (by kernel_rfl), tp ?_, tp (by kernel_rfl), tp (by kernel_rfl), trivial⟩
        all_goals
          simp only [fillK, putT, List.setIfInBounds_toArray, List.set_cons_zero, List.set_cons_succ]
          unfold execOp
          try go_simp
          all_goals first | rfl | (refine wr64 ?_ ?_ <;> omega)
      clear F ivh aph
      obtain ⟨y, hy⟩ : ∃ z, z = yW := ⟨_, rfl⟩
      rw [← hy] at bW ⊢
      clear hy
      have K1 := A.kept bW
      refine st_row (i := 16) (by kernel_rfl) rfl rfl rfl rfl (cells := [.int .i64 (1 - b), .int .i64 o, .int .i64 f, .bool false, .int .i64 0, .int .i64 0]) K1 (by kernel_rfl) (by kernel_rfl) rfl (by kernel_rfl) (by intro v hv; simp at hv; rcases hv with rfl | rfl | rfl | rfl | rfl | rfl <;> rfl) ?_
      refine wpAny_done (by kernel_rfl) ?_ _
      simp only [fillK, putT, List.setIfInBounds_toArray, List.set_cons_zero, List.set_cons_succ]
      have A2 : Arr (y.setCells g 0 [.int .i64 (1 - b), .int .i64 o, .int .i64 f, .bool false, .int .i64 0, .int .i64 0]) g 35 [.int .i64 (1 - b), .int .i64 o, .int .i64 f, .bool false, .int .i64 0, .int .i64 0] := (((((K1.set 0 _).set 1 _).set 2 _).set 3 _).set 4 _).set 5 _
      have B2 : Chg w (y.setCells g 0 [.int .i64 (1 - b), .int .i64 o, .int .i64 f, .bool false, .int .i64 0, .int .i64 0]) g (g + 1) := chg_set6 (B.andB bW) (Nat.le_refl _) (by omega) _ _ _ _ _ _
      generalize y.setCells g 0 [.int .i64 (1 - b), .int .i64 o, .int .i64 f, .bool false, .int .i64 0, .int .i64 0] = Y at A2 B2 ⊢
      clear K1 bW A B R c0 c1 c2 c3 s0 s1 s2 s3 s4 s5
      go_wp2
      go_ret
      rw [← HS.out]
      exact ⟨rfl, A2, B2⟩
  rw [if_neg k6] at hS
  have k6' : (k == 6) = false := by simpa using k6
  clear k6
  have HS : Hid _ := hS
  clear hS
  have c0 := R.cell 0
  have c1 := R.cell 1
  have c2 := R.cell 2
  have c3 := R.cell 3
  have s0 := A.cell 0
  have s1 := A.cell 1
  have s2 := A.cell 2
  have s3 := A.cell 3
  have s4 := A.cell 4
  have s5 := A.cell 5
  simp at c0 c1 c2 c3 s0 s1 s2 s3 s4 s5
  go_wp2
  go_ret
  rw [← HS.out]
  exact ⟨rfl, A, B⟩
end Go.Proofs.Ytjceajgefpinpaa
