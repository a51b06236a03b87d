/-
  What is proved here: what both sides' Step answer.
-/
import Derived.Test.YtjceajgefpinpaaC0v
namespace Go.Proofs.Ytjceajgefpinpaa
open Go.RowKit
set_option maxRecDepth 100000
set_option maxHeartbeats 4000000
set_option linter.unusedVariables false

theorem Arr.chgI {W W' : World} {a b g : Nat} {t : TypeId} {cs : List Value} (h : Arr W g t cs) (hc : Chg W W' a b) (hl : g < a ∨ b ≤ g) : Arr W' g t cs := h.chg hc hl
theorem setN6 {W : World} {g : Nat} {t : TypeId} {cs : List Value} (h : Arr W g t cs) (s : Bt) (hl : cs.length = 6) : Arr (W.setCells g 0 (btC s)) g t (btC s) := by
  match cs, hl with
  | [a, b, c, d, e, f], _ => exact (((((h.set 0 _).set 1 _).set 2 _).set 3 _).set 4 _).set 5 _
theorem specStep (b n f : Int) (t : Bool) (i o k rb rn rf : Int) (w : World) :
    Calls Try.prog 38 #[btV b n f t i o, rcV k rb rn rf] w fun e w' => e = .returned (stV (stepT ⟨b, n, f, t, i, o⟩ ⟨k, rb, rn, rf⟩)) ∧ Below w.heap.size w w' := by
  obtain ⟨S, hS⟩ : ∃ S, (stepT ⟨b, n, f, t, i, o⟩ ⟨k, rb, rn, rf⟩ : Bt × Bool) = S := ⟨_, rfl⟩
  rw [hS]
  obtain ⟨W, hW⟩ : ∃ W, W = ((w.alloc (.cells #[.int .i64 b, .int .i64 n, .int .i64 f, .bool t, .int .i64 i, .int .i64 o] 35)).alloc (.cells #[.int .i64 k, .int .i64 rb, .int .i64 rn, .int .i64 rf] 29)).alloc (.cells #[.int .i64 0, .int .i64 0, .int .i64 0, .bool false, .int .i64 0, .int .i64 0] 35) := ⟨_, rfl⟩
  have B : Below w.heap.size w W := by rw [hW]; exact (((Below.refl _ _).alloc (Nat.le_refl _) _).alloc (by simp) _).alloc (by simp; omega) _
  have A : Arr W w.heap.size 35 [.int .i64 b, .int .i64 n, .int .i64 f, .bool t, .int .i64 i, .int .i64 o] := by rw [hW]; exact ((Arr.new w [.int .i64 b, .int .i64 n, .int .i64 f, .bool t, .int .i64 i, .int .i64 o] 35).alloc (.cells #[.int .i64 k, .int .i64 rb, .int .i64 rn, .int .i64 rf] 29)).alloc (.cells #[.int .i64 0, .int .i64 0, .int .i64 0, .bool false, .int .i64 0, .int .i64 0] 35)
  have R : Arr W (w.heap.size + 1) 29 [.int .i64 k, .int .i64 rb, .int .i64 rn, .int .i64 rf] := by rw [hW]; have := (Arr.new (w.alloc (.cells #[.int .i64 b, .int .i64 n, .int .i64 f, .bool t, .int .i64 i, .int .i64 o] 35)) [.int .i64 k, .int .i64 rb, .int .i64 rn, .int .i64 rf] 29).alloc (.cells #[.int .i64 0, .int .i64 0, .int .i64 0, .bool false, .int .i64 0, .int .i64 0] 35); simpa using this
  have Q : Arr W (w.heap.size + 2) 35 [.int .i64 0, .int .i64 0, .int .i64 0, .bool false, .int .i64 0, .int .i64 0] := by rw [hW]; have := Arr.new ((w.alloc (.cells #[.int .i64 b, .int .i64 n, .int .i64 f, .bool t, .int .i64 i, .int .i64 o] 35)).alloc (.cells #[.int .i64 k, .int .i64 rb, .int .i64 rn, .int .i64 rf] 29)) [.int .i64 0, .int .i64 0, .int .i64 0, .bool false, .int .i64 0, .int .i64 0] 35; simpa using this
  unfold stepT at hS
  go_enter Try.func38, Try.ntmps38
  go_upto_region 1 with fail
  rw [← hW]
  clear hW
  have a0 := A.cell 0
  have a1 := A.cell 1
  have a2 := A.cell 2
  have a3 := A.cell 3
  have a4 := A.cell 4
  have a5 := A.cell 5
  simp at a0 a1 a2 a3 a4 a5
  have c0 := R.cell 0
  have c1 := R.cell 1
  have c2 := R.cell 2
  have c3 := R.cell 3
  simp at c0 c1 c2 c3
  go_wp2_with fail
  refine (specBootOk b n f t i o _).mono ?_
  rintro e w1 ⟨rfl, hb1⟩
  replace A := A.kept hb1
  replace R := R.kept hb1
  replace Q := Q.kept hb1
  replace B := B.trans (hb1.mono B.size)
  clear hb1
  clear a0 a1 a2 a3 a4 a5 c0 c1 c2 c3
  by_cases h1 : btOk b n f t i o
  case neg =>
    rw [decide_eq_false h1]
    have HS : Hid _ := (if_neg (fun h : _ ∧ _ => h1 h.1)).symm.trans hS
    clear hS h1
    have fR := Q.frozen
    have lR := Q.lt
    have q0 := Q.cell 0
    have q1 := Q.cell 1
    have q2 := Q.cell 2
    have q3 := Q.cell 3
    have q4 := Q.cell 4
    have q5 := Q.cell 5
    simp at q0 q1 q2 q3 q4 q5
    have HK : Hid _ := set6 Q (.int .i64 0) (.int .i64 0) (.int .i64 0) (.bool false) (.int .i64 0) (.int .i64 0)
    have HB : Hid _ := bel_set6 B (show w.heap.size ≤ w.heap.size + 2 by omega) (.int .i64 0) (.int .i64 0) (.int .i64 0) (.bool false) (.int .i64 0) (.int .i64 0)
    clear Q B
    go_wp2
    exact bodyPost_ret (results_row_tmp (v := .bool false) (t := 35) (cs := [.int .i64 0, .int .i64 0, .int .i64 0, .bool false, .int .i64 0, .int .i64 0]) rfl rfl rfl HK.out Try.underlying35 rfl (by kernel_rfl)) rfl ⟨by rw [← HS.out], HB.out⟩
  rw [decide_eq_true h1]
  have H1 : Hid _ := h1
  clear h1
  have c0 := R.cell 0
  have c1 := R.cell 1
  have c2 := R.cell 2
  have c3 := R.cell 3
  simp at c0 c1 c2 c3
  go_wp2_with fail
  refine (specRecOk k rb rn rf _).mono ?_
  rintro e w1 ⟨rfl, hb1⟩
  replace A := A.kept hb1
  replace R := R.kept hb1
  replace Q := Q.kept hb1
  replace B := B.trans (hb1.mono B.size)
  clear hb1
  clear c0 c1 c2 c3
  by_cases h2 : rcOk k rb rn rf
  case neg =>
    rw [decide_eq_false h2]
    have HS : Hid _ := (if_neg (fun h : _ ∧ _ => h2 h.2)).symm.trans hS
    clear hS h2
    have fR := Q.frozen
    have lR := Q.lt
    have q0 := Q.cell 0
    have q1 := Q.cell 1
    have q2 := Q.cell 2
    have q3 := Q.cell 3
    have q4 := Q.cell 4
    have q5 := Q.cell 5
    simp at q0 q1 q2 q3 q4 q5
    have HK : Hid _ := set6 Q (.int .i64 0) (.int .i64 0) (.int .i64 0) (.bool false) (.int .i64 0) (.int .i64 0)
    have HB : Hid _ := bel_set6 B (show w.heap.size ≤ w.heap.size + 2 by omega) (.int .i64 0) (.int .i64 0) (.int .i64 0) (.bool false) (.int .i64 0) (.int .i64 0)
    clear Q B
    go_wp2
    exact bodyPost_ret (results_row_tmp (v := .bool false) (t := 35) (cs := [.int .i64 0, .int .i64 0, .int .i64 0, .bool false, .int .i64 0, .int .i64 0]) rfl rfl rfl HK.out Try.underlying35 rfl (by kernel_rfl)) rfl ⟨by rw [← HS.out], HB.out⟩
  rw [decide_eq_true h2]
  have HS : Hid _ := (if_pos ⟨H1.out, h2⟩).symm.trans hS
  have H2 : Hid _ := h2
  clear h2 hS
  have a0 := A.cell 0
  have a1 := A.cell 1
  have a2 := A.cell 2
  have a3 := A.cell 3
  have a4 := A.cell 4
  have a5 := A.cell 5
  simp at a0 a1 a2 a3 a4 a5
  have c0 := R.cell 0
  have c1 := R.cell 1
  have c2 := R.cell 2
  have c3 := R.cell 3
  simp at c0 c1 c2 c3
  obtain ⟨W3, hW3⟩ : ∃ W3, W3 = w1.alloc (.cells #[.int .i64 b, .int .i64 n, .int .i64 f, .bool t, .int .i64 i, .int .i64 o] 35) := ⟨_, rfl⟩
  have G : Arr W3 w1.heap.size 35 [.int .i64 b, .int .i64 n, .int .i64 f, .bool t, .int .i64 i, .int .i64 o] := by rw [hW3]; exact Arr.new _ _ _
  have b3 : Below w1.heap.size w1 W3 := by rw [hW3]; exact (Below.refl _ _).alloc (Nat.le_refl _) _
  have z1 := B.size
  have zQ := Q.lt
  go_upto_region 4 with fail
  rw [← hW3]
  clear hW3
  replace A := A.kept b3
  replace R := R.kept b3
  replace Q := Q.kept b3
  replace B := B.trans (b3.mono B.size)
  clear b3
  clear c0 c1 c2 c3
  have c0 := R.cell 0
  have c1 := R.cell 1
  have c2 := R.cell 2
  have c3 := R.cell 3
  simp at c0 c1 c2 c3
  go_wp2_with fail
  refine (specL10step w1.heap.size b n f t i o k rb rn rf _ G H1.out.1 (by have := H1.out.2.2.2; revert this; cases t <;> simp <;> omega)).mono ?_
  rintro e w4 ⟨rfl, G4, hc⟩
  replace Q := Q.chg hc (by omega)
  replace B := hc.bel B (by omega)
  clear A R G hc a0 a1 a2 a3 a4 a5 c0 c1 c2 c3
  have E4 : Hid _ := HS.out
  obtain ⟨⟨xb, xn, xf, xt, xi, xo⟩, xok⟩ := S
  rw [HS.out] at G4 ⊢
  dsimp only at G4 ⊢
  have d0 := G4.cell 0
  have d1 := G4.cell 1
  have d2 := G4.cell 2
  have d3 := G4.cell 3
  have d4 := G4.cell 4
  have d5 := G4.cell 5
  simp at d0 d1 d2 d3 d4 d5
  have fR := Q.frozen
  have lR := Q.lt
  have q0 := Q.cell 0
  have q1 := Q.cell 1
  have q2 := Q.cell 2
  have q3 := Q.cell 3
  have q4 := Q.cell 4
  have q5 := Q.cell 5
  simp at q0 q1 q2 q3 q4 q5
  have HK : Hid _ := set6 Q (.int .i64 xb) (.int .i64 xn) (.int .i64 xf) (.bool xt) (.int .i64 xi) (.int .i64 xo)
  have HB : Hid _ := bel_set6 B (show w.heap.size ≤ w.heap.size + 2 by omega) (.int .i64 xb) (.int .i64 xn) (.int .i64 xf) (.bool xt) (.int .i64 xi) (.int .i64 xo)
  clear Q B
  go_wp2
  exact bodyPost_ret (results_row_tmp (v := .bool xok) (t := 35) (cs := [.int .i64 xb, .int .i64 xn, .int .i64 xf, .bool xt, .int .i64 xi, .int .i64 xo]) rfl rfl rfl HK.out Try.underlying35 rfl (by kernel_rfl)) rfl ⟨rfl, HB.out⟩
theorem implUnmoved (b n f : Int) (t : Bool) (i o k rb rn rf : Int) (w : World) :
    Calls Try.prog 81 #[btV b n f t i o, rcV k rb rn rf] w fun e w' => e = .returned (stV ((⟨b, n, f, t, i, o⟩, false))) ∧ Below w.heap.size w w' := by
  obtain ⟨S, hS⟩ : ∃ S, ((⟨b, n, f, t, i, o⟩, false) : Bt × Bool) = S := ⟨_, rfl⟩
  rw [hS]
  obtain ⟨W, hW⟩ : ∃ W, W = ((w.alloc (.cells #[.int .i64 b, .int .i64 n, .int .i64 f, .bool t, .int .i64 i, .int .i64 o] 35)).alloc (.cells #[.int .i64 k, .int .i64 rb, .int .i64 rn, .int .i64 rf] 29)).alloc (.cells #[.int .i64 0, .int .i64 0, .int .i64 0, .bool false, .int .i64 0, .int .i64 0] 35) := ⟨_, rfl⟩
  have B : Below w.heap.size w W := by rw [hW]; exact (((Below.refl _ _).alloc (Nat.le_refl _) _).alloc (by simp) _).alloc (by simp; omega) _
  have A : Arr W w.heap.size 35 [.int .i64 b, .int .i64 n, .int .i64 f, .bool t, .int .i64 i, .int .i64 o] := by rw [hW]; exact ((Arr.new w [.int .i64 b, .int .i64 n, .int .i64 f, .bool t, .int .i64 i, .int .i64 o] 35).alloc (.cells #[.int .i64 k, .int .i64 rb, .int .i64 rn, .int .i64 rf] 29)).alloc (.cells #[.int .i64 0, .int .i64 0, .int .i64 0, .bool false, .int .i64 0, .int .i64 0] 35)
  have R : Arr W (w.heap.size + 1) 29 [.int .i64 k, .int .i64 rb, .int .i64 rn, .int .i64 rf] := by rw [hW]; have := (Arr.new (w.alloc (.cells #[.int .i64 b, .int .i64 n, .int .i64 f, .bool t, .int .i64 i, .int .i64 o] 35)) [.int .i64 k, .int .i64 rb, .int .i64 rn, .int .i64 rf] 29).alloc (.cells #[.int .i64 0, .int .i64 0, .int .i64 0, .bool false, .int .i64 0, .int .i64 0] 35); simpa using this
  have Q : Arr W (w.heap.size + 2) 35 [.int .i64 0, .int .i64 0, .int .i64 0, .bool false, .int .i64 0, .int .i64 0] := by rw [hW]; have := Arr.new ((w.alloc (.cells #[.int .i64 b, .int .i64 n, .int .i64 f, .bool t, .int .i64 i, .int .i64 o] 35)).alloc (.cells #[.int .i64 k, .int .i64 rb, .int .i64 rn, .int .i64 rf] 29)) [.int .i64 0, .int .i64 0, .int .i64 0, .bool false, .int .i64 0, .int .i64 0] 35; simpa using this
  have HS : Hid _ := hS
  clear hS
  go_enter Try.func81, Try.ntmps81
  go_upto_region 1 with fail
  rw [← hW]
  clear hW
  have a0 := A.cell 0
  have a1 := A.cell 1
  have a2 := A.cell 2
  have a3 := A.cell 3
  have a4 := A.cell 4
  have a5 := A.cell 5
  simp at a0 a1 a2 a3 a4 a5
  have c0 := R.cell 0
  have c1 := R.cell 1
  have c2 := R.cell 2
  have c3 := R.cell 3
  simp at c0 c1 c2 c3
  have fR := Q.frozen
  have lR := Q.lt
  have q0 := Q.cell 0
  have q1 := Q.cell 1
  have q2 := Q.cell 2
  have q3 := Q.cell 3
  have q4 := Q.cell 4
  have q5 := Q.cell 5
  simp at q0 q1 q2 q3 q4 q5
  have HK : Hid _ := set6 Q (.int .i64 b) (.int .i64 n) (.int .i64 f) (.bool t) (.int .i64 i) (.int .i64 o)
  have HB : Hid _ := bel_set6 B (show w.heap.size ≤ w.heap.size + 2 by omega) (.int .i64 b) (.int .i64 n) (.int .i64 f) (.bool t) (.int .i64 i) (.int .i64 o)
  clear Q B
  go_wp2
  exact bodyPost_ret (results_row_tmp (v := .bool false) (t := 35) (cs := [.int .i64 b, .int .i64 n, .int .i64 f, .bool t, .int .i64 i, .int .i64 o]) rfl rfl rfl HK.out Try.underlying35 rfl (by kernel_rfl)) rfl ⟨by rw [← HS.out], HB.out⟩
theorem implCommitted (b n f : Int) (t : Bool) (i o k rb rn rf : Int) (w : World) :
    Calls Try.prog 82 #[btV b n f t i o, rcV k rb rn rf] w fun e w' => e = .returned (stV (if t = true ∨ rb = b then (⟨b, n, f, t, i, o⟩, false) else (⟨rb, rn, f, true, 0, n⟩, true))) ∧ Below w.heap.size w w' := by
  obtain ⟨S, hS⟩ : ∃ S, (if t = true ∨ rb = b then (⟨b, n, f, t, i, o⟩, false) else (⟨rb, rn, f, true, 0, n⟩, true) : Bt × Bool) = S := ⟨_, rfl⟩
  rw [hS]
  obtain ⟨W, hW⟩ : ∃ W, W = ((w.alloc (.cells #[.int .i64 b, .int .i64 n, .int .i64 f, .bool t, .int .i64 i, .int .i64 o] 35)).alloc (.cells #[.int .i64 k, .int .i64 rb, .int .i64 rn, .int .i64 rf] 29)).alloc (.cells #[.int .i64 0, .int .i64 0, .int .i64 0, .bool false, .int .i64 0, .int .i64 0] 35) := ⟨_, rfl⟩
  have B : Below w.heap.size w W := by rw [hW]; exact (((Below.refl _ _).alloc (Nat.le_refl _) _).alloc (by simp) _).alloc (by simp; omega) _
  have A : Arr W w.heap.size 35 [.int .i64 b, .int .i64 n, .int .i64 f, .bool t, .int .i64 i, .int .i64 o] := by rw [hW]; exact ((Arr.new w [.int .i64 b, .int .i64 n, .int .i64 f, .bool t, .int .i64 i, .int .i64 o] 35).alloc (.cells #[.int .i64 k, .int .i64 rb, .int .i64 rn, .int .i64 rf] 29)).alloc (.cells #[.int .i64 0, .int .i64 0, .int .i64 0, .bool false, .int .i64 0, .int .i64 0] 35)
  have R : Arr W (w.heap.size + 1) 29 [.int .i64 k, .int .i64 rb, .int .i64 rn, .int .i64 rf] := by rw [hW]; have := (Arr.new (w.alloc (.cells #[.int .i64 b, .int .i64 n, .int .i64 f, .bool t, .int .i64 i, .int .i64 o] 35)) [.int .i64 k, .int .i64 rb, .int .i64 rn, .int .i64 rf] 29).alloc (.cells #[.int .i64 0, .int .i64 0, .int .i64 0, .bool false, .int .i64 0, .int .i64 0] 35); simpa using this
  have Q : Arr W (w.heap.size + 2) 35 [.int .i64 0, .int .i64 0, .int .i64 0, .bool false, .int .i64 0, .int .i64 0] := by rw [hW]; have := Arr.new ((w.alloc (.cells #[.int .i64 b, .int .i64 n, .int .i64 f, .bool t, .int .i64 i, .int .i64 o] 35)).alloc (.cells #[.int .i64 k, .int .i64 rb, .int .i64 rn, .int .i64 rf] 29)) [.int .i64 0, .int .i64 0, .int .i64 0, .bool false, .int .i64 0, .int .i64 0] 35; simpa using this
  cases t
  · by_cases hbb : rb = b
    · have hbb' : (rb == b) = true := by simpa using hbb
      have HS : Hid _ := (if_pos (.inr hbb)).symm.trans hS
      clear hS hbb
      go_enter Try.func82, Try.ntmps82
      go_upto_region 1 with fail
      rw [← hW]
      clear hW
      have a0 := A.cell 0
      have a1 := A.cell 1
      have a2 := A.cell 2
      have a3 := A.cell 3
      have a4 := A.cell 4
      have a5 := A.cell 5
      simp at a0 a1 a2 a3 a4 a5
      have c0 := R.cell 0
      have c1 := R.cell 1
      have c2 := R.cell 2
      have c3 := R.cell 3
      simp at c0 c1 c2 c3
      have fR := Q.frozen
      have lR := Q.lt
      have q0 := Q.cell 0
      have q1 := Q.cell 1
      have q2 := Q.cell 2
      have q3 := Q.cell 3
      have q4 := Q.cell 4
      have q5 := Q.cell 5
      simp at q0 q1 q2 q3 q4 q5
      have HK : Hid _ := set6 Q (.int .i64 b) (.int .i64 n) (.int .i64 f) (.bool false) (.int .i64 i) (.int .i64 o)
      have HB : Hid _ := bel_set6 B (show w.heap.size ≤ w.heap.size + 2 by omega) (.int .i64 b) (.int .i64 n) (.int .i64 f) (.bool false) (.int .i64 i) (.int .i64 o)
      clear Q B
      go_wp2
      exact bodyPost_ret (results_row_tmp (v := .bool false) (t := 35) (cs := [.int .i64 b, .int .i64 n, .int .i64 f, .bool false, .int .i64 i, .int .i64 o]) rfl rfl rfl HK.out Try.underlying35 rfl (by kernel_rfl)) rfl ⟨by rw [← HS.out], HB.out⟩
    · have hbb' : (rb == b) = false := by simpa using hbb
      have HS : Hid _ := (if_neg (show ¬ (false = true ∨ rb = b) by simpa using hbb)).symm.trans hS
      clear hS hbb
      go_enter Try.func82, Try.ntmps82
      go_upto_region 1 with fail
      rw [← hW]
      clear hW
      have a0 := A.cell 0
      have a1 := A.cell 1
      have a2 := A.cell 2
      have a3 := A.cell 3
      have a4 := A.cell 4
      have a5 := A.cell 5
      simp at a0 a1 a2 a3 a4 a5
      have c0 := R.cell 0
      have c1 := R.cell 1
      have c2 := R.cell 2
      have c3 := R.cell 3
      simp at c0 c1 c2 c3
      have fR := Q.frozen
      have lR := Q.lt
      have q0 := Q.cell 0
      have q1 := Q.cell 1
      have q2 := Q.cell 2
      have q3 := Q.cell 3
      have q4 := Q.cell 4
      have q5 := Q.cell 5
      simp at q0 q1 q2 q3 q4 q5
      have HK : Hid _ := set6 Q (.int .i64 rb) (.int .i64 rn) (.int .i64 f) (.bool true) (.int .i64 0) (.int .i64 n)
      have HB : Hid _ := bel_set6 B (show w.heap.size ≤ w.heap.size + 2 by omega) (.int .i64 rb) (.int .i64 rn) (.int .i64 f) (.bool true) (.int .i64 0) (.int .i64 n)
      clear Q B
      go_wp2
      exact bodyPost_ret (results_row_tmp (v := .bool true) (t := 35) (cs := [.int .i64 rb, .int .i64 rn, .int .i64 f, .bool true, .int .i64 0, .int .i64 n]) rfl rfl rfl HK.out Try.underlying35 rfl (by kernel_rfl)) rfl ⟨by rw [← HS.out], HB.out⟩
  · have HS : Hid _ := (if_pos (.inl rfl)).symm.trans hS
    clear hS
    go_enter Try.func82, Try.ntmps82
    go_upto_region 1 with fail
    rw [← hW]
    clear hW
    have a0 := A.cell 0
    have a1 := A.cell 1
    have a2 := A.cell 2
    have a3 := A.cell 3
    have a4 := A.cell 4
    have a5 := A.cell 5
    simp at a0 a1 a2 a3 a4 a5
    have c0 := R.cell 0
    have c1 := R.cell 1
    have c2 := R.cell 2
    have c3 := R.cell 3
    simp at c0 c1 c2 c3
    have fR := Q.frozen
    have lR := Q.lt
    have q0 := Q.cell 0
    have q1 := Q.cell 1
    have q2 := Q.cell 2
    have q3 := Q.cell 3
    have q4 := Q.cell 4
    have q5 := Q.cell 5
    simp at q0 q1 q2 q3 q4 q5
    have HK : Hid _ := set6 Q (.int .i64 b) (.int .i64 n) (.int .i64 f) (.bool true) (.int .i64 i) (.int .i64 o)
    have HB : Hid _ := bel_set6 B (show w.heap.size ≤ w.heap.size + 2 by omega) (.int .i64 b) (.int .i64 n) (.int .i64 f) (.bool true) (.int .i64 i) (.int .i64 o)
    clear Q B
    go_wp2
    exact bodyPost_ret (results_row_tmp (v := .bool false) (t := 35) (cs := [.int .i64 b, .int .i64 n, .int .i64 f, .bool true, .int .i64 i, .int .i64 o]) rfl rfl rfl HK.out Try.underlying35 rfl (by kernel_rfl)) rfl ⟨by rw [← HS.out], HB.out⟩
theorem implTried (b n f : Int) (t : Bool) (i o k rb rn rf : Int) (w : World) (hi : 0 ≤ i ∧ i ≤ 3) :
    Calls Try.prog 83 #[btV b n f t i o, rcV k rb rn rf] w fun e w' => e = .returned (stV (if t = false ∨ 3 ≤ i then (⟨b, n, f, t, i, o⟩, false) else (⟨b, n, f, t, i + 1, o⟩, true))) ∧ Below w.heap.size w w' := by
  obtain ⟨S, hS⟩ : ∃ S, (if t = false ∨ 3 ≤ i then (⟨b, n, f, t, i, o⟩, false) else (⟨b, n, f, t, i + 1, o⟩, true) : Bt × Bool) = S := ⟨_, rfl⟩
  rw [hS]
  obtain ⟨W, hW⟩ : ∃ W, W = ((w.alloc (.cells #[.int .i64 b, .int .i64 n, .int .i64 f, .bool t, .int .i64 i, .int .i64 o] 35)).alloc (.cells #[.int .i64 k, .int .i64 rb, .int .i64 rn, .int .i64 rf] 29)).alloc (.cells #[.int .i64 0, .int .i64 0, .int .i64 0, .bool false, .int .i64 0, .int .i64 0] 35) := ⟨_, rfl⟩
  have B : Below w.heap.size w W := by rw [hW]; exact (((Below.refl _ _).alloc (Nat.le_refl _) _).alloc (by simp) _).alloc (by simp; omega) _
  have A : Arr W w.heap.size 35 [.int .i64 b, .int .i64 n, .int .i64 f, .bool t, .int .i64 i, .int .i64 o] := by rw [hW]; exact ((Arr.new w [.int .i64 b, .int .i64 n, .int .i64 f, .bool t, .int .i64 i, .int .i64 o] 35).alloc (.cells #[.int .i64 k, .int .i64 rb, .int .i64 rn, .int .i64 rf] 29)).alloc (.cells #[.int .i64 0, .int .i64 0, .int .i64 0, .bool false, .int .i64 0, .int .i64 0] 35)
  have R : Arr W (w.heap.size + 1) 29 [.int .i64 k, .int .i64 rb, .int .i64 rn, .int .i64 rf] := by rw [hW]; have := (Arr.new (w.alloc (.cells #[.int .i64 b, .int .i64 n, .int .i64 f, .bool t, .int .i64 i, .int .i64 o] 35)) [.int .i64 k, .int .i64 rb, .int .i64 rn, .int .i64 rf] 29).alloc (.cells #[.int .i64 0, .int .i64 0, .int .i64 0, .bool false, .int .i64 0, .int .i64 0] 35); simpa using this
  have Q : Arr W (w.heap.size + 2) 35 [.int .i64 0, .int .i64 0, .int .i64 0, .bool false, .int .i64 0, .int .i64 0] := by rw [hW]; have := Arr.new ((w.alloc (.cells #[.int .i64 b, .int .i64 n, .int .i64 f, .bool t, .int .i64 i, .int .i64 o] 35)).alloc (.cells #[.int .i64 k, .int .i64 rb, .int .i64 rn, .int .i64 rf] 29)) [.int .i64 0, .int .i64 0, .int .i64 0, .bool false, .int .i64 0, .int .i64 0] 35; simpa using this
  cases t
  · have HS : Hid _ := (if_pos (.inl rfl)).symm.trans hS
    clear hS
    go_enter Try.func83, Try.ntmps83
    go_upto_region 1 with fail
    rw [← hW]
    clear hW
    have a0 := A.cell 0
    have a1 := A.cell 1
    have a2 := A.cell 2
    have a3 := A.cell 3
    have a4 := A.cell 4
    have a5 := A.cell 5
    simp at a0 a1 a2 a3 a4 a5
    have c0 := R.cell 0
    have c1 := R.cell 1
    have c2 := R.cell 2
    have c3 := R.cell 3
    simp at c0 c1 c2 c3
    have fR := Q.frozen
    have lR := Q.lt
    have q0 := Q.cell 0
    have q1 := Q.cell 1
    have q2 := Q.cell 2
    have q3 := Q.cell 3
    have q4 := Q.cell 4
    have q5 := Q.cell 5
    simp at q0 q1 q2 q3 q4 q5
    have HK : Hid _ := set6 Q (.int .i64 b) (.int .i64 n) (.int .i64 f) (.bool false) (.int .i64 i) (.int .i64 o)
    have HB : Hid _ := bel_set6 B (show w.heap.size ≤ w.heap.size + 2 by omega) (.int .i64 b) (.int .i64 n) (.int .i64 f) (.bool false) (.int .i64 i) (.int .i64 o)
    clear Q B
    go_wp2
    exact bodyPost_ret (results_row_tmp (v := .bool false) (t := 35) (cs := [.int .i64 b, .int .i64 n, .int .i64 f, .bool false, .int .i64 i, .int .i64 o]) rfl rfl rfl HK.out Try.underlying35 rfl (by kernel_rfl)) rfl ⟨by rw [← HS.out], HB.out⟩
  · by_cases h3 : 3 ≤ i
    · have h3' : (i == 3) = true := by simp; omega
      have HS : Hid _ := (if_pos (.inr h3)).symm.trans hS
      clear hS
      go_enter Try.func83, Try.ntmps83
      go_upto_region 1 with fail
      rw [← hW]
      clear hW
      have a0 := A.cell 0
      have a1 := A.cell 1
      have a2 := A.cell 2
      have a3 := A.cell 3
      have a4 := A.cell 4
      have a5 := A.cell 5
      simp at a0 a1 a2 a3 a4 a5
      have c0 := R.cell 0
      have c1 := R.cell 1
      have c2 := R.cell 2
      have c3 := R.cell 3
      simp at c0 c1 c2 c3
      have fR := Q.frozen
      have lR := Q.lt
      have q0 := Q.cell 0
      have q1 := Q.cell 1
      have q2 := Q.cell 2
      have q3 := Q.cell 3
      have q4 := Q.cell 4
      have q5 := Q.cell 5
      simp at q0 q1 q2 q3 q4 q5
      have HK : Hid _ := set6 Q (.int .i64 b) (.int .i64 n) (.int .i64 f) (.bool true) (.int .i64 i) (.int .i64 o)
      have HB : Hid _ := bel_set6 B (show w.heap.size ≤ w.heap.size + 2 by omega) (.int .i64 b) (.int .i64 n) (.int .i64 f) (.bool true) (.int .i64 i) (.int .i64 o)
      clear Q B
      go_wp2
      exact bodyPost_ret (results_row_tmp (v := .bool false) (t := 35) (cs := [.int .i64 b, .int .i64 n, .int .i64 f, .bool true, .int .i64 i, .int .i64 o]) rfl rfl rfl HK.out Try.underlying35 rfl (by kernel_rfl)) rfl ⟨by rw [← HS.out], HB.out⟩
    · have h3' : (i == 3) = false := by simp; omega
      have HS : Hid _ := (if_neg (show ¬ (true = false ∨ 3 ≤ i) by simpa using h3)).symm.trans hS
      clear hS
      go_enter Try.func83, Try.ntmps83
      go_upto_region 1 with fail
      rw [← hW]
      clear hW
      have a0 := A.cell 0
      have a1 := A.cell 1
      have a2 := A.cell 2
      have a3 := A.cell 3
      have a4 := A.cell 4
      have a5 := A.cell 5
      simp at a0 a1 a2 a3 a4 a5
      have c0 := R.cell 0
      have c1 := R.cell 1
      have c2 := R.cell 2
      have c3 := R.cell 3
      simp at c0 c1 c2 c3
      have hw : IntKind.i64.wrap (i + 1) = i + 1 := wr64 (by omega) (by omega)
      have fA := A.frozen
      have lA := A.lt
      have A2 := A.set 4 (.int .i64 (i + 1))
      have Q2 := Q.other ⟨w.heap.size, 4, none⟩ (.int .i64 (i + 1)) (by simp)
      have B2 := B.setCell (p := ⟨w.heap.size, 4, none⟩) (Nat.le_refl _) (.int .i64 (i + 1))
      simp at A2
      go_upto_region 4 with fail
      generalize W.setCell ⟨w.heap.size, 4, none⟩ (.int .i64 (i + 1)) = Y at A2 Q2 B2 ⊢
      clear A Q B R fA lA a0 a1 a2 a3 a4 a5 c0 c1 c2 c3
      have a0 := A2.cell 0
      have a1 := A2.cell 1
      have a2 := A2.cell 2
      have a3 := A2.cell 3
      have a4 := A2.cell 4
      have a5 := A2.cell 5
      simp at a0 a1 a2 a3 a4 a5
      have fR := Q2.frozen
      have lR := Q2.lt
      have q0 := Q2.cell 0
      have q1 := Q2.cell 1
      have q2 := Q2.cell 2
      have q3 := Q2.cell 3
      have q4 := Q2.cell 4
      have q5 := Q2.cell 5
      simp at q0 q1 q2 q3 q4 q5
      have HK : Hid _ := set6 Q2 (.int .i64 b) (.int .i64 n) (.int .i64 f) (.bool true) (.int .i64 (i + 1)) (.int .i64 o)
      have HB : Hid _ := bel_set6 B2 (show w.heap.size ≤ w.heap.size + 2 by omega) (.int .i64 b) (.int .i64 n) (.int .i64 f) (.bool true) (.int .i64 (i + 1)) (.int .i64 o)
      clear Q2 B2
      go_wp2
      exact bodyPost_ret (results_row_tmp (v := .bool true) (t := 35) (cs := [.int .i64 b, .int .i64 n, .int .i64 f, .bool true, .int .i64 (i + 1), .int .i64 o]) rfl rfl rfl HK.out Try.underlying35 rfl (by kernel_rfl)) rfl ⟨by rw [← HS.out], HB.out⟩
theorem implConfirmed (b n f : Int) (t : Bool) (i o k rb rn rf : Int) (w : World) :
    Calls Try.prog 84 #[btV b n f t i o, rcV k rb rn rf] w fun e w' => e = .returned (stV (if t = false then (⟨b, n, f, t, i, o⟩, false) else (⟨b, n, max f rf, false, 0, 0⟩, true))) ∧ Below w.heap.size w w' := by
  obtain ⟨S, hS⟩ : ∃ S, (if t = false then (⟨b, n, f, t, i, o⟩, false) else (⟨b, n, max f rf, false, 0, 0⟩, true) : Bt × Bool) = S := ⟨_, rfl⟩
  rw [hS]
  obtain ⟨W, hW⟩ : ∃ W, W = ((w.alloc (.cells #[.int .i64 b, .int .i64 n, .int .i64 f, .bool t, .int .i64 i, .int .i64 o] 35)).alloc (.cells #[.int .i64 k, .int .i64 rb, .int .i64 rn, .int .i64 rf] 29)).alloc (.cells #[.int .i64 0, .int .i64 0, .int .i64 0, .bool false, .int .i64 0, .int .i64 0] 35) := ⟨_, rfl⟩
  have B : Below w.heap.size w W := by rw [hW]; exact (((Below.refl _ _).alloc (Nat.le_refl _) _).alloc (by simp) _).alloc (by simp; omega) _
  have A : Arr W w.heap.size 35 [.int .i64 b, .int .i64 n, .int .i64 f, .bool t, .int .i64 i, .int .i64 o] := by rw [hW]; exact ((Arr.new w [.int .i64 b, .int .i64 n, .int .i64 f, .bool t, .int .i64 i, .int .i64 o] 35).alloc (.cells #[.int .i64 k, .int .i64 rb, .int .i64 rn, .int .i64 rf] 29)).alloc (.cells #[.int .i64 0, .int .i64 0, .int .i64 0, .bool false, .int .i64 0, .int .i64 0] 35)
  have R : Arr W (w.heap.size + 1) 29 [.int .i64 k, .int .i64 rb, .int .i64 rn, .int .i64 rf] := by rw [hW]; have := (Arr.new (w.alloc (.cells #[.int .i64 b, .int .i64 n, .int .i64 f, .bool t, .int .i64 i, .int .i64 o] 35)) [.int .i64 k, .int .i64 rb, .int .i64 rn, .int .i64 rf] 29).alloc (.cells #[.int .i64 0, .int .i64 0, .int .i64 0, .bool false, .int .i64 0, .int .i64 0] 35); simpa using this
  have Q : Arr W (w.heap.size + 2) 35 [.int .i64 0, .int .i64 0, .int .i64 0, .bool false, .int .i64 0, .int .i64 0] := by rw [hW]; have := Arr.new ((w.alloc (.cells #[.int .i64 b, .int .i64 n, .int .i64 f, .bool t, .int .i64 i, .int .i64 o] 35)).alloc (.cells #[.int .i64 k, .int .i64 rb, .int .i64 rn, .int .i64 rf] 29)) [.int .i64 0, .int .i64 0, .int .i64 0, .bool false, .int .i64 0, .int .i64 0] 35; simpa using this
  cases t
  · have HS : Hid _ := (if_pos rfl).symm.trans hS
    clear hS
    go_enter Try.func84, Try.ntmps84
    go_upto_region 1 with fail
    rw [← hW]
    clear hW
    have a0 := A.cell 0
    have a1 := A.cell 1
    have a2 := A.cell 2
    have a3 := A.cell 3
    have a4 := A.cell 4
    have a5 := A.cell 5
    simp at a0 a1 a2 a3 a4 a5
    have c0 := R.cell 0
    have c1 := R.cell 1
    have c2 := R.cell 2
    have c3 := R.cell 3
    simp at c0 c1 c2 c3
    have fR := Q.frozen
    have lR := Q.lt
    have q0 := Q.cell 0
    have q1 := Q.cell 1
    have q2 := Q.cell 2
    have q3 := Q.cell 3
    have q4 := Q.cell 4
    have q5 := Q.cell 5
    simp at q0 q1 q2 q3 q4 q5
    have HK : Hid _ := set6 Q (.int .i64 b) (.int .i64 n) (.int .i64 f) (.bool false) (.int .i64 i) (.int .i64 o)
    have HB : Hid _ := bel_set6 B (show w.heap.size ≤ w.heap.size + 2 by omega) (.int .i64 b) (.int .i64 n) (.int .i64 f) (.bool false) (.int .i64 i) (.int .i64 o)
    clear Q B
    go_wp2
    exact bodyPost_ret (results_row_tmp (v := .bool false) (t := 35) (cs := [.int .i64 b, .int .i64 n, .int .i64 f, .bool false, .int .i64 i, .int .i64 o]) rfl rfl rfl HK.out Try.underlying35 rfl (by kernel_rfl)) rfl ⟨by rw [← HS.out], HB.out⟩
  · have HS0 := (if_neg (show ¬ (true = false) by simp)).symm.trans hS
    clear hS
    by_cases hf : f < rf
    · have hm : max f rf = rf := by omega
      rw [hm] at HS0
      have HS : Hid _ := HS0
      clear HS0
      go_enter Try.func84, Try.ntmps84
      go_upto_region 1 with fail
      rw [← hW]
      clear hW
      have a0 := A.cell 0
      have a1 := A.cell 1
      have a2 := A.cell 2
      have a3 := A.cell 3
      have a4 := A.cell 4
      have a5 := A.cell 5
      simp at a0 a1 a2 a3 a4 a5
      have c0 := R.cell 0
      have c1 := R.cell 1
      have c2 := R.cell 2
      have c3 := R.cell 3
      simp at c0 c1 c2 c3
      have fR := Q.frozen
      have lR := Q.lt
      have q0 := Q.cell 0
      have q1 := Q.cell 1
      have q2 := Q.cell 2
      have q3 := Q.cell 3
      have q4 := Q.cell 4
      have q5 := Q.cell 5
      simp at q0 q1 q2 q3 q4 q5
      have HK : Hid _ := set6 Q (.int .i64 b) (.int .i64 n) (.int .i64 rf) (.bool false) (.int .i64 0) (.int .i64 0)
      have HB : Hid _ := bel_set6 B (show w.heap.size ≤ w.heap.size + 2 by omega) (.int .i64 b) (.int .i64 n) (.int .i64 rf) (.bool false) (.int .i64 0) (.int .i64 0)
      clear Q B
      go_wp2
      exact bodyPost_ret (results_row_tmp (v := .bool true) (t := 35) (cs := [.int .i64 b, .int .i64 n, .int .i64 rf, .bool false, .int .i64 0, .int .i64 0]) rfl rfl rfl HK.out Try.underlying35 rfl (by kernel_rfl)) rfl ⟨by rw [← HS.out], HB.out⟩
    · have hm : max f rf = f := by omega
      rw [hm] at HS0
      have HS : Hid _ := HS0
      clear HS0
      go_enter Try.func84, Try.ntmps84
      go_upto_region 1 with fail
      rw [← hW]
      clear hW
      have a0 := A.cell 0
      have a1 := A.cell 1
      have a2 := A.cell 2
      have a3 := A.cell 3
      have a4 := A.cell 4
      have a5 := A.cell 5
      simp at a0 a1 a2 a3 a4 a5
      have c0 := R.cell 0
      have c1 := R.cell 1
      have c2 := R.cell 2
      have c3 := R.cell 3
      simp at c0 c1 c2 c3
      have fR := Q.frozen
      have lR := Q.lt
      have q0 := Q.cell 0
      have q1 := Q.cell 1
      have q2 := Q.cell 2
      have q3 := Q.cell 3
      have q4 := Q.cell 4
      have q5 := Q.cell 5
      simp at q0 q1 q2 q3 q4 q5
      have HK : Hid _ := set6 Q (.int .i64 b) (.int .i64 n) (.int .i64 f) (.bool false) (.int .i64 0) (.int .i64 0)
      have HB : Hid _ := bel_set6 B (show w.heap.size ≤ w.heap.size + 2 by omega) (.int .i64 b) (.int .i64 n) (.int .i64 f) (.bool false) (.int .i64 0) (.int .i64 0)
      clear Q B
      go_wp2
      exact bodyPost_ret (results_row_tmp (v := .bool true) (t := 35) (cs := [.int .i64 b, .int .i64 n, .int .i64 f, .bool false, .int .i64 0, .int .i64 0]) rfl rfl rfl HK.out Try.underlying35 rfl (by kernel_rfl)) rfl ⟨by rw [← HS.out], HB.out⟩
theorem implOther (x : Int) (w : World) (hx : 0 ≤ x ∧ x ≤ 1) : Calls Try.prog 56 #[.int .i64 x] w fun e w' => e = .returned (.int .i64 (1 - x)) ∧ w' = w := by
  have hw : IntKind.i64.wrap (1 - x) = 1 - x := wr64 (by omega) (by omega)
  go_enter Try.func56, Try.ntmps56
  go_wp2
  go_ret
  exact ⟨rfl, rfl⟩
theorem implBack (b n f : Int) (t : Bool) (i o k rb rn rf : Int) (w : World) (hb : 0 ≤ b ∧ b ≤ 1) :
    Calls Try.prog 85 #[btV b n f t i o, rcV k rb rn rf] w fun e w' => e = .returned (stV (if t = false then (⟨b, n, f, t, i, o⟩, false) else (⟨1 - b, o, f, false, 0, 0⟩, true))) ∧ Below w.heap.size w w' := by
  obtain ⟨S, hS⟩ : ∃ S, (if t = false then (⟨b, n, f, t, i, o⟩, false) else (⟨1 - b, o, f, false, 0, 0⟩, true) : Bt × Bool) = S := ⟨_, rfl⟩
  rw [hS]
  obtain ⟨W, hW⟩ : ∃ W, W = ((w.alloc (.cells #[.int .i64 b, .int .i64 n, .int .i64 f, .bool t, .int .i64 i, .int .i64 o] 35)).alloc (.cells #[.int .i64 k, .int .i64 rb, .int .i64 rn, .int .i64 rf] 29)).alloc (.cells #[.int .i64 0, .int .i64 0, .int .i64 0, .bool false, .int .i64 0, .int .i64 0] 35) := ⟨_, rfl⟩
  have B : Below w.heap.size w W := by rw [hW]; exact (((Below.refl _ _).alloc (Nat.le_refl _) _).alloc (by simp) _).alloc (by simp; omega) _
  have A : Arr W w.heap.size 35 [.int .i64 b, .int .i64 n, .int .i64 f, .bool t, .int .i64 i, .int .i64 o] := by rw [hW]; exact ((Arr.new w [.int .i64 b, .int .i64 n, .int .i64 f, .bool t, .int .i64 i, .int .i64 o] 35).alloc (.cells #[.int .i64 k, .int .i64 rb, .int .i64 rn, .int .i64 rf] 29)).alloc (.cells #[.int .i64 0, .int .i64 0, .int .i64 0, .bool false, .int .i64 0, .int .i64 0] 35)
  have R : Arr W (w.heap.size + 1) 29 [.int .i64 k, .int .i64 rb, .int .i64 rn, .int .i64 rf] := by rw [hW]; have := (Arr.new (w.alloc (.cells #[.int .i64 b, .int .i64 n, .int .i64 f, .bool t, .int .i64 i, .int .i64 o] 35)) [.int .i64 k, .int .i64 rb, .int .i64 rn, .int .i64 rf] 29).alloc (.cells #[.int .i64 0, .int .i64 0, .int .i64 0, .bool false, .int .i64 0, .int .i64 0] 35); simpa using this
  have Q : Arr W (w.heap.size + 2) 35 [.int .i64 0, .int .i64 0, .int .i64 0, .bool false, .int .i64 0, .int .i64 0] := by rw [hW]; have := Arr.new ((w.alloc (.cells #[.int .i64 b, .int .i64 n, .int .i64 f, .bool t, .int .i64 i, .int .i64 o] 35)).alloc (.cells #[.int .i64 k, .int .i64 rb, .int .i64 rn, .int .i64 rf] 29)) [.int .i64 0, .int .i64 0, .int .i64 0, .bool false, .int .i64 0, .int .i64 0] 35; simpa using this
  cases t
  · have HS : Hid _ := (if_pos rfl).symm.trans hS
    clear hS
    go_enter Try.func85, Try.ntmps85
    go_upto_region 1 with fail
    rw [← hW]
    clear hW
    have a0 := A.cell 0
    have a1 := A.cell 1
    have a2 := A.cell 2
    have a3 := A.cell 3
    have a4 := A.cell 4
    have a5 := A.cell 5
    simp at a0 a1 a2 a3 a4 a5
    have c0 := R.cell 0
    have c1 := R.cell 1
    have c2 := R.cell 2
    have c3 := R.cell 3
    simp at c0 c1 c2 c3
    have fR := Q.frozen
    have lR := Q.lt
    have q0 := Q.cell 0
    have q1 := Q.cell 1
    have q2 := Q.cell 2
    have q3 := Q.cell 3
    have q4 := Q.cell 4
    have q5 := Q.cell 5
    simp at q0 q1 q2 q3 q4 q5
    have HK : Hid _ := set6 Q (.int .i64 b) (.int .i64 n) (.int .i64 f) (.bool false) (.int .i64 i) (.int .i64 o)
    have HB : Hid _ := bel_set6 B (show w.heap.size ≤ w.heap.size + 2 by omega) (.int .i64 b) (.int .i64 n) (.int .i64 f) (.bool false) (.int .i64 i) (.int .i64 o)
    clear Q B
    go_wp2
    exact bodyPost_ret (results_row_tmp (v := .bool false) (t := 35) (cs := [.int .i64 b, .int .i64 n, .int .i64 f, .bool false, .int .i64 i, .int .i64 o]) rfl rfl rfl HK.out Try.underlying35 rfl (by kernel_rfl)) rfl ⟨by rw [← HS.out], HB.out⟩
  · have HS : Hid _ := (if_neg (show ¬ (true = false) by simp)).symm.trans hS
    clear hS
    go_enter Try.func85, Try.ntmps85
    go_upto_region 1 with fail
    rw [← hW]
    clear hW
    have a0 := A.cell 0
    have a1 := A.cell 1
    have a2 := A.cell 2
    have a3 := A.cell 3
    have a4 := A.cell 4
    have a5 := A.cell 5
    simp at a0 a1 a2 a3 a4 a5
    have c0 := R.cell 0
    have c1 := R.cell 1
    have c2 := R.cell 2
    have c3 := R.cell 3
    simp at c0 c1 c2 c3
    go_wp2
    try simp only [Act.put]
    refine tame [kc 10 (.pointer (some ⟨w.heap.size, 0, none⟩)), kc 11 (.int .i64 b), kc 12 (.int .i64 (1 - b)), kc 13 (.pointer (some ⟨w.heap.size, 5, none⟩)), kc 14 (.int .i64 o), kc 15 (.pointer (some ⟨w.heap.size, 2, none⟩)), kc 16 (.int .i64 f), kc 17 (.agg #[.int .i64 (1 - b), .int .i64 o, .int .i64 f, .bool false, .int .i64 0, .int .i64 0])] 8 (by kernel_rfl) (by kernel_rfl) (by kernel_rfl) (by repeat' first | exact trivial | apply kc_keeps | constructor) 2 (by kernel_rfl) (fun vv ll hh yW bW => ?_) (fun vv ll hh yW bW F ivh aph => ?_)
    · have x0 := (bW.cell (p := ⟨w.heap.size, 0, none⟩) A.lt).trans a0
      have x1 := (bW.cell (p := ⟨w.heap.size, 1, none⟩) A.lt).trans a1
      have x2 := (bW.cell (p := ⟨w.heap.size, 2, none⟩) A.lt).trans a2
      have x3 := (bW.cell (p := ⟨w.heap.size, 3, none⟩) A.lt).trans a3
      have x4 := (bW.cell (p := ⟨w.heap.size, 4, none⟩) A.lt).trans a4
      have x5 := (bW.cell (p := ⟨w.heap.size, 5, none⟩) A.lt).trans a5
      refine ⟨tp (by kernel_rfl), tp ?_, tc ((implOther b _ hb).mono (by rintro e w9 ⟨rfl, rfl⟩; exact ⟨rfl, Below.refl _ _⟩)) (by kernel_rfl), tp (by kernel_rfl), tp ?_, tp (by kernel_rfl), tp ?_, tp (by kernel_rfl), trivial⟩
      all_goals
        simp only [fillK, putT, List.setIfInBounds_toArray, List.set_cons_zero, List.set_cons_succ]
        unfold execOp
        try go_simp
        all_goals first | rfl | (refine wr64 ?_ ?_ <;> omega)
    clear F ivh aph
    obtain ⟨y, hy⟩ : ∃ z, z = yW := ⟨_, rfl⟩
    rw [← hy] at bW ⊢
    clear hy
    have K1 := Q.kept bW
    refine st_row (i := 8) (by kernel_rfl) rfl rfl rfl rfl (cells := [.int .i64 (1 - b), .int .i64 o, .int .i64 f, .bool false, .int .i64 0, .int .i64 0]) K1 (by kernel_rfl) (by kernel_rfl) rfl (by kernel_rfl) (by intro v hv; simp at hv; rcases hv with rfl | rfl | rfl | rfl | rfl | rfl <;> rfl) ?_
    refine st_set (i := 9) (by kernel_rfl) rfl rfl (v := .bool true) (by kernel_rfl) ?_
    refine wpAny_done (by kernel_rfl) ?_ _
    simp only [fillK, putT, List.setIfInBounds_toArray, List.set_cons_zero, List.set_cons_succ]
    have A2 : Arr (y.setCells (w.heap.size + 2) 0 [.int .i64 (1 - b), .int .i64 o, .int .i64 f, .bool false, .int .i64 0, .int .i64 0]) (w.heap.size + 2) 35 [.int .i64 (1 - b), .int .i64 o, .int .i64 f, .bool false, .int .i64 0, .int .i64 0] := (((((K1.set 0 _).set 1 _).set 2 _).set 3 _).set 4 _).set 5 _
    have B2 : Below w.heap.size w (y.setCells (w.heap.size + 2) 0 [.int .i64 (1 - b), .int .i64 o, .int .i64 f, .bool false, .int .i64 0, .int .i64 0]) := bel_set6 (B.trans (bW.mono B.size)) (show w.heap.size ≤ w.heap.size + 2 by omega) _ _ _ _ _ _
    generalize y.setCells (w.heap.size + 2) 0 [.int .i64 (1 - b), .int .i64 o, .int .i64 f, .bool false, .int .i64 0, .int .i64 0] = Y at A2 B2 ⊢
    go_wp2
    exact bodyPost_ret (results_row_tmp (v := .bool true) (t := 35) (cs := [.int .i64 (1 - b), .int .i64 o, .int .i64 f, .bool false, .int .i64 0, .int .i64 0]) rfl rfl rfl A2 Try.underlying35 rfl (by kernel_rfl)) rfl ⟨by rw [← HS.out], B2⟩
end Go.Proofs.Ytjceajgefpinpaa
