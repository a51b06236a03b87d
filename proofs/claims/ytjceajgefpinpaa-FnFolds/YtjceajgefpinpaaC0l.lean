/-
  What is proved here: what both sides' BootOk answer.
-/
import Derived.Test.YtjceajgefpinpaaC0a
namespace Go.Proofs.Ytjceajgefpinpaa
open Go.RowKit
set_option maxRecDepth 100000
set_option maxHeartbeats 4000000
set_option linter.unusedVariables false

theorem specBootOk (b n f : Int) (t : Bool) (i o : Int) (w : World) : Calls Try.prog 36 #[btV b n f t i o] w fun e w' => e = .returned (.bool (decide (btOk b n f t i o))) ∧ Below w.heap.size w w' := by
  obtain ⟨R, hR, HT, HF⟩ := by_dec0 (btOk b n f t i o)
  rw [hR]
  clear hR
  obtain ⟨W, hW⟩ : ∃ W, W = w.alloc (.cells #[.int .i64 b, .int .i64 n, .int .i64 f, .bool t, .int .i64 i, .int .i64 o] 35) := ⟨_, rfl⟩
  have B : Hid (Below w.heap.size w W) := by unfold Hid; rw [hW]; exact (Below.refl _ _).alloc (Nat.le_refl _) _
  have A : Arr W w.heap.size 35 [.int .i64 b, .int .i64 n, .int .i64 f, .bool t, .int .i64 i, .int .i64 o] := by rw [hW]; exact Arr.new _ _ _
  have c0 := A.cell 0
  have c1 := A.cell 1
  have c2 := A.cell 2
  have c3 := A.cell 3
  have c4 := A.cell 4
  have c5 := A.cell 5
  simp at c0 c1 c2 c3 c4 c5
  clear A
  go_enter Try.func36, Try.ntmps36
  go_upto_region 1 with fail
  rw [← hW]
  clear hW
  cases t
  · by_cases h1 : 0 ≤ b
    case neg =>
      go_wp2
      go_ret
      exact ⟨by first | (rw [HF.out (by simp; omega)]; first | rfl | (simp; omega)) | (rw [HT.out (by refine ⟨by omega, by omega, by omega, ?_⟩; simp; omega)]; first | rfl | (simp; omega)), B.out⟩
    by_cases h2 : b ≤ 1
    case neg =>
      go_wp2
      go_ret
      exact ⟨by first | (rw [HF.out (by simp; omega)]; first | rfl | (simp; omega)) | (rw [HT.out (by refine ⟨by omega, by omega, by omega, ?_⟩; simp; omega)]; first | rfl | (simp; omega)), B.out⟩
    by_cases h3 : 1 ≤ n
    case neg =>
      go_wp2
      go_ret
      exact ⟨by first | (rw [HF.out (by simp; omega)]; first | rfl | (simp; omega)) | (rw [HT.out (by refine ⟨by omega, by omega, by omega, ?_⟩; simp; omega)]; first | rfl | (simp; omega)), B.out⟩
    go_wp2_with fail
    refine (spec8ver n _).mono ?_
    rintro e w1 ⟨rfl, hw⟩
    rw [hw]
    clear hw
    by_cases h4 : 0 ≤ n ∧ n ≤ 1000
    case neg =>
      rw [decide_eq_false h4]
      go_wp2
      go_ret
      exact ⟨by first | (rw [HF.out (by simp; omega)]; first | rfl | (simp; omega)) | (rw [HT.out (by refine ⟨by omega, by omega, by omega, ?_⟩; simp; omega)]; first | rfl | (simp; omega)), B.out⟩
    rw [decide_eq_true h4]
    go_wp2_with fail
    refine (spec8ver f _).mono ?_
    rintro e w1 ⟨rfl, hw⟩
    rw [hw]
    clear hw
    by_cases h5 : 0 ≤ f ∧ f ≤ 1000
    case neg =>
      rw [decide_eq_false h5]
      go_wp2
      go_ret
      exact ⟨by first | (rw [HF.out (by simp; omega)]; first | rfl | (simp; omega)) | (rw [HT.out (by refine ⟨by omega, by omega, by omega, ?_⟩; simp; omega)]; first | rfl | (simp; omega)), B.out⟩
    rw [decide_eq_true h5]
    by_cases h6 : 0 ≤ i
    case neg =>
      go_wp2
      go_ret
      exact ⟨by first | (rw [HF.out (by simp; omega)]; first | rfl | (simp; omega)) | (rw [HT.out (by refine ⟨by omega, by omega, by omega, ?_⟩; simp; omega)]; first | rfl | (simp; omega)), B.out⟩
    by_cases h7 : i ≤ 3
    case neg =>
      go_wp2
      go_ret
      exact ⟨by first | (rw [HF.out (by simp; omega)]; first | rfl | (simp; omega)) | (rw [HT.out (by refine ⟨by omega, by omega, by omega, ?_⟩; simp; omega)]; first | rfl | (simp; omega)), B.out⟩
    go_wp2_with fail
    refine (spec8ver o _).mono ?_
    rintro e w1 ⟨rfl, hw⟩
    rw [hw]
    clear hw
    by_cases h8 : 0 ≤ o ∧ o ≤ 1000
    case neg =>
      rw [decide_eq_false h8]
      go_wp2
      go_ret
      exact ⟨by first | (rw [HF.out (by simp; omega)]; first | rfl | (simp; omega)) | (rw [HT.out (by refine ⟨by omega, by omega, by omega, ?_⟩; simp; omega)]; first | rfl | (simp; omega)), B.out⟩
    rw [decide_eq_true h8]
    by_cases g_i : i = 0
    case neg =>
      have g_i' : (i == 0) = false := by simpa using g_i
      go_wp2
      go_ret
      exact ⟨by first | (rw [HF.out (by simp; omega)]; first | rfl | (simp; omega)) | (rw [HT.out (by refine ⟨by omega, by omega, by omega, ?_⟩; simp; omega)]; first | rfl | (simp; omega)), B.out⟩
    have g_i' : (i == 0) = true := by simpa using g_i
    have K_g_i : Hid (i = 0) := g_i
    clear g_i
    by_cases g_o : o = 0
    case neg =>
      have g_o' : (o == 0) = false := by simpa using g_o
      go_wp2
      go_ret
      have g_i := K_g_i.out
      exact ⟨by first | (rw [HF.out (by simp; omega)]; first | rfl | (simp; omega)) | (rw [HT.out (by refine ⟨by omega, by omega, by omega, ?_⟩; simp; omega)]; first | rfl | (simp; omega)), B.out⟩
    have g_o' : (o == 0) = true := by simpa using g_o
    have K_g_o : Hid (o = 0) := g_o
    clear g_o
    go_wp2
    go_ret
    have g_i := K_g_i.out
    have g_o := K_g_o.out
    exact ⟨by first | (rw [HF.out (by simp; omega)]; first | rfl | (simp; omega)) | (rw [HT.out (by refine ⟨by omega, by omega, by omega, ?_⟩; simp; omega)]; first | rfl | (simp; omega)), B.out⟩
  · by_cases h1 : 0 ≤ b
    case neg =>
      go_wp2
      go_ret
      exact ⟨by first | (rw [HF.out (by simp; omega)]; first | rfl | (simp; omega)) | (rw [HT.out (by refine ⟨by omega, by omega, by omega, ?_⟩; simp; omega)]; first | rfl | (simp; omega)), B.out⟩
    by_cases h2 : b ≤ 1
    case neg =>
      go_wp2
      go_ret
      exact ⟨by first | (rw [HF.out (by simp; omega)]; first | rfl | (simp; omega)) | (rw [HT.out (by refine ⟨by omega, by omega, by omega, ?_⟩; simp; omega)]; first | rfl | (simp; omega)), B.out⟩
    by_cases h3 : 1 ≤ n
    case neg =>
      go_wp2
      go_ret
      exact ⟨by first | (rw [HF.out (by simp; omega)]; first | rfl | (simp; omega)) | (rw [HT.out (by refine ⟨by omega, by omega, by omega, ?_⟩; simp; omega)]; first | rfl | (simp; omega)), B.out⟩
    go_wp2_with fail
    refine (spec8ver n _).mono ?_
    rintro e w1 ⟨rfl, hw⟩
    rw [hw]
    clear hw
    by_cases h4 : 0 ≤ n ∧ n ≤ 1000
    case neg =>
      rw [decide_eq_false h4]
      go_wp2
      go_ret
      exact ⟨by first | (rw [HF.out (by simp; omega)]; first | rfl | (simp; omega)) | (rw [HT.out (by refine ⟨by omega, by omega, by omega, ?_⟩; simp; omega)]; first | rfl | (simp; omega)), B.out⟩
    rw [decide_eq_true h4]
    go_wp2_with fail
    refine (spec8ver f _).mono ?_
    rintro e w1 ⟨rfl, hw⟩
    rw [hw]
    clear hw
    by_cases h5 : 0 ≤ f ∧ f ≤ 1000
    case neg =>
      rw [decide_eq_false h5]
      go_wp2
      go_ret
      exact ⟨by first | (rw [HF.out (by simp; omega)]; first | rfl | (simp; omega)) | (rw [HT.out (by refine ⟨by omega, by omega, by omega, ?_⟩; simp; omega)]; first | rfl | (simp; omega)), B.out⟩
    rw [decide_eq_true h5]
    by_cases h6 : 0 ≤ i
    case neg =>
      go_wp2
      go_ret
      exact ⟨by first | (rw [HF.out (by simp; omega)]; first | rfl | (simp; omega)) | (rw [HT.out (by refine ⟨by omega, by omega, by omega, ?_⟩; simp; omega)]; first | rfl | (simp; omega)), B.out⟩
    by_cases h7 : i ≤ 3
    case neg =>
      go_wp2
      go_ret
      exact ⟨by first | (rw [HF.out (by simp; omega)]; first | rfl | (simp; omega)) | (rw [HT.out (by refine ⟨by omega, by omega, by omega, ?_⟩; simp; omega)]; first | rfl | (simp; omega)), B.out⟩
    go_wp2_with fail
    refine (spec8ver o _).mono ?_
    rintro e w1 ⟨rfl, hw⟩
    rw [hw]
    clear hw
    by_cases h8 : 0 ≤ o ∧ o ≤ 1000
    case neg =>
      rw [decide_eq_false h8]
      go_wp2
      go_ret
      exact ⟨by first | (rw [HF.out (by simp; omega)]; first | rfl | (simp; omega)) | (rw [HT.out (by refine ⟨by omega, by omega, by omega, ?_⟩; simp; omega)]; first | rfl | (simp; omega)), B.out⟩
    rw [decide_eq_true h8]
    by_cases h9 : 1 ≤ o
    case neg =>
      go_wp2
      go_ret
      exact ⟨by first | (rw [HF.out (by simp; omega)]; first | rfl | (simp; omega)) | (rw [HT.out (by refine ⟨by omega, by omega, by omega, ?_⟩; simp; omega)]; first | rfl | (simp; omega)), B.out⟩
    go_wp2
    go_ret
    exact ⟨by first | (rw [HF.out (by simp; omega)]; first | rfl | (simp; omega)) | (rw [HT.out (by refine ⟨by omega, by omega, by omega, ?_⟩; simp; omega)]; first | rfl | (simp; omega)), B.out⟩
theorem implBootOk (b n f : Int) (t : Bool) (i o : Int) (w : World) : Calls Try.prog 21 #[btV b n f t i o] w fun e w' => e = .returned (.bool (decide (btOk b n f t i o))) ∧ Below w.heap.size w w' := by
  obtain ⟨R, hR, HT, HF⟩ := by_dec0 (btOk b n f t i o)
  rw [hR]
  clear hR
  obtain ⟨W, hW⟩ : ∃ W, W = w.alloc (.cells #[.int .i64 b, .int .i64 n, .int .i64 f, .bool t, .int .i64 i, .int .i64 o] 35) := ⟨_, rfl⟩
  have B : Hid (Below w.heap.size w W) := by unfold Hid; rw [hW]; exact (Below.refl _ _).alloc (Nat.le_refl _) _
  have A : Arr W w.heap.size 35 [.int .i64 b, .int .i64 n, .int .i64 f, .bool t, .int .i64 i, .int .i64 o] := by rw [hW]; exact Arr.new _ _ _
  have c0 := A.cell 0
  have c1 := A.cell 1
  have c2 := A.cell 2
  have c3 := A.cell 3
  have c4 := A.cell 4
  have c5 := A.cell 5
  simp at c0 c1 c2 c3 c4 c5
  clear A
  go_enter Try.func21, Try.ntmps21
  go_upto_region 1 with fail
  rw [← hW]
  clear hW
  cases t
  · go_wp2_with fail
    refine (implIsBank b _).mono ?_
    rintro e w1 ⟨rfl, hw⟩
    rw [hw]
    clear hw
    by_cases v_b : 0 ≤ b ∧ b ≤ 1
    case neg =>
      rw [decide_eq_false v_b]
      go_wp2
      go_ret
      exact ⟨by first | (rw [HF.out (by simp; omega)]; first | rfl | (simp; omega)) | (rw [HT.out (by refine ⟨by omega, by omega, by omega, ?_⟩; simp; omega)]; first | rfl | (simp; omega)), B.out⟩
    rw [decide_eq_true v_b]
    go_wp2_with fail
    refine (implIsNum n _).mono ?_
    rintro e w1 ⟨rfl, hw⟩
    rw [hw]
    clear hw
    by_cases v_n : 1 ≤ n ∧ n ≤ 1000
    case neg =>
      rw [decide_eq_false v_n]
      go_wp2
      go_ret
      exact ⟨by first | (rw [HF.out (by simp; omega)]; first | rfl | (simp; omega)) | (rw [HT.out (by refine ⟨by omega, by omega, by omega, ?_⟩; simp; omega)]; first | rfl | (simp; omega)), B.out⟩
    rw [decide_eq_true v_n]
    go_wp2_with fail
    refine (implIsVer f _).mono ?_
    rintro e w1 ⟨rfl, hw⟩
    rw [hw]
    clear hw
    by_cases v_f : 0 ≤ f ∧ f ≤ 1000
    case neg =>
      rw [decide_eq_false v_f]
      go_wp2
      go_ret
      exact ⟨by first | (rw [HF.out (by simp; omega)]; first | rfl | (simp; omega)) | (rw [HT.out (by refine ⟨by omega, by omega, by omega, ?_⟩; simp; omega)]; first | rfl | (simp; omega)), B.out⟩
    rw [decide_eq_true v_f]
    by_cases g_i : i = 0
    case neg =>
      have g_i' : (i == 0) = false := by simpa using g_i
      go_wp2
      go_ret
      exact ⟨by first | (rw [HF.out (by simp; omega)]; first | rfl | (simp; omega)) | (rw [HT.out (by refine ⟨by omega, by omega, by omega, ?_⟩; simp; omega)]; first | rfl | (simp; omega)), B.out⟩
    have g_i' : (i == 0) = true := by simpa using g_i
    have K_g_i : Hid (i = 0) := g_i
    clear g_i
    by_cases g_o : o = 0
    case neg =>
      have g_o' : (o == 0) = false := by simpa using g_o
      go_wp2
      go_ret
      have g_i := K_g_i.out
      exact ⟨by first | (rw [HF.out (by simp; omega)]; first | rfl | (simp; omega)) | (rw [HT.out (by refine ⟨by omega, by omega, by omega, ?_⟩; simp; omega)]; first | rfl | (simp; omega)), B.out⟩
    have g_o' : (o == 0) = true := by simpa using g_o
    have K_g_o : Hid (o = 0) := g_o
    clear g_o
    go_wp2
    go_ret
    have g_i := K_g_i.out
    have g_o := K_g_o.out
    exact ⟨by first | (rw [HF.out (by simp; omega)]; first | rfl | (simp; omega)) | (rw [HT.out (by refine ⟨by omega, by omega, by omega, ?_⟩; simp; omega)]; first | rfl | (simp; omega)), B.out⟩
  · go_wp2_with fail
    refine (implIsBank b _).mono ?_
    rintro e w1 ⟨rfl, hw⟩
    rw [hw]
    clear hw
    by_cases v_b : 0 ≤ b ∧ b ≤ 1
    case neg =>
      rw [decide_eq_false v_b]
      go_wp2
      go_ret
      exact ⟨by first | (rw [HF.out (by simp; omega)]; first | rfl | (simp; omega)) | (rw [HT.out (by refine ⟨by omega, by omega, by omega, ?_⟩; simp; omega)]; first | rfl | (simp; omega)), B.out⟩
    rw [decide_eq_true v_b]
    go_wp2_with fail
    refine (implIsNum n _).mono ?_
    rintro e w1 ⟨rfl, hw⟩
    rw [hw]
    clear hw
    by_cases v_n : 1 ≤ n ∧ n ≤ 1000
    case neg =>
      rw [decide_eq_false v_n]
      go_wp2
      go_ret
      exact ⟨by first | (rw [HF.out (by simp; omega)]; first | rfl | (simp; omega)) | (rw [HT.out (by refine ⟨by omega, by omega, by omega, ?_⟩; simp; omega)]; first | rfl | (simp; omega)), B.out⟩
    rw [decide_eq_true v_n]
    go_wp2_with fail
    refine (implIsVer f _).mono ?_
    rintro e w1 ⟨rfl, hw⟩
    rw [hw]
    clear hw
    by_cases v_f : 0 ≤ f ∧ f ≤ 1000
    case neg =>
      rw [decide_eq_false v_f]
      go_wp2
      go_ret
      exact ⟨by first | (rw [HF.out (by simp; omega)]; first | rfl | (simp; omega)) | (rw [HT.out (by refine ⟨by omega, by omega, by omega, ?_⟩; simp; omega)]; first | rfl | (simp; omega)), B.out⟩
    rw [decide_eq_true v_f]
    go_wp2_with fail
    refine (implIsIn i 0 3 _).mono ?_
    rintro e w1 ⟨rfl, hw⟩
    rw [hw]
    clear hw
    by_cases v_i : 0 ≤ i ∧ i ≤ 3
    case neg =>
      rw [decide_eq_false v_i]
      go_wp2
      go_ret
      exact ⟨by first | (rw [HF.out (by simp; omega)]; first | rfl | (simp; omega)) | (rw [HT.out (by refine ⟨by omega, by omega, by omega, ?_⟩; simp; omega)]; first | rfl | (simp; omega)), B.out⟩
    rw [decide_eq_true v_i]
    go_wp2_with fail
    refine (implIsNum o _).mono ?_
    rintro e w1 ⟨rfl, hw⟩
    rw [hw]
    clear hw
    by_cases v_o : 1 ≤ o ∧ o ≤ 1000
    case neg =>
      rw [decide_eq_false v_o]
      go_wp2
      go_ret
      exact ⟨by first | (rw [HF.out (by simp; omega)]; first | rfl | (simp; omega)) | (rw [HT.out (by refine ⟨by omega, by omega, by omega, ?_⟩; simp; omega)]; first | rfl | (simp; omega)), B.out⟩
    rw [decide_eq_true v_o]
    go_wp2
    go_ret
    exact ⟨by first | (rw [HF.out (by simp; omega)]; first | rfl | (simp; omega)) | (rw [HT.out (by refine ⟨by omega, by omega, by omega, ?_⟩; simp; omega)]; first | rfl | (simp; omega)), B.out⟩
end Go.Proofs.Ytjceajgefpinpaa
