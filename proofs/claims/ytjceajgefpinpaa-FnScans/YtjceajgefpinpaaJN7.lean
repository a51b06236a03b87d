/-
  What is proved here: what both sides' RecOk and BootOk answer; the contract of the laws' eqByteS.
-/
import Derived.Test.YtjceajgefpinpaaJN6
import Derived.Test.YtjceajgefpinpaaProg
import Derived.Test.YtjceajgefpinpaaJN1
import Derived.Deep.QuietTactic
import Derived.BigQuiet
namespace Go.Proofs.Ytjceajgefpinpaa
open Go.RowKit
set_option maxRecDepth 100000
set_option maxHeartbeats 4000000
set_option linter.unusedVariables false

theorem specRecOk (k b n f : Int) (w : World) : Calls Try.prog 22 #[rcV k b n f] w fun e w' => e = .returned (.bool (decide (rcOk k b n f))) ∧ Below w.heap.size w w' := by
  obtain ⟨R, hR, HT, HF⟩ := by_dec0 (rcOk k b n f)
  rw [hR]
  clear hR
  obtain ⟨W, hW⟩ : ∃ W, W = w.alloc (.cells #[.int .i64 k, .int .i64 b, .int .i64 n, .int .i64 f] 29) := ⟨_, rfl⟩
  have B : Hid (Below w.heap.size w W) := by unfold Hid; rw [hW]; exact (Below.refl _ _).alloc (Nat.le_refl _) _
  have A : Arr W w.heap.size 29 [.int .i64 k, .int .i64 b, .int .i64 n, .int .i64 f] := by rw [hW]; exact Arr.new _ _ _
  have c0 := A.cell 0
  have c1 := A.cell 1
  have c2 := A.cell 2
  have c3 := A.cell 3
  simp at c0 c1 c2 c3
  clear A
  go_enter Try.func22, Try.ntmps22
  go_upto_region 1 with fail
  rw [← hW]
  clear hW
  by_cases h1 : 1 ≤ k
  case neg =>
    go_wp2
    go_ret
    exact ⟨by first | (rw [HF.out (by omega)]; first | rfl | (simp; omega)) | (rw [HT.out (by omega)]; first | rfl | (simp; omega)), B.out⟩
  by_cases h2 : k ≤ 6
  case neg =>
    go_wp2
    go_ret
    exact ⟨by first | (rw [HF.out (by omega)]; first | rfl | (simp; omega)) | (rw [HT.out (by omega)]; first | rfl | (simp; omega)), B.out⟩
  by_cases h3 : 0 ≤ b
  case neg =>
    go_wp2
    go_ret
    exact ⟨by first | (rw [HF.out (by omega)]; first | rfl | (simp; omega)) | (rw [HT.out (by omega)]; first | rfl | (simp; omega)), B.out⟩
  by_cases h4 : b ≤ 1
  case neg =>
    go_wp2
    go_ret
    exact ⟨by first | (rw [HF.out (by omega)]; first | rfl | (simp; omega)) | (rw [HT.out (by omega)]; first | rfl | (simp; omega)), B.out⟩
  by_cases h5 : 0 ≤ n ∧ n ≤ 1000
  case neg =>
    go_wp2_with fail
    refine (spec8ver n _).mono ?_
    rintro e w1 ⟨rfl, hw⟩
    rw [hw, decide_eq_false h5]
    clear hw
    go_wp2
    go_ret
    exact ⟨by first | (rw [HF.out (by omega)]; first | rfl | (simp; omega)) | (rw [HT.out (by omega)]; first | rfl | (simp; omega)), B.out⟩
  by_cases h6 : 0 ≤ f ∧ f ≤ 1000
  case neg =>
    go_wp2_with fail
    refine (spec8ver n _).mono ?_
    rintro e w1 ⟨rfl, hw⟩
    rw [hw, decide_eq_true h5]
    clear hw
    go_wp2_with fail
    refine (spec8ver f _).mono ?_
    rintro e w1 ⟨rfl, hw⟩
    rw [hw, decide_eq_false h6]
    clear hw
    go_wp2
    go_ret
    exact ⟨by first | (rw [HF.out (by omega)]; first | rfl | (simp; omega)) | (rw [HT.out (by omega)]; first | rfl | (simp; omega)), B.out⟩
  go_wp2_with fail
  refine (spec8ver n _).mono ?_
  rintro e w1 ⟨rfl, hw⟩
  rw [hw, decide_eq_true h5]
  clear hw
  go_wp2_with fail
  refine (spec8ver f _).mono ?_
  rintro e w1 ⟨rfl, hw⟩
  rw [hw, decide_eq_true h6]
  clear hw
  have hk : k = 1 ∨ k = 2 ∨ k = 3 ∨ k = 5 ∨ k = 4 ∨ k = 6 := by omega
  rcases hk with rfl | rfl | rfl | rfl | rfl | rfl
  · by_cases g_b : b = 0
    case neg =>
      have g_b' : (b == 0) = false := by simpa using g_b
      go_wp2
      go_ret
      exact ⟨by first | (rw [HF.out (by omega)]; first | rfl | (simp; omega)) | (rw [HT.out (by omega)]; first | rfl | (simp; omega)), B.out⟩
    have g_b' : (b == 0) = true := by simpa using g_b
    by_cases g_f : f = 0
    case neg =>
      have g_f' : (f == 0) = false := by simpa using g_f
      go_wp2
      go_ret
      exact ⟨by first | (rw [HF.out (by omega)]; first | rfl | (simp; omega)) | (rw [HT.out (by omega)]; first | rfl | (simp; omega)), B.out⟩
    have g_f' : (f == 0) = true := by simpa using g_f
    go_wp2
    go_ret
    exact ⟨by first | (rw [HF.out (by omega)]; first | rfl | (simp; omega)) | (rw [HT.out (by omega)]; first | rfl | (simp; omega)), B.out⟩
  · by_cases g_n : 1 ≤ n
    case neg =>
      go_wp2
      go_ret
      exact ⟨by first | (rw [HF.out (by omega)]; first | rfl | (simp; omega)) | (rw [HT.out (by omega)]; first | rfl | (simp; omega)), B.out⟩
    go_wp2
    go_ret
    exact ⟨by first | (rw [HF.out (by omega)]; first | rfl | (simp; omega)) | (rw [HT.out (by omega)]; first | rfl | (simp; omega)), B.out⟩
  · by_cases g_n : 1 ≤ n
    case neg =>
      go_wp2
      go_ret
      exact ⟨by first | (rw [HF.out (by omega)]; first | rfl | (simp; omega)) | (rw [HT.out (by omega)]; first | rfl | (simp; omega)), B.out⟩
    by_cases g_f : f = 0
    case neg =>
      have g_f' : (f == 0) = false := by simpa using g_f
      go_wp2
      go_ret
      exact ⟨by first | (rw [HF.out (by omega)]; first | rfl | (simp; omega)) | (rw [HT.out (by omega)]; first | rfl | (simp; omega)), B.out⟩
    have g_f' : (f == 0) = true := by simpa using g_f
    go_wp2
    go_ret
    exact ⟨by first | (rw [HF.out (by omega)]; first | rfl | (simp; omega)) | (rw [HT.out (by omega)]; first | rfl | (simp; omega)), B.out⟩
  · by_cases g_b : b = 0
    case neg =>
      have g_b' : (b == 0) = false := by simpa using g_b
      go_wp2
      go_ret
      exact ⟨by first | (rw [HF.out (by omega)]; first | rfl | (simp; omega)) | (rw [HT.out (by omega)]; first | rfl | (simp; omega)), B.out⟩
    have g_b' : (b == 0) = true := by simpa using g_b
    by_cases g_n : n = 0
    case neg =>
      have g_n' : (n == 0) = false := by simpa using g_n
      go_wp2
      go_ret
      exact ⟨by first | (rw [HF.out (by omega)]; first | rfl | (simp; omega)) | (rw [HT.out (by omega)]; first | rfl | (simp; omega)), B.out⟩
    have g_n' : (n == 0) = true := by simpa using g_n
    go_wp2
    go_ret
    exact ⟨by first | (rw [HF.out (by omega)]; first | rfl | (simp; omega)) | (rw [HT.out (by omega)]; first | rfl | (simp; omega)), B.out⟩
  · by_cases g_b : b = 0
    case neg =>
      have g_b' : (b == 0) = false := by simpa using g_b
      go_wp2
      go_ret
      exact ⟨by first | (rw [HF.out (by omega)]; first | rfl | (simp; omega)) | (rw [HT.out (by omega)]; first | rfl | (simp; omega)), B.out⟩
    have g_b' : (b == 0) = true := by simpa using g_b
    by_cases g_n : n = 0
    case neg =>
      have g_n' : (n == 0) = false := by simpa using g_n
      go_wp2
      go_ret
      exact ⟨by first | (rw [HF.out (by omega)]; first | rfl | (simp; omega)) | (rw [HT.out (by omega)]; first | rfl | (simp; omega)), B.out⟩
    have g_n' : (n == 0) = true := by simpa using g_n
    by_cases g_f : f = 0
    case neg =>
      have g_f' : (f == 0) = false := by simpa using g_f
      go_wp2
      go_ret
      exact ⟨by first | (rw [HF.out (by omega)]; first | rfl | (simp; omega)) | (rw [HT.out (by omega)]; first | rfl | (simp; omega)), B.out⟩
    have g_f' : (f == 0) = true := by simpa using g_f
    go_wp2
    go_ret
    exact ⟨by first | (rw [HF.out (by omega)]; first | rfl | (simp; omega)) | (rw [HT.out (by omega)]; first | rfl | (simp; omega)), B.out⟩
  · by_cases g_b : b = 0
    case neg =>
      have g_b' : (b == 0) = false := by simpa using g_b
      go_wp2
      go_ret
      exact ⟨by first | (rw [HF.out (by omega)]; first | rfl | (simp; omega)) | (rw [HT.out (by omega)]; first | rfl | (simp; omega)), B.out⟩
    have g_b' : (b == 0) = true := by simpa using g_b
    by_cases g_n : n = 0
    case neg =>
      have g_n' : (n == 0) = false := by simpa using g_n
      go_wp2
      go_ret
      exact ⟨by first | (rw [HF.out (by omega)]; first | rfl | (simp; omega)) | (rw [HT.out (by omega)]; first | rfl | (simp; omega)), B.out⟩
    have g_n' : (n == 0) = true := by simpa using g_n
    by_cases g_f : f = 0
    case neg =>
      have g_f' : (f == 0) = false := by simpa using g_f
      go_wp2
      go_ret
      exact ⟨by first | (rw [HF.out (by omega)]; first | rfl | (simp; omega)) | (rw [HT.out (by omega)]; first | rfl | (simp; omega)), B.out⟩
    have g_f' : (f == 0) = true := by simpa using g_f
    go_wp2
    go_ret
    exact ⟨by first | (rw [HF.out (by omega)]; first | rfl | (simp; omega)) | (rw [HT.out (by omega)]; first | rfl | (simp; omega)), B.out⟩
theorem implRecOk (k b n f : Int) (w : World) : Calls Try.prog 20 #[rcV k b n f] w fun e w' => e = .returned (.bool (decide (rcOk k b n f))) ∧ Below w.heap.size w w' := by
  obtain ⟨R, hR, HT, HF⟩ := by_dec0 (rcOk k b n f)
  rw [hR]
  clear hR
  obtain ⟨W, hW⟩ : ∃ W, W = w.alloc (.cells #[.int .i64 k, .int .i64 b, .int .i64 n, .int .i64 f] 29) := ⟨_, rfl⟩
  have B : Hid (Below w.heap.size w W) := by unfold Hid; rw [hW]; exact (Below.refl _ _).alloc (Nat.le_refl _) _
  have A : Arr W w.heap.size 29 [.int .i64 k, .int .i64 b, .int .i64 n, .int .i64 f] := by rw [hW]; exact Arr.new _ _ _
  have c0 := A.cell 0
  have c1 := A.cell 1
  have c2 := A.cell 2
  have c3 := A.cell 3
  simp at c0 c1 c2 c3
  clear A
  go_enter Try.func20, Try.ntmps20
  go_upto_region 1 with fail
  rw [← hW]
  clear hW
  by_cases hk : k = 1 ∨ k = 2 ∨ k = 3 ∨ k = 5 ∨ k = 4 ∨ k = 6
  case neg =>
    have k1 : (k == 1) = false := by simp; omega
    have k2 : (k == 2) = false := by simp; omega
    have k3 : (k == 3) = false := by simp; omega
    have k4 : (k == 4) = false := by simp; omega
    have k5 : (k == 5) = false := by simp; omega
    have k6 : (k == 6) = false := by simp; omega
    have K : Hid (¬ (k = 1 ∨ k = 2 ∨ k = 3 ∨ k = 5 ∨ k = 4 ∨ k = 6)) := hk
    clear hk
    go_wp2
    go_ret
    exact ⟨by rw [HF.out (by have := K.out; omega)]; rfl, B.out⟩
  rcases hk with rfl | rfl | rfl | rfl | rfl | rfl
  · by_cases g_b : b = 0
    case neg =>
      have g_b' : (b == 0) = false := by simpa using g_b
      go_wp2
      go_ret
      exact ⟨by first | (rw [HF.out (by omega)]; first | rfl | (simp; omega)) | (rw [HT.out (by omega)]; first | rfl | (simp; omega)), B.out⟩
    have g_b' : (b == 0) = true := by simpa using g_b
    by_cases v_n : 0 ≤ n ∧ n ≤ 1000
    case neg =>
      go_wp2_with fail
      refine (implIsVer n _).mono ?_
      rintro e w1 ⟨rfl, hw⟩
      rw [hw, decide_eq_false v_n]
      clear hw
      go_wp2
      go_ret
      exact ⟨by first | (rw [HF.out (by omega)]; first | rfl | (simp; omega)) | (rw [HT.out (by omega)]; first | rfl | (simp; omega)), B.out⟩
    by_cases g_f : f = 0
    case neg =>
      have g_f' : (f == 0) = false := by simpa using g_f
      go_wp2_with fail
      refine (implIsVer n _).mono ?_
      rintro e w1 ⟨rfl, hw⟩
      rw [hw, decide_eq_true v_n]
      clear hw
      go_wp2
      go_ret
      exact ⟨by first | (rw [HF.out (by omega)]; first | rfl | (simp; omega)) | (rw [HT.out (by omega)]; first | rfl | (simp; omega)), B.out⟩
    have g_f' : (f == 0) = true := by simpa using g_f
    go_wp2_with fail
    refine (implIsVer n _).mono ?_
    rintro e w1 ⟨rfl, hw⟩
    rw [hw, decide_eq_true v_n]
    clear hw
    go_wp2
    go_ret
    exact ⟨by first | (rw [HF.out (by omega)]; first | rfl | (simp; omega)) | (rw [HT.out (by omega)]; first | rfl | (simp; omega)), B.out⟩
  · by_cases v_b : 0 ≤ b ∧ b ≤ 1
    case neg =>
      go_wp2_with fail
      refine (implIsBank b _).mono ?_
      rintro e w1 ⟨rfl, hw⟩
      rw [hw, decide_eq_false v_b]
      clear hw
      go_wp2
      go_ret
      exact ⟨by first | (rw [HF.out (by omega)]; first | rfl | (simp; omega)) | (rw [HT.out (by omega)]; first | rfl | (simp; omega)), B.out⟩
    by_cases v_n : 1 ≤ n ∧ n ≤ 1000
    case neg =>
      go_wp2_with fail
      refine (implIsBank b _).mono ?_
      rintro e w1 ⟨rfl, hw⟩
      rw [hw, decide_eq_true v_b]
      clear hw
      go_wp2_with fail
      refine (implIsNum n _).mono ?_
      rintro e w1 ⟨rfl, hw⟩
      rw [hw, decide_eq_false v_n]
      clear hw
      go_wp2
      go_ret
      exact ⟨by first | (rw [HF.out (by omega)]; first | rfl | (simp; omega)) | (rw [HT.out (by omega)]; first | rfl | (simp; omega)), B.out⟩
    by_cases v_f : 0 ≤ f ∧ f ≤ 1000
    case neg =>
      go_wp2_with fail
      refine (implIsBank b _).mono ?_
      rintro e w1 ⟨rfl, hw⟩
      rw [hw, decide_eq_true v_b]
      clear hw
      go_wp2_with fail
      refine (implIsNum n _).mono ?_
      rintro e w1 ⟨rfl, hw⟩
      rw [hw, decide_eq_true v_n]
      clear hw
      go_wp2_with fail
      refine (implIsVer f _).mono ?_
      rintro e w1 ⟨rfl, hw⟩
      rw [hw, decide_eq_false v_f]
      clear hw
      go_wp2
      go_ret
      exact ⟨by first | (rw [HF.out (by omega)]; first | rfl | (simp; omega)) | (rw [HT.out (by omega)]; first | rfl | (simp; omega)), B.out⟩
    go_wp2_with fail
    refine (implIsBank b _).mono ?_
    rintro e w1 ⟨rfl, hw⟩
    rw [hw, decide_eq_true v_b]
    clear hw
    go_wp2_with fail
    refine (implIsNum n _).mono ?_
    rintro e w1 ⟨rfl, hw⟩
    rw [hw, decide_eq_true v_n]
    clear hw
    go_wp2_with fail
    refine (implIsVer f _).mono ?_
    rintro e w1 ⟨rfl, hw⟩
    rw [hw, decide_eq_true v_f]
    clear hw
    go_wp2
    go_ret
    exact ⟨by first | (rw [HF.out (by omega)]; first | rfl | (simp; omega)) | (rw [HT.out (by omega)]; first | rfl | (simp; omega)), B.out⟩
  · by_cases v_b : 0 ≤ b ∧ b ≤ 1
    case neg =>
      go_wp2_with fail
      refine (implIsBank b _).mono ?_
      rintro e w1 ⟨rfl, hw⟩
      rw [hw, decide_eq_false v_b]
      clear hw
      go_wp2
      go_ret
      exact ⟨by first | (rw [HF.out (by omega)]; first | rfl | (simp; omega)) | (rw [HT.out (by omega)]; first | rfl | (simp; omega)), B.out⟩
    by_cases v_n : 1 ≤ n ∧ n ≤ 1000
    case neg =>
      go_wp2_with fail
      refine (implIsBank b _).mono ?_
      rintro e w1 ⟨rfl, hw⟩
      rw [hw, decide_eq_true v_b]
      clear hw
      go_wp2_with fail
      refine (implIsNum n _).mono ?_
      rintro e w1 ⟨rfl, hw⟩
      rw [hw, decide_eq_false v_n]
      clear hw
      go_wp2
      go_ret
      exact ⟨by first | (rw [HF.out (by omega)]; first | rfl | (simp; omega)) | (rw [HT.out (by omega)]; first | rfl | (simp; omega)), B.out⟩
    by_cases g_f : f = 0
    case neg =>
      have g_f' : (f == 0) = false := by simpa using g_f
      go_wp2_with fail
      refine (implIsBank b _).mono ?_
      rintro e w1 ⟨rfl, hw⟩
      rw [hw, decide_eq_true v_b]
      clear hw
      go_wp2_with fail
      refine (implIsNum n _).mono ?_
      rintro e w1 ⟨rfl, hw⟩
      rw [hw, decide_eq_true v_n]
      clear hw
      go_wp2
      go_ret
      exact ⟨by first | (rw [HF.out (by omega)]; first | rfl | (simp; omega)) | (rw [HT.out (by omega)]; first | rfl | (simp; omega)), B.out⟩
    have g_f' : (f == 0) = true := by simpa using g_f
    go_wp2_with fail
    refine (implIsBank b _).mono ?_
    rintro e w1 ⟨rfl, hw⟩
    rw [hw, decide_eq_true v_b]
    clear hw
    go_wp2_with fail
    refine (implIsNum n _).mono ?_
    rintro e w1 ⟨rfl, hw⟩
    rw [hw, decide_eq_true v_n]
    clear hw
    go_wp2
    go_ret
    exact ⟨by first | (rw [HF.out (by omega)]; first | rfl | (simp; omega)) | (rw [HT.out (by omega)]; first | rfl | (simp; omega)), B.out⟩
  · by_cases g_b : b = 0
    case neg =>
      have g_b' : (b == 0) = false := by simpa using g_b
      go_wp2
      go_ret
      exact ⟨by first | (rw [HF.out (by omega)]; first | rfl | (simp; omega)) | (rw [HT.out (by omega)]; first | rfl | (simp; omega)), B.out⟩
    have g_b' : (b == 0) = true := by simpa using g_b
    by_cases g_n : n = 0
    case neg =>
      have g_n' : (n == 0) = false := by simpa using g_n
      go_wp2
      go_ret
      exact ⟨by first | (rw [HF.out (by omega)]; first | rfl | (simp; omega)) | (rw [HT.out (by omega)]; first | rfl | (simp; omega)), B.out⟩
    have g_n' : (n == 0) = true := by simpa using g_n
    by_cases v_f : 0 ≤ f ∧ f ≤ 1000
    case neg =>
      go_wp2_with fail
      refine (implIsVer f _).mono ?_
      rintro e w1 ⟨rfl, hw⟩
      rw [hw, decide_eq_false v_f]
      clear hw
      go_wp2
      go_ret
      exact ⟨by first | (rw [HF.out (by omega)]; first | rfl | (simp; omega)) | (rw [HT.out (by omega)]; first | rfl | (simp; omega)), B.out⟩
    go_wp2_with fail
    refine (implIsVer f _).mono ?_
    rintro e w1 ⟨rfl, hw⟩
    rw [hw, decide_eq_true v_f]
    clear hw
    go_wp2
    go_ret
    exact ⟨by first | (rw [HF.out (by omega)]; first | rfl | (simp; omega)) | (rw [HT.out (by omega)]; first | rfl | (simp; omega)), B.out⟩
  · by_cases g_b : b = 0
    case neg =>
      have g_b' : (b == 0) = false := by simpa using g_b
      go_wp2
      go_ret
      exact ⟨by first | (rw [HF.out (by omega)]; first | rfl | (simp; omega)) | (rw [HT.out (by omega)]; first | rfl | (simp; omega)), B.out⟩
    have g_b' : (b == 0) = true := by simpa using g_b
    by_cases g_n : n = 0
    case neg =>
      have g_n' : (n == 0) = false := by simpa using g_n
      go_wp2
      go_ret
      exact ⟨by first | (rw [HF.out (by omega)]; first | rfl | (simp; omega)) | (rw [HT.out (by omega)]; first | rfl | (simp; omega)), B.out⟩
    have g_n' : (n == 0) = true := by simpa using g_n
    by_cases g_f : f = 0
    case neg =>
      have g_f' : (f == 0) = false := by simpa using g_f
      go_wp2
      go_ret
      exact ⟨by first | (rw [HF.out (by omega)]; first | rfl | (simp; omega)) | (rw [HT.out (by omega)]; first | rfl | (simp; omega)), B.out⟩
    have g_f' : (f == 0) = true := by simpa using g_f
    go_wp2
    go_ret
    exact ⟨by first | (rw [HF.out (by omega)]; first | rfl | (simp; omega)) | (rw [HT.out (by omega)]; first | rfl | (simp; omega)), B.out⟩
  · by_cases g_b : b = 0
    case neg =>
      have g_b' : (b == 0) = false := by simpa using g_b
      go_wp2
      go_ret
      exact ⟨by first | (rw [HF.out (by omega)]; first | rfl | (simp; omega)) | (rw [HT.out (by omega)]; first | rfl | (simp; omega)), B.out⟩
    have g_b' : (b == 0) = true := by simpa using g_b
    by_cases g_n : n = 0
    case neg =>
      have g_n' : (n == 0) = false := by simpa using g_n
      go_wp2
      go_ret
      exact ⟨by first | (rw [HF.out (by omega)]; first | rfl | (simp; omega)) | (rw [HT.out (by omega)]; first | rfl | (simp; omega)), B.out⟩
    have g_n' : (n == 0) = true := by simpa using g_n
    by_cases g_f : f = 0
    case neg =>
      have g_f' : (f == 0) = false := by simpa using g_f
      go_wp2
      go_ret
      exact ⟨by first | (rw [HF.out (by omega)]; first | rfl | (simp; omega)) | (rw [HT.out (by omega)]; first | rfl | (simp; omega)), B.out⟩
    have g_f' : (f == 0) = true := by simpa using g_f
    go_wp2
    go_ret
    exact ⟨by first | (rw [HF.out (by omega)]; first | rfl | (simp; omega)) | (rw [HT.out (by omega)]; first | rfl | (simp; omega)), B.out⟩
end Go.Proofs.Ytjceajgefpinpaa
namespace Go.Proofs.Ytjceajgefpinpaa
open Go.RowKit

theorem set_take (xs : List Int) (n k : Nat) (h : k < xs.length) (hn : xs.length = n) :
    (U8 (xs.take k ++ List.replicate (n - k) 0)).set k (.int .u8 (xs.getD k 0)) = U8 (xs.take (k + 1) ++ List.replicate (n - (k + 1)) 0) := by
  have e : n - k = (n - (k + 1)) + 1 := by omega
  rw [take_snoc xs k h, e, List.replicate_succ]
  have hl : (xs.take k).length = k := by simp; omega
  simp only [U8, List.map_append, List.map_cons]
  rw [List.set_append_right _ _ (by simp; omega)]
  simp [Nat.min_eq_left (show k ≤ xs.length by omega)]

set_option maxHeartbeats 400000 in
theorem eqB (a a' : Option Addr) (n cap cap' : Nat) (xs : List Int) (w : World) (h : Bs w a n cap xs) (h' : Bs w a' n cap' xs) (hn : n ≤ 2097152) :
    Calls Try.prog 26 #[.slice a n cap, .slice a' n cap'] w fun e w' => ∃ q, e = .returned (.bool true) ∧ w' = w.drewN q := by
  obtain ⟨_, hl, hc, hby, h⟩ := h
  obtain ⟨_, _, hc', _, h'⟩ := h'
  have hne : ((n : Int) != (n : Int)) = false := by simp
  go_enter Try.func26, Try.ntmps26
  go_wp2
  go_loopw [5] (fun i wr => ∃ k q : Nat, k ≤ n ∧ i = .int .i64 k ∧ wr = w.drewN q) (fun i _ => n - (intOf i).toNat)
  case atStart => exact ⟨0, 0, Nat.zero_le _, rfl, rfl⟩
  case round =>
    obtain ⟨k, q, hk, rfl, rfl⟩ := hrel
    by_cases hlt : k < n
    · rcases h with h | ⟨b, o, rfl, hbs, hcell⟩
      · omega
      · rcases h' with h' | ⟨b', o', rfl, hbs', hcell'⟩
        · omega
        · obtain ⟨x, hx⟩ : ∃ x, x = xs.getD k 0 := ⟨_, rfl⟩
          have hck : w.cell? ⟨b, o + k, none⟩ = some (.int .u8 x) := by rw [hx]; exact hcell k hlt
          have hck' : w.cell? ⟨b', o' + k, none⟩ = some (.int .u8 x) := by rw [hx]; exact hcell' k hlt
          have hxx : (x != x) = false := by simp
          have hlt' : (k : Int) < (n : Int) := by omega
          clear hcell hcell' hx
          go_wp2
          go_quiet (fail)
          go_wp2
          go_roundw
          case rel => exact ⟨k + 1, _, by omega, by go_num, rfl⟩
          case measure => simp [intOf]; omega
    · go_wp2
      go_ret
      exact ⟨q, rfl, rfl⟩

end Go.Proofs.Ytjceajgefpinpaa
