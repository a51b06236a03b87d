/-
  What is proved here: contracts of the program's isIn, isVersion, isKind, keyOk, compareKey, and of cmp.Compare at int.
-/
import Derived.Test.YtgfjbaigmkdbcaaBg
import Derived.Test.YtgfjbaigmkdbcaaCin
namespace Go.Proofs.Ytgfjbaigmkdbcaa
open Go.RowKit
set_option maxRecDepth 100000
set_option maxHeartbeats 1000000

theorem implIsVersion (n : Int) (w : World) : Calls Try.prog 82 #[.int .i64 n] w fun e w' => e = .returned (.bool (decide (verOk n))) ∧ w' = w := by
  obtain ⟨R, hR⟩ : ∃ R, decide (verOk n) = R := ⟨_, rfl⟩
  rw [hR]
  have HR : Hid _ := hR
  clear hR
  go_enter Try.func82, Try.ntmps82
  go_wp2_with fail
  refine (implIsIn n 0 1000 _).mono ?_
  rintro e w1 ⟨rfl, hw⟩
  rw [hw]
  rw [show decide (0 ≤ n ∧ n ≤ 1000) = R from HR.out]
  go_wp2
  go_ret
  exact ⟨rfl, rfl⟩
theorem implIsKind (n : Int) (w : World) : Calls Try.prog 129 #[.int .i64 n] w fun e w' => e = .returned (.bool (decide (0 ≤ n ∧ n < 4))) ∧ w' = w := by
  obtain ⟨R, hR⟩ : ∃ R, decide (0 ≤ n ∧ n < 4) = R := ⟨_, rfl⟩
  rw [hR]
  have HR : Hid _ := hR
  clear hR
  go_enter Try.func129, Try.ntmps129
  go_wp2_with fail
  refine (implIsIn n 0 3 _).mono ?_
  rintro e w1 ⟨rfl, hw⟩
  rw [hw]
  rw [show decide (0 ≤ n ∧ n ≤ 3) = R from by rw [← HR.out]; apply decide_eq_decide.2; omega]
  go_wp2
  go_ret
  exact ⟨rfl, rfl⟩
def cmpI (a b : Int) : Int := if a < b then -1 else if b < a then 1 else 0
theorem cmpI_neg (a b : Int) : cmpI a b < 0 ↔ a < b := by unfold cmpI; split <;> (try split) <;> omega
theorem cmpI_zero (a b : Int) : cmpI a b = 0 ↔ a = b := by unfold cmpI; split <;> (try split) <;> omega
theorem cmpI_int (a b : Int) : -1 ≤ cmpI a b ∧ cmpI a b ≤ 1 := by unfold cmpI; split <;> (try split) <;> omega
theorem libCompare (a b : Int) (w : World) : Calls Try.prog 130 #[.int .i64 a, .int .i64 b] w fun e w' => e = .returned (.int .i64 (cmpI a b)) ∧ w' = w := by
  have ha : (a != a) = false := by simp
  have hb : (b != b) = false := by simp
  by_cases h1 : a < b
  · have e1 : cmpI a b = -1 := by unfold cmpI; simp [h1]
    rw [e1]
    clear e1
    go_enter Try.func130, Try.ntmps130
    go_wp2
    go_ret
    exact ⟨rfl, rfl⟩
  · by_cases h2 : b < a
    · have e1 : cmpI a b = 1 := by unfold cmpI; simp [h1, h2]
      rw [e1]
      clear e1
      go_enter Try.func130, Try.ntmps130
      go_wp2
      go_ret
      exact ⟨rfl, rfl⟩
    · have e1 : cmpI a b = 0 := by unfold cmpI; simp [h1, h2]
      rw [e1]
      clear e1
      go_enter Try.func130, Try.ntmps130
      go_wp2
      go_ret
      exact ⟨rfl, rfl⟩
abbrev keyOk1 (i r : Int) (n : Nat) : Prop := (0 ≤ i ∧ i ≤ 255) ∧ (r = 1 ∨ r = 2) ∧ n = 32
theorem implKeyOk (i r : Int) (v : Bool) (a : Option Addr) (n c : Nat) (w : World) : Calls Try.prog 99 #[.agg #[.int .i64 i, .int .i64 r, .bool v, .slice a n c]] w fun e w' => e = .returned (.bool (decide (keyOk1 i r n))) ∧ Below w.heap.size w w' := by
  obtain ⟨R, hR, HT, HF⟩ := by_dec (keyOk1 i r n)
  rw [hR]
  clear hR
  have B : Below w.heap.size w (w.alloc (.cells #[.int .i64 i, .int .i64 r, .bool v, .slice a n c] 131)) := (Below.refl _ _).alloc (Nat.le_refl _) _
  obtain ⟨W, hW⟩ : ∃ W, W = w.alloc (.cells #[.int .i64 i, .int .i64 r, .bool v, .slice a n c] 131) := ⟨_, rfl⟩
  have A : Arr W w.heap.size 131 [.int .i64 i, .int .i64 r, .bool v, .slice a n c] := by rw [hW]; exact Arr.new _ _ _
  rw [← hW] at B
  have c0 := A.cell 0
  have c1 := A.cell 1
  have c3 := A.cell 3
  simp at c0 c1 c3
  clear A
  go_enter Try.func99, Try.ntmps99
  go_upto_region 1 with fail
  rw [← hW]
  clear hW
  go_wp2_with fail
  refine (implIsIn i 0 255 _).mono ?_
  rintro e w1 ⟨rfl, hw⟩
  rw [hw]
  clear hw
  by_cases h1 : 0 ≤ i ∧ i ≤ 255
  case neg =>
    rw [decide_eq_false h1]
    go_wp2
    go_ret
    exact ⟨by rw [HF.out (by omega)]; rfl, B⟩
  rw [decide_eq_true h1]
  by_cases h4 : (n : Int) = 32
  · have g4 : ((n : Int) == 32) = true := by simpa using h4
    have n4 : Hid (n = 32) := by unfold Hid; omega
    clear h4
    by_cases h2 : r = 1
    · have g2 : (r == 1) = true := by simpa using h2
      have HRT : Hid (R = true) := HT.out ⟨h1, .inl h2, n4.out⟩
      clear h2 h1
      go_wp2
      go_ret
      exact ⟨by rw [HRT.out]; rfl, B⟩
    · have g2 : (r == 1) = false := by simpa using h2
      by_cases h3 : r = 2
      · have g3 : (r == 2) = true := by simpa using h3
        have HRT : Hid (R = true) := HT.out ⟨h1, .inr h3, n4.out⟩
        clear h2 h3 h1
        go_wp2
        go_ret
        exact ⟨by rw [HRT.out]; rfl, B⟩
      · have g3 : (r == 2) = false := by simpa using h3
        have HRT : Hid (R = false) := HF.out (by omega)
        clear h2 h3 h1
        go_wp2
        go_ret
        exact ⟨by rw [HRT.out]; rfl, B⟩
  · have g4 : ((n : Int) == 32) = false := by simpa using h4
    have HRT : Hid (R = false) := HF.out (by omega)
    clear h4
    by_cases h2 : r = 1
    · have g2 : (r == 1) = true := by simpa using h2
      clear h2 h1
      go_wp2
      go_ret
      exact ⟨by rw [HRT.out]; rfl, B⟩
    · have g2 : (r == 1) = false := by simpa using h2
      by_cases h3 : r = 2
      · have g3 : (r == 2) = true := by simpa using h3
        clear h2 h3 h1
        go_wp2
        go_ret
        exact ⟨by rw [HRT.out]; rfl, B⟩
      · have g3 : (r == 2) = false := by simpa using h3
        clear h2 h3 h1
        go_wp2
        go_ret
        exact ⟨by rw [HRT.out]; rfl, B⟩
theorem implCompareKey (i r : Int) (v : Bool) (a : Option Addr) (n c : Nat) (i' r' : Int) (v' : Bool) (a' : Option Addr) (n' c' : Nat) (w : World) :
    Calls Try.prog 100 #[.agg #[.int .i64 i, .int .i64 r, .bool v, .slice a n c], .agg #[.int .i64 i', .int .i64 r', .bool v', .slice a' n' c']] w fun e w' => e = .returned (.int .i64 (cmpI i i')) ∧ Below w.heap.size w w' := by
  have B : Below w.heap.size w ((w.alloc (.cells #[.int .i64 i, .int .i64 r, .bool v, .slice a n c] 131)).alloc (.cells #[.int .i64 i', .int .i64 r', .bool v', .slice a' n' c'] 131)) := ((Below.refl _ _).alloc (Nat.le_refl _) _).alloc (by simp) _
  have HB : Hid _ := B
  clear B
  go_enter Try.func100, Try.ntmps100
  go_wp2_with fail
  refine (libCompare i i' _).mono ?_
  rintro e w1 ⟨rfl, hw⟩
  rw [hw]
  clear hw
  obtain ⟨z, hz⟩ : ∃ z, z = cmpI i i' := ⟨_, rfl⟩
  rw [← hz]
  have HZ : Hid _ := hz
  clear hz
  go_wp2
  go_ret
  exact ⟨by rw [← HZ.out]; rfl, HB.out⟩
end Go.Proofs.Ytgfjbaigmkdbcaa
