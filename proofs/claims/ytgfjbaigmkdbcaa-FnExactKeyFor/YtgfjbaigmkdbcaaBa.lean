/-
  What is proved here: contracts of the specification's l8version, l8part, l8need, l8ahead: what a part, a need and their order are as plain facts.
-/
import Derived.Test.YtgfjbaigmkdbcaaKitI
import Derived.Test.YtgfjbaigmkdbcaaArr
import Derived.Test.YtgfjbaigmkdbcaaApp
import Derived.Deep.CutRange
namespace Go.Proofs.Ytgfjbaigmkdbcaa
open Go.RowKit
set_option maxRecDepth 100000
set_option maxHeartbeats 1000000

abbrev verOk (n : Int) : Prop := 0 ≤ n ∧ n ≤ 1000
abbrev partOk (k v s : Int) (n : Nat) : Prop := (0 ≤ k ∧ k < 4) ∧ verOk v ∧ (1 ≤ s ∧ s ≤ 192) ∧ n = 32
abbrev needOk (o f t k : Int) : Prop := (0 ≤ k ∧ k < 4) ∧ (0 ≤ o ∧ o < 4) ∧ o ≠ k ∧ verOk f ∧ verOk t ∧ f ≤ t
abbrev needLt (o f t k o' f' t' k' : Int) : Prop := o < o' ∨ o = o' ∧ (k < k' ∨ k = k' ∧ (f < f' ∨ f = f' ∧ t < t'))
/-- A Bool by what it says. -/
theorem by_dec (P : Prop) [Decidable P] : ∃ R : Bool, decide P = R ∧ Hid (P → R = true) ∧ Hid (¬ P → R = false) := ⟨_, rfl, decide_eq_true, decide_eq_false⟩
theorem spec8version (n : Int) (w : World) : Calls Try.prog 76 #[.int .i64 n] w fun e w' => e = .returned (.bool (decide (verOk n))) ∧ w' = w := by
  obtain ⟨R, hR, HT, HF⟩ := by_dec (verOk n)
  rw [hR]
  clear hR
  by_cases h1 : 0 ≤ n
  · by_cases h2 : n ≤ 1000
    all_goals
      go_enter Try.func76, Try.ntmps76
      go_wp2
      go_ret
      exact ⟨by first | (rw [HF.out (by omega)]; rfl) | (rw [HT.out (by omega)]; rfl), rfl⟩
  · go_enter Try.func76, Try.ntmps76
    go_wp2
    go_ret
    exact ⟨by first | (rw [HF.out (by omega)]; rfl) | (rw [HT.out (by omega)]; rfl), rfl⟩
theorem spec8part (k v s : Int) (a : Option Addr) (n c : Nat) (w : World) : Calls Try.prog 77 #[.agg #[.int .i64 k, .int .i64 v, .int .i64 s, .slice a n c]] w fun e w' => e = .returned (.bool (decide (partOk k v s n))) ∧ Below w.heap.size w w' := by
  obtain ⟨R, hR, HT, HF⟩ := by_dec (partOk k v s n)
  rw [hR]
  clear hR
  have B : Below w.heap.size w (w.alloc (.cells #[.int .i64 k, .int .i64 v, .int .i64 s, .slice a n c] 112)) := (Below.refl _ _).alloc (Nat.le_refl _) _
  obtain ⟨W, hW⟩ : ∃ W, W = w.alloc (.cells #[.int .i64 k, .int .i64 v, .int .i64 s, .slice a n c] 112) := ⟨_, rfl⟩
  have A : Arr W w.heap.size 112 [.int .i64 k, .int .i64 v, .int .i64 s, .slice a n c] := by rw [hW]; exact Arr.new _ _ _
  rw [← hW] at B
  have c0 := A.cell 0
  have c1 := A.cell 1
  have c2 := A.cell 2
  have c3 := A.cell 3
  simp at c0 c1 c2 c3
  clear A
  go_enter Try.func77, Try.ntmps77
  go_upto_region 1 with fail
  rw [← hW]
  clear hW
  by_cases h1 : 0 ≤ k
  · by_cases h2 : k < 4
    · by_cases hv : verOk v
      · by_cases h3 : 1 ≤ s
        · by_cases h4 : s ≤ 192
          · obtain ⟨q, hq, hq'⟩ : ∃ q, ((n : Int) == 32) = q ∧ Hid (q = decide (n = 32)) := ⟨_, rfl, by unfold Hid; by_cases h : n = 32 <;> simp [h]; omega⟩
            have HQ : Hid (R = q) := by
              unfold Hid; rw [hq'.out]
              by_cases h : n = 32
              · rw [HT.out (by omega), decide_eq_true h]
              · rw [HF.out (by omega), decide_eq_false h]
            go_wp2_with fail
            refine (spec8version v _).mono ?_
            rintro e w1 ⟨rfl, hw⟩
            rw [hw, decide_eq_true hv]
            go_wp2
            go_ret
            exact ⟨by rw [HQ.out]; rfl, B⟩
          · go_wp2_with fail
            refine (spec8version v _).mono ?_
            rintro e w1 ⟨rfl, hw⟩
            rw [hw, decide_eq_true hv]
            go_wp2
            go_ret
            exact ⟨by first | (rw [HF.out (by omega)]; rfl) | (rw [HT.out (by omega)]; rfl), B⟩
        · go_wp2_with fail
          refine (spec8version v _).mono ?_
          rintro e w1 ⟨rfl, hw⟩
          rw [hw, decide_eq_true hv]
          go_wp2
          go_ret
          exact ⟨by first | (rw [HF.out (by omega)]; rfl) | (rw [HT.out (by omega)]; rfl), B⟩
      · go_wp2_with fail
        refine (spec8version v _).mono ?_
        rintro e w1 ⟨rfl, hw⟩
        rw [hw, decide_eq_false hv]
        go_wp2
        go_ret
        exact ⟨by first | (rw [HF.out (by omega)]; rfl) | (rw [HT.out (by omega)]; rfl), B⟩
    · go_wp2
      go_ret
      exact ⟨by first | (rw [HF.out (by omega)]; rfl) | (rw [HT.out (by omega)]; rfl), B⟩
  · go_wp2
    go_ret
    exact ⟨by first | (rw [HF.out (by omega)]; rfl) | (rw [HT.out (by omega)]; rfl), B⟩
theorem spec8need (o f t k : Int) (w : World) : Calls Try.prog 78 #[.agg #[.int .i64 o, .int .i64 f, .int .i64 t, .int .i64 k]] w fun e w' => e = .returned (.bool (decide (needOk o f t k))) ∧ Below w.heap.size w w' := by
  obtain ⟨R, hR, HT, HF⟩ := by_dec (needOk o f t k)
  rw [hR]
  clear hR
  have B : Below w.heap.size w (w.alloc (.cells #[.int .i64 o, .int .i64 f, .int .i64 t, .int .i64 k] 115)) := (Below.refl _ _).alloc (Nat.le_refl _) _
  obtain ⟨W, hW⟩ : ∃ W, W = w.alloc (.cells #[.int .i64 o, .int .i64 f, .int .i64 t, .int .i64 k] 115) := ⟨_, rfl⟩
  have A : Arr W w.heap.size 115 [.int .i64 o, .int .i64 f, .int .i64 t, .int .i64 k] := by rw [hW]; exact Arr.new _ _ _
  rw [← hW] at B
  have c0 := A.cell 0
  have c1 := A.cell 1
  have c2 := A.cell 2
  have c3 := A.cell 3
  simp at c0 c1 c2 c3
  clear A
  go_enter Try.func78, Try.ntmps78
  go_upto_region 1 with fail
  rw [← hW]
  clear hW
  by_cases h1 : 0 ≤ k
  case neg => go_wp2; go_ret; exact ⟨by rw [HF.out (by omega)]; rfl, B⟩
  by_cases h2 : k < 4
  case neg => go_wp2; go_ret; exact ⟨by rw [HF.out (by omega)]; rfl, B⟩
  by_cases h3 : 0 ≤ o
  case neg => go_wp2; go_ret; exact ⟨by rw [HF.out (by omega)]; rfl, B⟩
  by_cases h4 : o < 4
  case neg => go_wp2; go_ret; exact ⟨by rw [HF.out (by omega)]; rfl, B⟩
  by_cases h5 : o = k
  case pos => go_wp2; go_ret; exact ⟨by rw [HF.out (by omega)]; rfl, B⟩
  have h5' : (o != k) = true := by simpa using h5
  by_cases hf : verOk f
  case neg =>
    go_wp2_with fail
    refine (spec8version f _).mono ?_
    rintro e w1 ⟨rfl, hw⟩
    rw [hw, decide_eq_false hf]
    go_wp2
    go_ret
    exact ⟨by rw [HF.out (by omega)]; rfl, B⟩
  by_cases ht : verOk t
  case neg =>
    go_wp2_with fail
    refine (spec8version f _).mono ?_
    rintro e w1 ⟨rfl, hw⟩
    rw [hw, decide_eq_true hf]
    go_wp2_with fail
    refine (spec8version t _).mono ?_
    rintro e w1 ⟨rfl, hw⟩
    rw [hw, decide_eq_false ht]
    go_wp2
    go_ret
    exact ⟨by rw [HF.out (by omega)]; rfl, B⟩
  obtain ⟨q, hq, hq'⟩ : ∃ q, decide (f ≤ t) = q ∧ Hid (R = q) := ⟨_, rfl, by
    unfold Hid
    by_cases h : f ≤ t
    · rw [HT.out (by omega), decide_eq_true h]
    · rw [HF.out (by omega), decide_eq_false h]⟩
  go_wp2_with fail
  refine (spec8version f _).mono ?_
  rintro e w1 ⟨rfl, hw⟩
  rw [hw, decide_eq_true hf]
  go_wp2_with fail
  refine (spec8version t _).mono ?_
  rintro e w1 ⟨rfl, hw⟩
  rw [hw, decide_eq_true ht]
  go_wp2
  go_ret
  exact ⟨by rw [hq'.out]; rfl, B⟩
end Go.Proofs.Ytgfjbaigmkdbcaa
