/-
  What is proved here: how long the answers of the field are, and that their parts are ints; no condition.
-/
import Derived.Test.YtpchdfdeomhakaaDoorZFx
import Derived.Test.YtpchdfdeomhakaaDoorZJ
import Derived.Test.YtpchdfdeomhakaaDoorZHd
import Derived.Test.YtpchdfdeomhakaaDoorZK
namespace Go.Proofs.YtpchdfdeomhakaaDoor
open Go.RowKit
set_option maxRecDepth 100000

theorem lm_int {l : List Int} (h : Lm l) : ∀ x ∈ l, -9223372036854775808 ≤ x ∧ x ≤ 9223372036854775807 := fun x hx => by have := h x hx; omega
theorem nil_int : ∀ x ∈ ([] : List Int), -9223372036854775808 ≤ x ∧ x ≤ 9223372036854775807 := fun x hx => by cases hx
theorem fe2_int (f : Int → Int → Int) (xs ys : List Int) : ∀ x ∈ fe2 f xs ys, -9223372036854775808 ≤ x ∧ x ≤ 9223372036854775807 := by
  unfold fe2; split
  · exact lm_int (red_lm _)
  · exact nil_int
theorem fe2_le (f : Int → Int → Int) (xs ys : List Int) : (fe2 f xs ys).length ≤ 32 := by
  unfold fe2; split
  · rw [red_len]; omega
  · simp
theorem invL_int (xs : List Int) : ∀ x ∈ invL xs, -9223372036854775808 ≤ x ∧ x ≤ 9223372036854775807 := by
  unfold invL invF; split
  · exact lm_int (red_lm _)
  · exact nil_int
theorem invL_le (xs : List Int) : (invL xs).length ≤ 32 := by
  unfold invL invF; split
  · rw [red_len]; omega
  · simp
theorem rootL_int (xs : List Int) : ∀ x ∈ rootL xs, -9223372036854775808 ≤ x ∧ x ≤ 9223372036854775807 := by
  unfold rootL; split
  · exact lm_int (rt3_ok xs).2
  · exact nil_int
theorem rootL_le (xs : List Int) : (rootL xs).length ≤ 32 := by
  unfold rootL; split
  · rw [(rt3_ok xs).1]; omega
  · simp
theorem btF_byte (xs : List Int) : ∀ x ∈ btF xs, 0 ≤ x ∧ x < 256 := by
  unfold btF; split
  · rename_i h; exact btL_byte ((feOk_iff xs).1 h).2.1
  · intro x hx; cases hx
theorem btF_le (xs : List Int) : (btF xs).length ≤ 32 := by
  unfold btF; split
  · rename_i h; rw [btL_len, ((feOk_iff xs).1 h).1]; omega
  · simp
theorem rdF_int {bs : List Int} (h : ∀ x ∈ bs, 0 ≤ x ∧ x < 256) : ∀ x ∈ rdF bs, -9223372036854775808 ≤ x ∧ x ≤ 9223372036854775807 := by
  unfold rdF; split
  · exact lm_int (rdL_lm h)
  · exact nil_int
theorem rdF_le (bs : List Int) : (rdF bs).length ≤ 32 := by
  unfold rdF; split
  · rw [rdL_len]; omega
  · simp
end Go.Proofs.YtpchdfdeomhakaaDoor
