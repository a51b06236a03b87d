/-
  What is proved here: how long the answers of the multipliers are, and that their parts are ints; no condition.
-/
import Derived.Test.YtlafcjoccbinaaaDoorZT
import Derived.Test.YtlafcjoccbinaaaDoorZU
import Derived.Test.YtlafcjoccbinaaaDoorZKj
namespace Go.Proofs.YtlafcjoccbinaaaDoor
open Go.RowKit
set_option maxRecDepth 100000

theorem lmO_int {l : List Int} (h : Lm l) : ∀ x ∈ l, -9223372036854775808 ≤ x ∧ x ≤ 9223372036854775807 := fun x hx => by have := h x hx; omega
theorem nilO_int : ∀ x ∈ ([] : List Int), -9223372036854775808 ≤ x ∧ x ≤ 9223372036854775807 := fun x hx => by cases hx
theorem sc2_int (f : Int → Int → Int) (xs ys : List Int) : ∀ x ∈ sc2 f xs ys, -9223372036854775808 ≤ x ∧ x ≤ 9223372036854775807 := by
  unfold sc2; split
  · exact lmO_int (redO_lm _)
  · exact nilO_int
theorem sc2_le (f : Int → Int → Int) (xs ys : List Int) : (sc2 f xs ys).length ≤ 32 := by
  unfold sc2; split
  · rw [redO_len]; omega
  · simp
theorem btFO_byte (xs : List Int) : ∀ x ∈ btFO xs, 0 ≤ x ∧ x < 256 := by
  unfold btFO; split
  · rename_i h; exact btL_byte ((scOk_iff xs).1 h).2.1
  · intro x hx; cases hx
theorem btFO_le (xs : List Int) : (btFO xs).length ≤ 32 := by
  unfold btFO; split
  · rename_i h; rw [btL_len, ((scOk_iff xs).1 h).1]; omega
  · simp
theorem rdFO_int {bs : List Int} (h : ∀ x ∈ bs, 0 ≤ x ∧ x < 256) : ∀ x ∈ rdFO bs, -9223372036854775808 ≤ x ∧ x ≤ 9223372036854775807 := by
  unfold rdFO; split
  · exact lmO_int (rdL_lm h)
  · exact nilO_int
theorem rdFO_le (bs : List Int) : (rdFO bs).length ≤ 32 := by
  unfold rdFO; split
  · rw [rdL_len]; omega
  · simp
theorem wdF_int (bs : List Int) : ∀ x ∈ wdF bs, -9223372036854775808 ≤ x ∧ x ≤ 9223372036854775807 := by
  unfold wdF; split
  · exact lmO_int (redO_lm _)
  · exact nilO_int
theorem wdF_le (bs : List Int) : (wdF bs).length ≤ 32 := by
  unfold wdF; split
  · rw [redO_len]; omega
  · simp
end Go.Proofs.YtlafcjoccbinaaaDoor
