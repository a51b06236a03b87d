/-
  What is proved here: how long an answer of FeOf is, and that its parts are ints; no condition.
-/
import Derived.Test.YtpchdfdeomhakaaFvb
namespace Go.Proofs.Ytpchdfdeomhakaa
open Go.RowKit
set_option maxRecDepth 100000

theorem ofN_int (n : Int) : ∀ x ∈ ofN n, -9223372036854775808 ≤ x ∧ x ≤ 9223372036854775807 := by
  unfold ofN; split
  · intro x hx; cases hx
  · intro x hx; have := lim_lm 16 n x hx; omega
theorem ofN_le (n : Int) : (ofN n).length ≤ 32 := by
  unfold ofN; split
  · simp
  · rw [lim_len]; omega
end Go.Proofs.Ytpchdfdeomhakaa
