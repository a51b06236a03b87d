/-
  What is proved here: lengths and bounds of a record's bytes; no program is spoken of.
-/
import Derived.Test.YtaelclamlfhimaaC0p
namespace Go.Proofs.Ytaelclamlfhimaa
open Go.RowKit
theorem ifB_eq (k b n f : Int) : (if rcOk k b n f then 8 else 0) = (if rcOk k b n f then rcB k b n f else []).length := by
  split
  · rw [rcB_len]
  · rfl
theorem ifB_len (k b n f : Int) : (if rcOk k b n f then rcB k b n f else []).length ≤ 8 := by
  rw [← ifB_eq]; split <;> omega
theorem ifB_byte (k b n f : Int) : ∀ x ∈ (if rcOk k b n f then rcB k b n f else []), 0 ≤ x ∧ x < 256 := by
  split
  · exact rcB_byte k b n f
  · intro x hx; cases hx
end Go.Proofs.Ytaelclamlfhimaa
