/-
  What is proved here: a summary has at most five records; no program is spoken of.
-/
import Derived.Test.YtaelclamlfhimaaC1d
namespace Go.Proofs.Ytaelclamlfhimaa
open Go.RowKit
theorem smL_len (b n f : Int) (t : Bool) (i o : Int) : (smL b n f t i o).length ≤ 5 := by
  unfold smL smR
  split
  · next h =>
    have h4 := h.2.2.2
    cases t
    · simp
    · simp at h4 ⊢
      omega
  · simp
end Go.Proofs.Ytaelclamlfhimaa
