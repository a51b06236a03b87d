/-
  What is proved here: the program's PtBase answers the base; where its variables hold it.
-/
import Derived.Test.YtoblilngppjmhaaDoorW9Yh
import Derived.Test.YtoblilngppjmhaaDoorW9Of
namespace Go.Proofs.YtoblilngppjmhaaDoor
open Go.RowKit
set_option maxRecDepth 100000
set_option maxHeartbeats 4000000
set_option linter.unusedSectionVars false

theorem BX_val : val BX = (bxN : Int) := by decide
theorem BY_val : val BY = (byN : Int) := by decide
section
variable [NeZero pN]
theorem base_lists : BX = cx baseK.1 ∧ BY = cx baseK.2 := by
  have h1 : fl BX = baseK.1 := by unfold fl; rw [BX_val]; rfl
  have h2 : fl BY = baseK.2 := by unfold fl; rw [BY_val]; rfl
  exact ⟨by rw [← h1, cx_fl BX_ok], by rw [← h2, cx_fl BY_ok]⟩
theorem okPBase (w : World) (hX : Vr w 0 (I64 BX)) (hY : Vr w 1 (I64 BY)) : Calls Tryd.prog 25 #[] w fun e w' => ∃ a1 c1 b1 d1, e = .returned (.agg #[.slice a1 16 c1, .slice b1 16 d1]) ∧ PI w' a1 c1 b1 d1 baseK ∧ Below w.heap.size w w' := by
  refine (implPtBase w hX hY).mono ?_
  rintro e w1 ⟨v, rfl, hv, hb⟩
  obtain ⟨a1, c1, b1, d1, rfl, hp⟩ := PI.of (P := baseK) hv base_lists.1 base_lists.2
  exact ⟨a1, c1, b1, d1, rfl, hp, hb⟩
end
end Go.Proofs.YtoblilngppjmhaaDoor
