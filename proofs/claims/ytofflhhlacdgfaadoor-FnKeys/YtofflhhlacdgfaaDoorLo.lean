/-
  What is proved here: rows of four cells in memory, and what a list is that is ok and ascends; no program is spoken of.
-/
import Derived.Test.YtofflhhlacdgfaaDoorJP15
import Derived.Test.YtofflhhlacdgfaaDoorTm
import Derived.Test.YtofflhhlacdgfaaDoorJP19
namespace Go.Proofs.YtofflhhlacdgfaaDoor
open Go.RowKit

abbrev lstOkP (n : Nat) (most : Int) (P : Nat → Bool) (C : Nat → Int) : Prop := (n : Int) ≤ most ∧ ∀ i, i < n → P i = true ∧ (0 < i → C (i - 1) < 0)
def lstOk (n : Nat) (most : Int) (P : Nat → Bool) (C : Nat → Int) : Bool := decide (lstOkP n most P C)
theorem lstOk_dec (n : Nat) (most : Int) (P : Nat → Bool) (C : Nat → Int) : ∃ R, lstOk n most P C = R ∧ Hid (lstOkP n most P C → R = true) ∧ Hid (¬ lstOkP n most P C → R = false) := ⟨_, rfl, decide_eq_true, decide_eq_false⟩
end Go.Proofs.YtofflhhlacdgfaaDoor
