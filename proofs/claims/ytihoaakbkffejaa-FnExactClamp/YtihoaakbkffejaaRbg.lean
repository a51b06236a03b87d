/-
  What is proved here: the bytes of parts, one by one; no condition.
-/
import Derived.Test.YtihoaakbkffejaaHbt
namespace Go.Proofs.Ytihoaakbkffejaa
open Go.RowKit
set_option maxRecDepth 100000

theorem btL_get : ∀ (l : List Int) (i : Nat), i < l.length → (btL l).getD (2 * i) 0 = l.getD i 0 % 256 ∧ (btL l).getD (2 * i + 1) 0 = l.getD i 0 / 256
  | x :: l, 0, _ => by simp [btL]
  | x :: l, i + 1, h => by
    have := btL_get l i (by simpa using h)
    have e : btL (x :: l) = x % 256 :: x / 256 :: btL l := by simp [btL]
    rw [e]
    have e1 : 2 * (i + 1) = (2 * i + 1) + 1 := by omega
    have e2 : 2 * (i + 1) + 1 = (2 * i + 1 + 1) + 1 := by omega
    rw [e1, List.getD_cons_succ, List.getD_cons_succ, List.getD_cons_succ, List.getD_cons_succ]
    exact this
end Go.Proofs.Ytihoaakbkffejaa
