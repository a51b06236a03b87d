/-
  What is proved here: the eight bytes of a length in bits; plain mathematics, no condition.
-/
import Derived.Test.YtgapfkiceolceaaDoorKit
namespace Go.Proofs.YtgapfkiceolceaaDoor
open Go.RowKit

/-- The k-th byte of the length in bits, the greatest first. -/
def lenAt (N : Int) (k : Nat) : Int := 8 * N / 2 ^ (56 - 8 * k) % 256
def lenB (N : Int) (k : Nat) : List Int := (List.range k).map (lenAt N)
theorem lenB_succ (N : Int) (k : Nat) : lenB N (k + 1) = lenB N k ++ [lenAt N k] := by simp [lenB, List.range_succ]
theorem lenAt_byte (N : Int) (k : Nat) : 0 ≤ lenAt N k ∧ lenAt N k < 256 := by unfold lenAt; omega
end Go.Proofs.YtgapfkiceolceaaDoor
