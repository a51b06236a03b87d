/-
  What is proved here: plain mathematics: eight words that go through blocks of 64 bytes; no condition.
-/
import Derived.Test.YtgapfkiceolceaaDoorShaM
namespace Go.Proofs.YtgapfkiceolceaaDoor
open Go.RowKit

/-- The words behind k blocks. -/
def fld (hs l : List Int) : Nat → List Int
  | 0 => hs
  | k + 1 => blk (fld hs l k) ((l.drop (64 * k)).take 64)
theorem fld_len {hs : List Int} (h : hs.length = 8) (l : List Int) (k : Nat) : (fld hs l k).length = 8 := by
  induction k with
  | zero => exact h
  | succ k ih => exact blk_len ih _
theorem fld_word {hs : List Int} (h : ∀ x ∈ hs, 0 ≤ x ∧ x < 4294967296) (l : List Int) (k : Nat) : ∀ x ∈ fld hs l k, 0 ≤ x ∧ x < 4294967296 := by
  cases k with
  | zero => exact h
  | succ k => exact blk_word _ _
/-- The words behind all whole blocks, and what is left. -/
def allB (hs l : List Int) : List Int := fld hs l (l.length / 64)
def restB (l : List Int) : List Int := l.drop (64 * (l.length / 64))

end Go.Proofs.YtgapfkiceolceaaDoor
