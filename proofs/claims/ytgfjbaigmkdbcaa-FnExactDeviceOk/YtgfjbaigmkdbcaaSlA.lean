/-
  What is proved here: where a slice lies, and the laws' helpers on ints told as on bytes.
-/
import Derived.Test.YtgfjbaigmkdbcaaS0
import Derived.Test.YtgfjbaigmkdbcaaSmAI
import Derived.Test.YtgfjbaigmkdbcaaSmBI
import Derived.Test.YtgfjbaigmkdbcaaEqI
import Derived.Test.YtgfjbaigmkdbcaaSz
namespace Go.Proofs.Ytgfjbaigmkdbcaa
open Go.RowKit

/-- Where a slice lies, and its capacity. -/
structure SlA where
  a : Option Addr
  c : Nat
theorem szIC (a : Option Addr) (n c : Nat) (l : Int) (w : World) (h0 : 0 ≤ l) (hl : l ≤ 1048576) (hn : n ≤ 9223372036854775807) :
    Calls Try.prog 144 #[.slice a n c, .int .i64 l] w fun e w' => ∃ r : Int, e = .returned (.int .i64 r) ∧ (r = -1 ∨ 0 ≤ r ∧ r ≤ l ∧ n ≤ 1048576) ∧ Below w.heap.size w w' := by
  refine (szI a n c l _ (by omega) (by omega) hn).mono ?_
  rintro e w' ⟨rfl, rfl⟩
  by_cases h1 : l - (n : Int) < 0
  · rw [if_pos h1]; exact ⟨_, rfl, .inl rfl, Below.refl _ _⟩
  · rw [if_neg h1]; exact ⟨_, rfl, .inr ⟨by omega, by omega, by omega⟩, Below.refl _ _⟩
theorem eqIC (a a' : Option Addr) (n c c' : Nat) (xs : List Int) (w : World) (h : Is w a n c xs) (h' : Is w a' n c' xs) (hn : n ≤ 2097152) :
    Calls Try.prog 69 #[.slice a n c, .slice a' n c'] w fun e w' => e = .returned (.bool true) ∧ Below w.heap.size w w' := by
  refine (eqI a a' n c c' xs _ h h' hn).mono ?_
  rintro e w' ⟨q, rfl, rfl⟩
  exact ⟨rfl, bel_drewN _ _⟩
end Go.Proofs.Ytgfjbaigmkdbcaa
