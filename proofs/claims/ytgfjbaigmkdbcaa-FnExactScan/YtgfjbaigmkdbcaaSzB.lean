/-
  What is proved here: the contract of the laws' count of a slice of bytes.
-/
import Derived.Test.YtgfjbaigmkdbcaaEqI
namespace Go.Proofs.Ytgfjbaigmkdbcaa
open Go.RowKit

set_option maxHeartbeats 1000000 in
theorem szB (a : Option Addr) (n c : Nat) (l : Int) (w : World) (h0 : 0 ≤ l) (h1 : l ≤ 1048576) (hn : n ≤ 9223372036854775807) :
    Calls Try.prog 117 #[.slice a n c, .int .i64 l] w fun e w' => e = .returned (.int .i64 (if l - (n : Int) < 0 then -1 else l - (n : Int))) ∧ w' = w := by
  have hw : wrap64 (l - (n : Int)) = l - (n : Int) := by unfold wrap64; omega
  by_cases hlt : l - (n : Int) < 0
  · rw [if_pos hlt]
    go_enter Try.func117, Try.ntmps117
    go_wp2
    go_ret
    exact ⟨rfl, rfl⟩
  · rw [if_neg hlt]
    go_enter Try.func117, Try.ntmps117
    go_wp2
    go_ret
    exact ⟨rfl, rfl⟩

end Go.Proofs.Ytgfjbaigmkdbcaa
