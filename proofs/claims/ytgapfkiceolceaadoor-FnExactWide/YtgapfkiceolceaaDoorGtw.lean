/-
  What is proved here: contracts of the program's generic functions that turn a word of 64 bits (bits.Len64 at the greatest word, shaWordBytes, turnRight, shaTurn, shaShift), at every word and at the amounts that the tables of turns hold.
-/
import Derived.Test.YtgapfkiceolceaaDoorWm
import Derived.Deep.QuietTactic
import Derived.BigQuiet
import Derived.Deep.Light
import Derived.Deep.RegionWith
import Derived.Test.YtgapfkiceolceaaDoorProg
namespace Go.Proofs.YtgapfkiceolceaaDoor
open Go.RowKit

set_option maxRecDepth 100000 in
set_option maxHeartbeats 1000000 in
theorem len64Cw (w : World) :
    Calls Tryd.prog 104 #[.int .u64 18446744073709551615] w fun e w' => e = .returned (.int .i64 64) ∧ w' = w := by
  go_enter Tryd.func104, Tryd.ntmps104
  go_wp2
  go_ret
  exact ⟨by kernel_rfl, rfl⟩

set_option maxHeartbeats 400000 in
theorem wordBytesw (w : World) :
    Calls Tryd.prog 98 #[] w fun e w' => e = .returned (.int .i64 8) ∧ w' = w := by
  go_enter Tryd.func98, Tryd.ntmps98
  go_wp2_with fail
  refine (len64Cw _).mono ?_
  rintro e w' ⟨rfl, rfl⟩
  go_wp2
  go_ret
  exact ⟨rfl, rfl⟩

set_option maxHeartbeats 1000000 in
theorem turnRw (x : Int) (n : Nat) (hn : 0 < n) (hn2 : n < 64) (m : Int) (hm : m = (n : Int)) (w : World) :
    Calls Tryd.prog 113 #[.int .u64 x, .int .i64 m] w fun e w' => e = .returned (.int .u64 (rotw x n)) ∧ ∃ q, w' = w.drewN q := by
  subst hm
  have e1 : IntKind.i64.wrap (64 - (n : Int)) = ((64 - n : Nat) : Int) := by rw [IntKind.wrap_i64]; omega
  have hq : ¬ ((64 - n : Nat) : Int) < 0 := by omega
  go_enter Tryd.func113, Tryd.ntmps113
  go_wp2
  go_quiet ((go_at_call 98; refine Calls.quiet_of_same (wordBytesw _)))
  go_wp2
  go_ret
  exact ⟨rfl, _, rfl⟩
end Go.Proofs.YtgapfkiceolceaaDoor
