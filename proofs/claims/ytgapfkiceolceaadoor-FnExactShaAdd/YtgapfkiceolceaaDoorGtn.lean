/-
  What is proved here: contracts of the program's generic functions that turn a word of 32 bits (bits.Len64 at the greatest word, shaWordBytes, turnRight, shaTurn, shaShift), at every word and at the amounts that the tables of turns hold.
-/
import Derived.Test.YtgapfkiceolceaaDoorShaM
import Derived.Deep.QuietTactic
import Derived.BigQuiet
import Derived.Deep.Light
import Derived.Deep.RegionWith
import Derived.Test.YtgapfkiceolceaaDoorProg
namespace Go.Proofs.YtgapfkiceolceaaDoor
open Go.RowKit

set_option maxRecDepth 100000 in
set_option maxHeartbeats 1000000 in
theorem len64Cn (w : World) :
    Calls Tryd.prog 104 #[.int .u64 4294967295] w fun e w' => e = .returned (.int .i64 32) ∧ w' = w := by
  go_enter Tryd.func104, Tryd.ntmps104
  go_wp2
  go_ret
  exact ⟨by kernel_rfl, rfl⟩

set_option maxHeartbeats 400000 in
theorem wordBytesn (w : World) :
    Calls Tryd.prog 87 #[] w fun e w' => e = .returned (.int .i64 4) ∧ w' = w := by
  go_enter Tryd.func87, Tryd.ntmps87
  go_wp2_with fail
  refine (len64Cn _).mono ?_
  rintro e w' ⟨rfl, rfl⟩
  go_wp2
  go_ret
  exact ⟨rfl, rfl⟩

set_option maxHeartbeats 1000000 in
theorem turnRn (x : Int) (n : Nat) (hn : 0 < n) (hn2 : n < 32) (m : Int) (hm : m = (n : Int)) (w : World) :
    Calls Tryd.prog 112 #[.int .u32 x, .int .i64 m] w fun e w' => e = .returned (.int .u32 (rot x n)) ∧ ∃ q, w' = w.drewN q := by
  subst hm
  have e1 : IntKind.i64.wrap (32 - (n : Int)) = ((32 - n : Nat) : Int) := by rw [IntKind.wrap_i64]; omega
  have hq : ¬ ((32 - n : Nat) : Int) < 0 := by omega
  go_enter Tryd.func112, Tryd.ntmps112
  go_wp2
  go_quiet ((go_at_call 87; refine Calls.quiet_of_same (wordBytesn _)))
  go_wp2
  go_ret
  exact ⟨rfl, _, rfl⟩
end Go.Proofs.YtgapfkiceolceaaDoor
