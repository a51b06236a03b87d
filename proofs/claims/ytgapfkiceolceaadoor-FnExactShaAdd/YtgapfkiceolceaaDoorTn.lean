/-
  What is proved here: the contract of the specification's l2turn; and a name for what the program's tables hold.
-/
import Derived.Test.YtgapfkiceolceaaDoorShaM
import Derived.Test.YtgapfkiceolceaaDoorGdn
import Derived.Deep.QuietTactic
import Derived.BigQuiet
import Derived.Deep.Light
import Derived.Deep.RegionWith
namespace Go.Proofs.YtgapfkiceolceaaDoor
open Go.RowKit
set_option maxRecDepth 100000

/-- The program's two tables for words of 32 bits hold what its text lays into them. -/
abbrev Tabs (w : World) : Prop := Tabn w
theorem Tabs.below {w w' : World} (h : Tabs w) (hb : Below w.heap.size w w') : Tabs w' := Tabn.kept h hb
/-- The table of first words holds what the text lays into it. -/
abbrev TabF (w : World) : Prop := Vr w 0 (U32 H0)
theorem TabF.below {w w' : World} (h : TabF w) (hb : Below w.heap.size w w') : TabF w' := Vr.kept h hb

set_option maxHeartbeats 400000 in
theorem specTurn (x : Int) (n : Nat) (hn : 0 < n) (hn2 : n < 32) (m : Int) (hm : m = (n : Int)) (w : World) :
    Calls Tryd.prog 101 #[.int .u32 x, .int .i64 m] w fun e w' => e = .returned (.int .u32 (rot x n)) ∧ ∃ q, w' = w.drewN q := by
  subst hm
  go_enter Tryd.func101, Tryd.ntmps101
  go_wp2
  go_quiet (fail)
  go_wp2
  go_ret
  exact ⟨rfl, _, rfl⟩

end Go.Proofs.YtgapfkiceolceaaDoor
