/-
  What is proved here: the exact law of Round512 returns true at every number, where the program's table holds what its text lays into it.
-/
import Derived.Test.YtgapfkiceolceaaDoorLRound512W
import Derived.Test.YtgapfkiceolceaaDoorGx
namespace Go.Proofs.YtgapfkiceolceaaDoor
open Go.RowKit
theorem walkT_fnExactRound512 (w : World) (i : Int) (hT : Vr w 2 (U64 KW)) :
    Calls Tryd.prog 13 #[.int .i64 i] w fun e w' => e = .returned (.bool true) ∧ Below w.heap.size w w' :=
  walk_fnExactRound512 w i (fun W hb => implRound512 i W (hT.kept hb))
end Go.Proofs.YtgapfkiceolceaaDoor
