/-
  What is proved here: the walk of a law of multipliers over the program's own functions; where the program's variable holds the order.
-/
import Derived.Test.YtlafcjoccbinaaaDoorZLScReadLW
import Derived.Test.YtlafcjoccbinaaaDoorZQm
namespace Go.Proofs.YtlafcjoccbinaaaDoor
open Go.RowKit
set_option maxRecDepth 100000
theorem walkV_fnScRead (w : World) (ab : Option Addr) (nb cb : Nat) (bs : List Int) (hB : Bs w ab nb cb bs) (hre : nb ≤ 140737488351232) (hv : Vr w 0 (I64 OL)) :
    Calls Tryd.prog 4 #[.slice ab nb cb] w fun e w' => e = .returned (.bool true) ∧ Below w.heap.size w w' :=
  walk_fnScRead Vs5 vs5_kept cRd5 cWd5 cOk5 cBt5 w ab nb cb bs hB hre hv
end Go.Proofs.YtlafcjoccbinaaaDoor
