/-
  What is proved here: the exact law of Wide returns true at every slice, where the program's tables hold what its text lays into them.
-/
import Derived.Test.YtgapfkiceolceaaDoorLWideW
import Derived.Test.YtgapfkiceolceaaDoorGi
namespace Go.Proofs.YtgapfkiceolceaaDoor
open Go.RowKit
theorem walkT_fnExactWide (w : World) (ab : Option Addr) (nb cb : Nat) (bs : List Int) (hB : Bs w ab nb cb bs) (hT : Tabw w) :
    Calls Tryd.prog 12 #[.slice ab nb cb] w fun e w' => e = .returned (.bool true) ∧ Below w.heap.size w w' :=
  walk_fnExactWide w ab nb cb bs hB (fun a n c W hb hx => implWide a n c bs W hx (hT.kept hb))
end Go.Proofs.YtgapfkiceolceaaDoor
