/-
  What is proved here: the exact law of Sha512 returns true at every slice, where the program's tables hold what its text lays into them.
-/
import Derived.Test.YtgapfkiceolceaaDoorLSha512W
import Derived.Test.YtgapfkiceolceaaDoorGy
namespace Go.Proofs.YtgapfkiceolceaaDoor
open Go.RowKit
theorem walkT_fnExactSha512 (w : World) (ab : Option Addr) (nb cb : Nat) (bs : List Int) (hB : Bs w ab nb cb bs) (hT : Tabw w ∧ Vr w 1 (U64 H0W)) :
    Calls Tryd.prog 11 #[.slice ab nb cb] w fun e w' => e = .returned (.bool true) ∧ Below w.heap.size w w' :=
  walk_fnExactSha512 w ab nb cb bs hB (fun a n c W hb hx => implSha512 a n c bs W hx (hT.1.kept hb) (hT.2.kept hb))
end Go.Proofs.YtgapfkiceolceaaDoor
