/-
  What is proved here: the law of wide sums returns true at every code, where the program's tables hold what its text lays into them.
-/
import Derived.Test.YtgapfkiceolceaaDoorLWidesW
import Derived.Test.YtgapfkiceolceaaDoorGi
import Derived.Test.YtgapfkiceolceaaDoorGy
import Derived.Test.YtgapfkiceolceaaDoorZr
import Derived.Test.YtgapfkiceolceaaDoorHh
namespace Go.Proofs.YtgapfkiceolceaaDoor
open Go.RowKit
theorem walkT_fnWides (w : World) (ab : Option Addr) (nb cb : Nat) (bs : List Int) (hB : Bs w ab nb cb bs) (hnb : nb ≤ 140737488351232) (hT : (Tabn w ∧ Vr w 0 (U32 H0)) ∧ Tabw w ∧ Vr w 1 (U64 H0W)) :
    Calls Tryd.prog 5 #[.slice ab nb cb] w fun e w' => e = .returned (.bool true) ∧ Below w.heap.size w w' :=
  walk_fnWides w ab nb cb bs hB hnb (fun a n c xs W hb hx => implWide a n c xs W hx (hT.2.1.kept hb)) (fun a n c xs W hb hx => implSha512 a n c xs W hx (hT.2.1.kept hb) (hT.2.2.kept hb))
    (fun W hb => implRound512 0 W (hT.2.1.tk.kept hb)) (fun W hb => drawSha512 ab nb cb bs W (hB.below hb) (by omega)) (fun W hb => hashesT W (hT.1.1.kept hb) (hT.1.2.kept hb))
end Go.Proofs.YtgapfkiceolceaaDoor
