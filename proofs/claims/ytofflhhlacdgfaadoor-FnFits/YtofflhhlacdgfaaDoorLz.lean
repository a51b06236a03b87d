/-
  What is proved here: a slice of bytes that is handed over holds at most as many bytes as memory bears.
-/
import Derived.Test.YtofflhhlacdgfaaDoorProg
import Derived.SizedLaws
import Derived.Lib.SmallJoins
namespace Go.Proofs.YtofflhhlacdgfaaDoor

theorem reach_of {H : Type} {d : DataW H} {ts : List TypeId} {ds : List (DataW H)} (h : (DataW.weightsEach Tryd.prog (22 :: ts) (d :: ds)).all (· ≤ reachBytes) = true) : Joins.sliceLen d ≤ 140737488351232 := by
  cases d with
  | slice el sp =>
    have h1 := sized_slice h (j := 0) (t := 22) (e := 5) rfl rfl Tryd.underlying22
    rw [show Tryd.prog.bytesOf 5 = 1 by kernel_rfl] at h1
    simp only [Joins.sliceLen, reachBytes] at h1 ⊢
    omega
  | _ => simp [Joins.sliceLen]
end Go.Proofs.YtofflhhlacdgfaaDoor
