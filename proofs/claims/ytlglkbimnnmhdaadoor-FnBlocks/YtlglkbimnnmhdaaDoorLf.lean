/-
  What is proved here: what the lists of laid variables that name the first words give the walks; no condition.
-/
import Derived.Test.YtlglkbimnnmhdaaDoorLd2
import Derived.Test.YtlglkbimnnmhdaaDoorNw
namespace Go.Proofs.YtlglkbimnnmhdaaDoor
open Go.ChangeShapes Go.WideShapes Go.ChangeAt Go.RowKit

theorem first_of {H : Type} {enc : TypeId × Value → H} {W : World} {sp : Nat → Bool} {held : Bool} {f : Nat} {cs : Array Value} {p : List MemPlace} (hv : W.var? Tryd.prog "loop.example/g00412/impl.shaFirst" = some cs)
    (h : DataW.trod enc Tryd.prog W 0 sp held f 58 cs.toList = some (Rows.laid_loop_example_g00412_impl_shaFirst, p)) : TabF W := by
  have e1 : cs.toList = H0.map (Value.int .u32) := Lib.cells_of_tab (zs := H0) Tryd.underlying58 Tryd.underlying56 (by kernel_rfl) (by kernel_rfl) h
  intro j hj
  rw [World.var?_cell gFirst hv j, ← Array.getElem?_toList, e1]
  simp only [List.getElem?_map, List.getD]
  rw [List.getElem?_eq_getElem (show j < H0.length from hj)]
  rfl

theorem tabf_of {W : World} (h : laidMetH Tryd.prog Rows.fnExactShaNewRow.laid W) : TabF W := by
  rw [MakeChecks.laidMetH_plain _ _ _ (by kernel_rfl)] at h
  obtain ⟨ps, ⟨g0, t0, cs0, f0, p0, q0, hg0, ht0, hv0, hd0, _, _⟩, _, _⟩ := h
  obtain rfl := Option.some.inj (gFirst.symm.trans hg0)
  obtain rfl := Option.some.inj (tFirst.symm.trans ht0)
  exact first_of hv0 hd0

theorem tabs3_of {W : World} (h : laidMetH Tryd.prog Rows.fnExactSha256Row.laid W) : Tabs W ∧ TabF W := by
  rw [MakeChecks.laidMetH_plain _ _ _ (by kernel_rfl)] at h
  obtain ⟨ps, ⟨g0, t0, cs0, f0, p0, q0, hg0, ht0, hv0, hd0, ⟨g2, t2, cs2, f2, p2, q2, hg2, ht2, hv2, hd2, ⟨g1, t1, cs1, f1, p1, q1, hg1, ht1, hv1, hd1, _, _⟩, _⟩, _⟩, _, _⟩ := h
  obtain rfl := Option.some.inj (gTurns.symm.trans hg0)
  obtain rfl := Option.some.inj (gFirst.symm.trans hg2)
  obtain rfl := Option.some.inj (gRounds.symm.trans hg1)
  obtain rfl := Option.some.inj (tTurns.symm.trans ht0)
  obtain rfl := Option.some.inj (tFirst.symm.trans ht2)
  obtain rfl := Option.some.inj (tRounds.symm.trans ht1)
  exact ⟨tabs_cells hg0 hv0 hd0 hg1 hv1 hd1, first_of hv2 hd2⟩
end Go.Proofs.YtlglkbimnnmhdaaDoor
