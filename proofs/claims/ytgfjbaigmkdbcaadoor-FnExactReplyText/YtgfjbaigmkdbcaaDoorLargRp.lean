/-
  What is proved here: how an argument of the laws' own Reply type lies in memory, out of the reading that a row hands over; no condition beside.
-/
import Derived.Test.YtgfjbaigmkdbcaaDoorLargI
namespace Go.Proofs.YtgfjbaigmkdbcaaDoor
set_option maxRecDepth 100000
open Go.ChangeShapes Go.WideShapes Go.ChangeAt Go.RowKit Go.Joins

section
variable {H : Type} {enc : TypeId × Value → H} {W : World} {base : Nat} {held : Bool} {r : Reach}
theorem arg_rep {v : Value} {x : DataW H × List MemPlace} (hv : Value.okWide Tryd.prog W r base 52 v)
    (h : ∃ fuel, DataW.trod enc Tryd.prog W 0 (fun _ => true) held fuel 52 v.cells.toList = some x) :
    ∃ k b n f, v = rcV k b n f ∧ I64R k ∧ I64R b ∧ I64R n ∧ I64R f := by
  obtain ⟨cs, rfl, hsz⟩ := okWide_struct Tryd.underlying52 hv
  have h3 : Tryd.prog.cellsOf 52 = 4 := by kernel_rfl
  have hc1 : Tryd.prog.cellsOf 3 = 1 := by kernel_rfl
  obtain ⟨v0, v1, v2, v3, rfl⟩ : ∃ v0 v1 v2 v3, cs = #[v0, v1, v2, v3] := by
    rw [h3] at hsz
    match cs, hsz with
    | ⟨[v0, v1, v2, v3]⟩, _ => exact ⟨v0, v1, v2, v3, rfl⟩
  obtain ⟨fuel, hf⟩ := h
  obtain ⟨y0, y1, y2, y3, n, _, _, g0, g1, g2, g3⟩ := trod_struct4 Tryd.underlying52 hf
  simp only [hc1, Value.cells, List.drop_zero, List.drop_succ_cons, List.take_succ_cons, List.take_zero] at g0 g1 g2 g3
  obtain ⟨k, rfl, hk⟩ := cell_int g0
  obtain ⟨b, rfl, hb⟩ := cell_int g1
  obtain ⟨m, rfl, hm⟩ := cell_int g2
  obtain ⟨f, rfl, hF⟩ := cell_int g3
  exact ⟨k, b, m, f, rfl, hk, hb, hm, hF⟩
end
end Go.Proofs.YtgfjbaigmkdbcaaDoor
