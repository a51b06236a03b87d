/-
  What is proved here: how an argument of the laws' own Rec or Boot type lies in memory, out of the reading that a row hands over; no condition beside.
-/
import Derived.Test.YtgfjbaigmkdbcaaDoorLargI
namespace Go.Proofs.YtgfjbaigmkdbcaaDoor
set_option maxRecDepth 100000
open Go.ChangeShapes Go.WideShapes Go.ChangeAt Go.RowKit Go.Joins

section
variable {H : Type} {enc : TypeId × Value → H} {W : World} {base : Nat} {held : Bool} {r : Reach}
theorem arg_rec {v : Value} {x : DataW H × List MemPlace} (hv : Value.okWide Tryd.prog W r base 40 v)
    (h : ∃ fuel, DataW.trod enc Tryd.prog W 0 (fun _ => true) held fuel 40 v.cells.toList = some x) :
    ∃ k b n f, v = rcV k b n f ∧ I64R k ∧ I64R b ∧ I64R n ∧ I64R f := by
  obtain ⟨cs, rfl, hsz⟩ := okWide_struct Tryd.underlying40 hv
  have h3 : Tryd.prog.cellsOf 40 = 4 := by kernel_rfl
  have hc1 : Tryd.prog.cellsOf 3 = 1 := by kernel_rfl
  obtain ⟨v0, v1, v2, v3, rfl⟩ : ∃ v0 v1 v2 v3, cs = #[v0, v1, v2, v3] := by
    rw [h3] at hsz
    match cs, hsz with
    | ⟨[v0, v1, v2, v3]⟩, _ => exact ⟨v0, v1, v2, v3, rfl⟩
  obtain ⟨fuel, hf⟩ := h
  obtain ⟨y0, y1, y2, y3, n, _, _, g0, g1, g2, g3⟩ := trod_struct4 Tryd.underlying40 hf
  simp only [hc1, Value.cells, List.drop_zero, List.drop_succ_cons, List.take_succ_cons, List.take_zero] at g0 g1 g2 g3
  obtain ⟨k, rfl, hk⟩ := cell_int g0
  obtain ⟨b, rfl, hb⟩ := cell_int g1
  obtain ⟨m, rfl, hm⟩ := cell_int g2
  obtain ⟨f, rfl, hF⟩ := cell_int g3
  exact ⟨k, b, m, f, rfl, hk, hb, hm, hF⟩
theorem arg_boot {v : Value} {x : DataW H × List MemPlace} (hv : Value.okWide Tryd.prog W r base 46 v)
    (h : ∃ fuel, DataW.trod enc Tryd.prog W 0 (fun _ => true) held fuel 46 v.cells.toList = some x) :
    ∃ b n f t i o, v = btV b n f t i o ∧ I64R b ∧ I64R n ∧ I64R f ∧ I64R i ∧ I64R o := by
  obtain ⟨cs, rfl, hsz⟩ := okWide_struct Tryd.underlying46 hv
  have h3 : Tryd.prog.cellsOf 46 = 6 := by kernel_rfl
  have hc1 : Tryd.prog.cellsOf 3 = 1 := by kernel_rfl
  have hc4 : Tryd.prog.cellsOf 4 = 1 := by kernel_rfl
  obtain ⟨v0, v1, v2, v3, v4, v5, rfl⟩ : ∃ v0 v1 v2 v3 v4 v5, cs = #[v0, v1, v2, v3, v4, v5] := by
    rw [h3] at hsz
    match cs, hsz with
    | ⟨[v0, v1, v2, v3, v4, v5]⟩, _ => exact ⟨v0, v1, v2, v3, v4, v5, rfl⟩
  obtain ⟨fuel, hf⟩ := h
  obtain ⟨y0, y1, y2, y3, y4, y5, n, g0, g1, g2, g3, g4, g5⟩ := trod_struct6 Tryd.underlying46 hf
  simp only [hc1, hc4, Value.cells, List.drop_zero, List.drop_succ_cons, List.take_succ_cons, List.take_zero] at g0 g1 g2 g3 g4 g5
  obtain ⟨b, rfl, hb⟩ := cell_int g0
  obtain ⟨m, rfl, hm⟩ := cell_int g1
  obtain ⟨f, rfl, hF⟩ := cell_int g2
  obtain ⟨t, rfl⟩ := cell_bool g3
  obtain ⟨i, rfl, hi⟩ := cell_int g4
  obtain ⟨o, rfl, ho⟩ := cell_int g5
  exact ⟨b, m, f, t, i, o, rfl, hb, hm, hF, hi, ho⟩
end
end Go.Proofs.YtgfjbaigmkdbcaaDoor
