/-
  What is proved here: how an argument of the laws' own Action lies in memory, out of the reading that a row hands over; no condition beside.
-/
import Derived.Test.YtgfjbaigmkdbcaaGa
import Derived.Test.YtgfjbaigmkdbcaaGcg
namespace Go.Proofs.Ytgfjbaigmkdbcaa
set_option maxRecDepth 100000
open Go.ChangeShapes Go.WideShapes Go.ChangeAt Go.RowKit Go.Joins

section
variable {H : Type} {enc : TypeId × Value → H} {W : World} {base : Nat} {held : Bool} {r : Reach}
theorem rd_act {n : Nat} {cs : List Value} {y : DataW H × List MemPlace} (h : DataW.trod enc Try.prog W 0 (fun _ => true) held n 89 cs = some y) (hl : cs.length = 5) :
    ∃ (m : ActionM) (p : ActionA), cs = actC m p ∧ ActionRd W p m ∧ ActionLn m := by
  have hc0 : Try.prog.cellsOf 3 = 1 := by kernel_rfl
  have hc1 : Try.prog.cellsOf 87 = 1 := by kernel_rfl
  have hc2 : Try.prog.cellsOf 35 = 1 := by kernel_rfl
  have hc3 : Try.prog.cellsOf 75 = 2 := by kernel_rfl
  obtain ⟨v0, v1, v2, v3, v4, rfl⟩ : ∃ v0 v1 v2 v3 v4, cs = [v0, v1, v2, v3, v4] := by
    match cs, hl with
    | [v0, v1, v2, v3, v4], _ => exact ⟨v0, v1, v2, v3, v4, rfl⟩
  obtain ⟨y0, y1, y2, y3, n, _, _, g0, g1, g2, g3⟩ := trod_struct4 Try.underlying89 h
  simp only [hc0, hc1, hc2, hc3, List.drop_zero, List.drop_succ_cons, List.take_succ_cons, List.take_zero] at g0 g1 g2 g3
  obtain ⟨x0, rfl, _⟩ := cell_int g0
  obtain ⟨a1, k1, c1, x1, rfl, h1, l1⟩ := rd_bytes g1
  have e1 := h1.2.1
  subst e1
  obtain ⟨a2, k2, c2, x2, rfl, h2, l2, q2⟩ := rd_bss g2
  have e2 := h2.2.1
  subst e2
  obtain ⟨x3, p3, e3, h3, l3⟩ := rd_cut g3 rfl
  simp only [List.cons.injEq, and_true] at e3
  obtain ⟨rfl, rfl⟩ := e3
  exact ⟨⟨x0, x1, x2, x3⟩, ⟨⟨a1, c1⟩, ⟨a2, c2⟩, p3⟩, rfl, ⟨h1, h2, h3⟩, ⟨l1, ⟨l2, q2⟩, l3⟩⟩
theorem arg_act {v : Value} {x : DataW H × List MemPlace} (hv : Value.okWide Try.prog W r base 89 v)
    (h : ∃ fuel, DataW.trod enc Try.prog W 0 (fun _ => true) held fuel 89 v.cells.toList = some x) :
    ∃ (m : ActionM) (p : ActionA), v = actV m p ∧ ActionRd W p m ∧ ActionLn m := by
  obtain ⟨cs, rfl, hsz⟩ := okWide_struct Try.underlying89 hv
  have h3 : Try.prog.cellsOf 89 = 5 := by kernel_rfl
  obtain ⟨fuel, hf⟩ := h
  obtain ⟨m, p, e, h1, h2⟩ := rd_act hf (by rw [h3] at hsz; simpa [Value.cells] using hsz)
  refine ⟨m, p, ?_, h1, h2⟩
  obtain ⟨l⟩ := cs
  have e2 : l = actC m p := e
  rw [e2]
end
end Go.Proofs.Ytgfjbaigmkdbcaa
