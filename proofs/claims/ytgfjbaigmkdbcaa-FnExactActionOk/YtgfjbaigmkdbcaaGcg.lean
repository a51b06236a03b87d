/-
  What is proved here: how an argument of the laws' own Cut lies in memory, out of the reading that a row hands over; no condition beside.
-/
import Derived.Test.YtgfjbaigmkdbcaaGc
import Derived.Test.YtgfjbaigmkdbcaaGg
namespace Go.Proofs.Ytgfjbaigmkdbcaa
set_option maxRecDepth 100000
open Go.ChangeShapes Go.WideShapes Go.ChangeAt Go.RowKit Go.Joins

section
variable {H : Type} {enc : TypeId × Value → H} {W : World} {base : Nat} {held : Bool} {r : Reach}
theorem rd_cut {n : Nat} {cs : List Value} {y : DataW H × List MemPlace} (h : DataW.trod enc Try.prog W 0 (fun _ => true) held n 75 cs = some y) (hl : cs.length = 2) :
    ∃ (m : CutM) (p : CutA), cs = cutC m p ∧ CutRd W p m ∧ CutLn m := by
  have hc0 : Try.prog.cellsOf 3 = 1 := by kernel_rfl
  have hc1 : Try.prog.cellsOf 35 = 1 := by kernel_rfl
  obtain ⟨v0, v1, rfl⟩ : ∃ v0 v1, cs = [v0, v1] := by
    match cs, hl with
    | [v0, v1], _ => exact ⟨v0, v1, rfl⟩
  obtain ⟨y0, y1, n, _, _, g0, g1⟩ := trod_struct2 Try.underlying75 h
  simp only [hc0, hc1, List.drop_zero, List.drop_succ_cons, List.take_succ_cons, List.take_zero] at g0 g1
  obtain ⟨x0, rfl, _⟩ := cell_int g0
  obtain ⟨a1, k1, c1, x1, rfl, h1, l1⟩ := rd_bytes g1
  have e1 := h1.2.1
  subst e1
  exact ⟨⟨x0, x1⟩, ⟨⟨a1, c1⟩⟩, rfl, ⟨h1⟩, ⟨l1⟩⟩
theorem arg_cut {v : Value} {x : DataW H × List MemPlace} (hv : Value.okWide Try.prog W r base 75 v)
    (h : ∃ fuel, DataW.trod enc Try.prog W 0 (fun _ => true) held fuel 75 v.cells.toList = some x) :
    ∃ (m : CutM) (p : CutA), v = cutV m p ∧ CutRd W p m ∧ CutLn m := by
  obtain ⟨cs, rfl, hsz⟩ := okWide_struct Try.underlying75 hv
  have h3 : Try.prog.cellsOf 75 = 2 := by kernel_rfl
  obtain ⟨fuel, hf⟩ := h
  obtain ⟨m, p, e, h1, h2⟩ := rd_cut hf (by rw [h3] at hsz; simpa [Value.cells] using hsz)
  refine ⟨m, p, ?_, h1, h2⟩
  obtain ⟨l⟩ := cs
  have e2 : l = cutC m p := e
  rw [e2]
end
end Go.Proofs.Ytgfjbaigmkdbcaa
