/-
  What is proved here: how an argument of the laws' own Device lies in memory, out of the reading that a row hands over; no condition beside.
-/
import Derived.Test.YtgfjbaigmkdbcaaGd
import Derived.Test.YtgfjbaigmkdbcaaGfg
import Derived.Test.YtgfjbaigmkdbcaaK0g
import Derived.Deep.Strs
namespace Go.Proofs.Ytgfjbaigmkdbcaa
set_option maxRecDepth 100000
open Go.ChangeShapes Go.WideShapes Go.ChangeAt Go.RowKit Go.Joins Go.Deep

section
variable {H : Type} {enc : TypeId × Value → H} {W : World} {base : Nat} {held : Bool} {r : Reach}
theorem rd_dev {n : Nat} {cs : List Value} {y : DataW H × List MemPlace} (h : DataW.trod enc Try.prog W 0 (fun _ => true) held n 65 cs = some y) (hl : cs.length = 4) :
    ∃ (m : DeviceM) (p : DeviceA), cs = devC m p ∧ DeviceRd W p m ∧ DeviceLn m := by
  have hc0 : Try.prog.cellsOf 3 = 1 := by kernel_rfl
  have hc1 : Try.prog.cellsOf 63 = 2 := by kernel_rfl
  have hc2 : Try.prog.cellsOf 41 = 1 := by kernel_rfl
  obtain ⟨v0, v1, v2, v3, rfl⟩ : ∃ v0 v1 v2 v3, cs = [v0, v1, v2, v3] := by
    match cs, hl with
    | [v0, v1, v2, v3], _ => exact ⟨v0, v1, v2, v3, rfl⟩
  obtain ⟨y0, y1, y2, n, _, _, g0, g1, g2⟩ := trod_struct3 Try.underlying65 h
  simp only [hc0, hc1, hc2, List.drop_zero, List.drop_succ_cons, List.take_succ_cons, List.take_zero] at g0 g1 g2
  obtain ⟨x0, rfl, _⟩ := cell_int g0
  obtain ⟨a1, k1, c1, x1, rfl, h1, l1, q1⟩ := rd_keys g1
  have e1 := h1.2.1
  subst e1
  obtain ⟨x2, p2, e2, h2, l2⟩ := rd_flash g2 rfl
  simp only [List.cons.injEq, and_true] at e2
  obtain ⟨rfl, rfl⟩ := e2
  exact ⟨⟨x0, x1, x2⟩, ⟨⟨a1, c1⟩, p2⟩, rfl, ⟨h1, h2⟩, ⟨⟨l1, q1⟩, l2⟩⟩
theorem arg_dev {v : Value} {x : DataW H × List MemPlace} (hv : Value.okWide Try.prog W r base 65 v)
    (h : ∃ fuel, DataW.trod enc Try.prog W 0 (fun _ => true) held fuel 65 v.cells.toList = some x) :
    ∃ (m : DeviceM) (p : DeviceA), v = devV m p ∧ DeviceRd W p m ∧ DeviceLn m := by
  obtain ⟨cs, rfl, hsz⟩ := okWide_struct Try.underlying65 hv
  have h3 : Try.prog.cellsOf 65 = 4 := by kernel_rfl
  obtain ⟨fuel, hf⟩ := h
  obtain ⟨m, p, e, h1, h2⟩ := rd_dev hf (by rw [h3] at hsz; simpa [Value.cells] using hsz)
  refine ⟨m, p, ?_, h1, h2⟩
  obtain ⟨l⟩ := cs
  have e2 : l = devC m p := e
  rw [e2]
end
end Go.Proofs.Ytgfjbaigmkdbcaa
