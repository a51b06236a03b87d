/-
  What is proved here: how an argument of the laws' own Flash lies in memory, out of the reading that a row hands over; no condition beside.
-/
import Derived.Test.YtgfjbaigmkdbcaaGf
import Derived.Test.YtgfjbaigmkdbcaaGg
namespace Go.Proofs.Ytgfjbaigmkdbcaa
set_option maxRecDepth 100000
open Go.ChangeShapes Go.WideShapes Go.ChangeAt Go.RowKit Go.Joins

section
variable {H : Type} {enc : TypeId × Value → H} {W : World} {base : Nat} {held : Bool} {r : Reach}
theorem rd_flash {n : Nat} {cs : List Value} {y : DataW H × List MemPlace} (h : DataW.trod enc Try.prog W 0 (fun _ => true) held n 63 cs = some y) (hl : cs.length = 2) :
    ∃ (m : FlashM) (p : FlashA), cs = flashC m p ∧ FlashRd W p m ∧ FlashLn m := by
  have hc0 : Try.prog.cellsOf 35 = 1 := by kernel_rfl
  have hc1 : Try.prog.cellsOf 61 = 1 := by kernel_rfl
  obtain ⟨v0, v1, rfl⟩ : ∃ v0 v1, cs = [v0, v1] := by
    match cs, hl with
    | [v0, v1], _ => exact ⟨v0, v1, rfl⟩
  obtain ⟨y0, y1, n, _, _, g0, g1⟩ := trod_struct2 Try.underlying63 h
  simp only [hc0, hc1, List.drop_zero, List.drop_succ_cons, List.take_succ_cons, List.take_zero] at g0 g1
  obtain ⟨a0, k0, c0, x0, rfl, h0, l0⟩ := rd_bytes g0
  have e0 := h0.2.1
  subst e0
  obtain ⟨a1, k1, c1, x1, rfl, h1, l1⟩ := rd_ints g1
  have e1 := h1.2.1
  subst e1
  exact ⟨⟨x0, x1⟩, ⟨⟨a0, c0⟩, ⟨a1, c1⟩⟩, rfl, ⟨h0, h1⟩, ⟨l0, l1⟩⟩
theorem arg_flash {v : Value} {x : DataW H × List MemPlace} (hv : Value.okWide Try.prog W r base 63 v)
    (h : ∃ fuel, DataW.trod enc Try.prog W 0 (fun _ => true) held fuel 63 v.cells.toList = some x) :
    ∃ (m : FlashM) (p : FlashA), v = flashV m p ∧ FlashRd W p m ∧ FlashLn m := by
  obtain ⟨cs, rfl, hsz⟩ := okWide_struct Try.underlying63 hv
  have h3 : Try.prog.cellsOf 63 = 2 := by kernel_rfl
  obtain ⟨fuel, hf⟩ := h
  obtain ⟨m, p, e, h1, h2⟩ := rd_flash hf (by rw [h3] at hsz; simpa [Value.cells] using hsz)
  refine ⟨m, p, ?_, h1, h2⟩
  obtain ⟨l⟩ := cs
  have e2 : l = flashC m p := e
  rw [e2]
end
end Go.Proofs.Ytgfjbaigmkdbcaa
