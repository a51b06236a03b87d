/-
  What is proved here: how an argument of the laws' own Flash type lies in memory, out of the reading that a row hands over; no condition beside.
-/
import Derived.Test.YtcnlpdpbkkjkoaaF9a
import Derived.Deep.Strs
import Derived.WalkKit
import Derived.ProofKit
import Derived.OpenShut
import Derived.ChangeOld
import Derived.ChangeSame
namespace Go.Proofs.Ytcnlpdpbkkjkoaa
set_option maxRecDepth 100000
open Go.ChangeShapes Go.WideShapes Go.ChangeAt Go.RowKit

theorem arg_flash {H : Type} {enc : TypeId × Value → H} {W : World} {base : Nat} {held : Bool} {r : Reach} {v : Value} {x : DataW H × List MemPlace} (hv : Value.okWide Try.prog W r base 45 v)
    (h : ∃ fuel, DataW.trod enc Try.prog W 0 (fun _ => true) held fuel 45 v.cells.toList = some x) :
    ∃ aB nB cB aW nW cW bs ws, v = flV aB nB cB aW nW cW ∧ Bs W aB nB cB bs ∧ Is W aW nW cW ws ∧ nB ≤ 9223372036854775807 ∧ nW ≤ 9223372036854775807 := by
  obtain ⟨cs, rfl, hsz⟩ := okWide_struct Try.underlying45 hv
  have h3 : Try.prog.cellsOf 45 = 2 := by kernel_rfl
  have hc0 : Try.prog.cellsOf 23 = 1 := by kernel_rfl
  have hc1 : Try.prog.cellsOf 3 = 1 := by kernel_rfl
  have hc2 : Try.prog.cellsOf 22 = 1 := by kernel_rfl
  have he2 : Try.prog.cellsOf 5 = 1 := by kernel_rfl
  obtain ⟨v0, v1, rfl⟩ : ∃ v0 v1, cs = #[v0, v1] := by
    rw [h3] at hsz
    match cs, hsz with
    | ⟨[v0, v1]⟩, _ => exact ⟨v0, v1, rfl⟩
  obtain ⟨fuel, hf⟩ := h
  obtain ⟨y0, y1, n, _, _, g0, g1⟩ := trod_struct2 Try.underlying45 hf
  simp only [hc0, hc2, Value.cells, List.drop_zero, List.drop_succ_cons, List.take_succ_cons, List.take_zero] at g0 g1
  obtain ⟨aB, nB, cB, bs, rfl, hB, hBn⟩ : ∃ aB nB cB bs, v0 = .slice aB nB cB ∧ Bs W aB nB cB bs ∧ nB ≤ 9223372036854775807 := by
    rcases open_ints Try.underlying22 Try.underlying5 he2 g0 with ⟨hcs, _⟩ | ⟨a, l, c, zs, hcs, _, hl, hm, hz, _, hcell, hwz⟩
    · simp only [List.cons.injEq, and_true] at hcs
      exact ⟨none, 0, 0, [], hcs, ⟨fun _ => rfl, rfl, Nat.le_refl _, by simp, .inl rfl⟩, by omega⟩
    · simp only [List.cons.injEq, and_true] at hcs
      exact ⟨some a, l, c, zs.take l, hcs, bs_of_arg hl (by simpa using hz) hcell hwz, by unfold maxLen at hm; omega⟩
  obtain ⟨aW, nW, cW, ws, rfl, hW, hWn⟩ : ∃ aW nW cW ws, v1 = .slice aW nW cW ∧ Is W aW nW cW ws ∧ nW ≤ 9223372036854775807 := by
    rcases open_ints Try.underlying23 Try.underlying3 hc1 g1 with ⟨hcs, _⟩ | ⟨a, l, c, zs, hcs, _, hl, hm, hz, _, hcell, hwz⟩
    · simp only [List.cons.injEq, and_true] at hcs
      exact ⟨none, 0, 0, [], hcs, ⟨fun _ => rfl, rfl, Nat.le_refl _, by simp, .inl rfl⟩, by omega⟩
    · simp only [List.cons.injEq, and_true] at hcs
      exact ⟨some a, l, c, zs.take l, hcs, is_of_arg hl (by simpa using hz) hcell hwz, by unfold maxLen at hm; omega⟩
  exact ⟨aB, nB, cB, aW, nW, cW, bs, ws, rfl, hB, hW, hBn, hWn⟩
end Go.Proofs.Ytcnlpdpbkkjkoaa
