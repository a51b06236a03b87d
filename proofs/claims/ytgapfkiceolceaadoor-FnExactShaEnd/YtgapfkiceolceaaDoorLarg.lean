/-
  What is proved here: how an argument of the laws' own Sha type lies in memory, out of the reading that a row hands over; no condition beside.
-/
import Derived.Test.YtgapfkiceolceaaDoorQ5
import Derived.Deep.Strs
import Derived.WalkKit
import Derived.ProofKit
import Derived.OpenShut
import Derived.ChangeOld
namespace Go.Proofs.YtgapfkiceolceaaDoor
set_option maxRecDepth 100000
open Go.ChangeShapes Go.WideShapes Go.ChangeAt Go.RowKit

theorem arg_sha {H : Type} {enc : TypeId × Value → H} {W : World} {base : Nat} {held : Bool} {r : Reach} {v : Value} {x : DataW H × List MemPlace} (hv : Value.okWide Tryd.prog W r base 54 v)
    (h : ∃ fuel, DataW.trod enc Tryd.prog W 0 (fun _ => true) held fuel 54 v.cells.toList = some x) :
    ∃ aH nH cH N aT nT cT hs ts, v = shaV aH nH cH N aT nT cT ∧ Is W aH nH cH hs ∧ Bs W aT nT cT ts ∧ nH ≤ 9223372036854775807 ∧ nT ≤ 9223372036854775807 ∧ -9223372036854775808 ≤ N ∧ N ≤ 9223372036854775807 := by
  obtain ⟨cs, rfl, hsz⟩ := okWide_struct Tryd.underlying54 hv
  have h3 : Tryd.prog.cellsOf 54 = 3 := by kernel_rfl
  have hc0 : Tryd.prog.cellsOf 25 = 1 := by kernel_rfl
  have hc1 : Tryd.prog.cellsOf 3 = 1 := by kernel_rfl
  have hc2 : Tryd.prog.cellsOf 22 = 1 := by kernel_rfl
  have he2 : Tryd.prog.cellsOf 5 = 1 := by kernel_rfl
  obtain ⟨v0, v1, v2, rfl⟩ : ∃ v0 v1 v2, cs = #[v0, v1, v2] := by
    rw [h3] at hsz
    match cs, hsz with
    | ⟨[v0, v1, v2]⟩, _ => exact ⟨v0, v1, v2, rfl⟩
  obtain ⟨fuel, hf⟩ := h
  obtain ⟨y0, y1, y2, n, _, _, g0, g1, g2⟩ := Deep.trod_struct3 Tryd.underlying54 hf
  simp only [hc0, hc1, hc2, Value.cells, List.drop_zero, List.drop_succ_cons, List.take_succ_cons, List.take_zero] at g0 g1 g2
  obtain ⟨N, hN, _, hNw⟩ := DataW.trod_int Tryd.underlying3 g1
  have hb := int_wf hNw
  obtain ⟨aH, nH, cH, hs, rfl, hH, hHn⟩ : ∃ aH nH cH hs, v0 = .slice aH nH cH ∧ Is W aH nH cH hs ∧ nH ≤ 9223372036854775807 := by
    rcases open_ints Tryd.underlying25 Tryd.underlying3 hc1 g0 with ⟨hcs, _⟩ | ⟨a, l, c, zs, hcs, _, hl, hm, hz, _, hcell, hwz⟩
    · simp only [List.cons.injEq, and_true] at hcs
      exact ⟨none, 0, 0, [], hcs, ⟨fun _ => rfl, rfl, Nat.le_refl _, by simp, .inl rfl⟩, by omega⟩
    · simp only [List.cons.injEq, and_true] at hcs
      exact ⟨some a, l, c, zs.take l, hcs, is_of_arg hl (by simpa using hz) hcell hwz, by unfold maxLen at hm; omega⟩
  obtain ⟨aT, nT, cT, ts, rfl, hT, hTn⟩ : ∃ aT nT cT ts, v2 = .slice aT nT cT ∧ Bs W aT nT cT ts ∧ nT ≤ 9223372036854775807 := by
    rcases open_ints Tryd.underlying22 Tryd.underlying5 he2 g2 with ⟨hcs, _⟩ | ⟨a, l, c, zs, hcs, _, hl, hm, hz, _, hcell, hwz⟩
    · simp only [List.cons.injEq, and_true] at hcs
      exact ⟨none, 0, 0, [], hcs, ⟨fun _ => rfl, rfl, Nat.le_refl _, by simp, .inl rfl⟩, by omega⟩
    · simp only [List.cons.injEq, and_true] at hcs
      exact ⟨some a, l, c, zs.take l, hcs, bs_of_arg hl (by simpa using hz) hcell hwz, by unfold maxLen at hm; omega⟩
  simp only [List.cons.injEq, and_true] at hN
  subst hN
  exact ⟨aH, nH, cH, N, aT, nT, cT, hs, ts, rfl, hH, hT, hHn, hTn, hb.1, hb.2⟩
end Go.Proofs.YtgapfkiceolceaaDoor
