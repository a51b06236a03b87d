/-
  What is proved here: how an argument of the laws' own Part lies in memory, out of the reading that a row hands over; no condition beside.
-/
import Derived.Test.YtofflhhlacdgfaaDoorJP19
import Derived.Test.YtofflhhlacdgfaaDoorJP1
import Derived.Lib.SmallJoins
import Derived.Deep.Slices
import Derived.WalkKit
import Derived.ProofKit
import Derived.OpenShut
import Derived.ChangeOld
namespace Go.Proofs.YtofflhhlacdgfaaDoor
set_option maxRecDepth 100000
open Go.ChangeShapes Go.WideShapes Go.ChangeAt Go.RowKit Go.Joins

section
variable {H : Type} {enc : TypeId × Value → H} {W : World} {base : Nat} {held : Bool} {r : Reach}
theorem cell_intP {n : Nat} {v : Value} {y : DataW H × List MemPlace} (h : DataW.trod enc Tryd.prog W 0 (fun _ => true) held n 3 [v] = some y) : ∃ x, v = .int .i64 x ∧ (-9223372036854775808 ≤ x ∧ x ≤ 9223372036854775807) := by
  obtain ⟨x, h1, _, hw⟩ := DataW.trod_int Tryd.underlying3 h
  simp only [List.cons.injEq, and_true] at h1
  exact ⟨x, h1, int_wf hw⟩
theorem rd_bytesP {v : Value} {fuel : Nat} {x : DataW H × List MemPlace} (hf : DataW.trod enc Tryd.prog W 0 (fun _ => true) held fuel 22 [v] = some x) :
    ∃ a n c xs, v = .slice a n c ∧ Bs W a n c xs ∧ n ≤ 9223372036854775807 := by
  have he2 : Tryd.prog.cellsOf 5 = 1 := by kernel_rfl
  rcases open_ints Tryd.underlying22 Tryd.underlying5 he2 hf with ⟨hcs, _⟩ | ⟨a, l, c, zs, hcs, _, hl, hm, hz, _, hcell, hwz⟩
  · simp only [List.cons.injEq, and_true] at hcs
    exact ⟨none, 0, 0, [], hcs, ⟨fun _ => rfl, rfl, Nat.le_refl _, by simp, .inl rfl⟩, by omega⟩
  · simp only [List.cons.injEq, and_true] at hcs
    exact ⟨some a, l, c, zs.take l, hcs, bs_of_arg hl (by simpa using hz) hcell hwz, by unfold maxLen at hm; omega⟩
theorem rd_part {n : Nat} {cs : List Value} {y : DataW H × List MemPlace} (h : DataW.trod enc Tryd.prog W 0 (fun _ => true) held n 63 cs = some y) (hl : cs.length = 4) :
    ∃ (k v s : Int) (a : Option Addr) (m c : Nat) (xs : List Int), cs = [.int .i64 k, .int .i64 v, .int .i64 s, .slice a m c] ∧ Bs W a m c xs ∧ m ≤ 9223372036854775807 := by
  have hc0 : Tryd.prog.cellsOf 3 = 1 := by kernel_rfl
  have hc1 : Tryd.prog.cellsOf 22 = 1 := by kernel_rfl
  obtain ⟨v0, v1, v2, v3, rfl⟩ : ∃ v0 v1 v2 v3, cs = [v0, v1, v2, v3] := by
    match cs, hl with
    | [v0, v1, v2, v3], _ => exact ⟨v0, v1, v2, v3, rfl⟩
  obtain ⟨y0, y1, y2, y3, n, _, _, g0, g1, g2, g3⟩ := trod_struct4 Tryd.underlying63 h
  simp only [hc0, hc1, List.drop_zero, List.drop_succ_cons, List.take_succ_cons, List.take_zero] at g0 g1 g2 g3
  obtain ⟨x0, rfl, _⟩ := cell_intP g0
  obtain ⟨x1, rfl, _⟩ := cell_intP g1
  obtain ⟨x2, rfl, _⟩ := cell_intP g2
  obtain ⟨a, m, c, xs, rfl, h1, l1⟩ := rd_bytesP g3
  exact ⟨x0, x1, x2, a, m, c, xs, rfl, h1, l1⟩
theorem arg_part {v : Value} {x : DataW H × List MemPlace} (hv : Value.okWide Tryd.prog W r base 63 v)
    (h : ∃ fuel, DataW.trod enc Tryd.prog W 0 (fun _ => true) held fuel 63 v.cells.toList = some x) :
    ∃ (k q s : Int) (a : Option Addr) (m c : Nat) (xs : List Int), v = partV k q s a m c ∧ Bs W a m c xs ∧ m ≤ 9223372036854775807 := by
  obtain ⟨cs, rfl, hsz⟩ := okWide_struct Tryd.underlying63 hv
  have h3 : Tryd.prog.cellsOf 63 = 4 := by kernel_rfl
  obtain ⟨fuel, hf⟩ := h
  obtain ⟨k, q, s, a, m, c, xs, e, h1, h2⟩ := rd_part hf (by rw [h3] at hsz; simpa [Value.cells] using hsz)
  refine ⟨k, q, s, a, m, c, xs, ?_, h1, h2⟩
  obtain ⟨l⟩ := cs
  have e2 : l = [.int .i64 k, .int .i64 q, .int .i64 s, .slice a m c] := e
  rw [e2]
end
end Go.Proofs.YtofflhhlacdgfaaDoor
