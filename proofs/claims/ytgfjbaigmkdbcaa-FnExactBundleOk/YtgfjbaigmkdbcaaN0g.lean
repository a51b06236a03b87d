/-
  What is proved here: how an argument that is a slice of the laws' own Need lies in memory, out of the reading that a row hands over; no condition beside.
-/
import Derived.Test.YtgfjbaigmkdbcaaLargI
import Derived.Test.YtgfjbaigmkdbcaaC0m
import Derived.Deep.Slices
namespace Go.Proofs.Ytgfjbaigmkdbcaa
set_option maxRecDepth 100000
open Go.ChangeShapes Go.WideShapes Go.ChangeAt Go.RowKit Go.Joins

section
variable {H : Type} {enc : TypeId × Value → H} {W : World} {base : Nat} {held : Bool} {r : Reach}
theorem elem_need {n : Nat} {cs : List Value} {y : DataW H × List MemPlace} (h : DataW.trod enc Try.prog W 0 (fun _ => true) held n 169 cs = some y) (hl : cs.length = 4) :
    ∃ x : Rc, cs = rcC x := by
  have hc1 : Try.prog.cellsOf 3 = 1 := by kernel_rfl
  obtain ⟨v0, v1, v2, v3, rfl⟩ : ∃ v0 v1 v2 v3, cs = [v0, v1, v2, v3] := by
    match cs, hl with
    | [v0, v1, v2, v3], _ => exact ⟨v0, v1, v2, v3, rfl⟩
  obtain ⟨y0, y1, y2, y3, n, _, _, g0, g1, g2, g3⟩ := trod_struct4 Try.underlying169 h
  simp only [hc1, List.drop_zero, List.drop_succ_cons, List.take_succ_cons, List.take_zero] at g0 g1 g2 g3
  obtain ⟨k, rfl, hk⟩ := cell_int g0
  obtain ⟨b, rfl, hb⟩ := cell_int g1
  obtain ⟨m, rfl, hm⟩ := cell_int g2
  obtain ⟨f, rfl, hF⟩ := cell_int g3
  exact ⟨⟨k, b, m, f⟩, rfl⟩
theorem rd_needs {v : Value} {fuel : Nat} {x : DataW H × List MemPlace} (hf : DataW.trod enc Try.prog W 0 (fun _ => true) held fuel 23 [v] = some x) :
    ∃ a n c l, v = .slice a n c ∧ Rs W a n c l ∧ n ≤ 9223372036854775807 := by
  have h4 : Try.prog.cellsOf 169 = 4 := by kernel_rfl
  rcases Go.Deep.open_slice Try.underlying23 hf with ⟨hcs, _⟩ | ⟨x', len, cap, m, nn, D, Pl, hcs, hb, hl, hmx, hm, _, hx⟩
  · simp only [List.cons.injEq, and_true] at hcs
    exact ⟨none, 0, 0, [], hcs, ⟨fun _ => rfl, rfl, Nat.le_refl _, .inl rfl⟩, by omega⟩
  · simp only [List.cons.injEq, and_true] at hcs
    subst hcs
    have hlm : len ≤ m := by rw [hm]; split <;> omega
    rw [h4] at hx
    have hE : ∀ i, i < len → ∃ q : Rc, ∀ j, j < 4 → W.cell? ((x'.add (i * 4)).add j) = (rcC q)[j]? := by
      intro i hi
      obtain ⟨cs', hc, ht⟩ := hx i (by omega)
      obtain ⟨h1, h2, h3⟩ := World.cells?_some hc
      obtain ⟨q, rfl⟩ := elem_need ht (by first | exact h2 | exact h1)
      exact ⟨q, fun j hj => by first | exact h3 j hj | (rw [h3 j hj])⟩
    haveI : Inhabited Rc := ⟨rz⟩
    obtain ⟨f, hF⟩ := Go.Deep.choose_lt (α := Rc) hE
    refine ⟨_, len, cap, (List.range len).map f, rfl, ⟨(fun h => by cases h), by simp, hl, ?_⟩, by unfold maxLen at hmx; omega⟩
    by_cases h0 : len = 0
    · exact .inl h0
    obtain ⟨b, off, spot⟩ := x'
    have hz := hF 0 (by omega) 0 (by omega)
    have hspot : spot = none := by
      have := World.cell?_spot (show W.cell? _ = some (.int .i64 (f 0).k) from hz)
      simpa [Addr.add] using this
    subst hspot
    refine .inr ⟨b, off, rfl, World.block_lt_of_cell? W _ (show W.cell? _ = some (.int .i64 (f 0).k) from hz), fun i hi => ?_⟩
    have e : rg ((List.range len).map f) i = f i := by simp [rg, hi]
    rw [e]
    have q := hF i hi
    refine ⟨?_, ?_, ?_, ?_⟩
    · have := q 0 (by omega); rw [Addr.add_lit, Addr.add_lit] at this; simpa using this
    · have := q 1 (by omega); rw [Addr.add_lit, Addr.add_lit] at this; simpa using this
    · have := q 2 (by omega); rw [Addr.add_lit, Addr.add_lit] at this; simpa using this
    · have := q 3 (by omega); rw [Addr.add_lit, Addr.add_lit] at this; simpa using this
end
end Go.Proofs.Ytgfjbaigmkdbcaa
