/-
  What is proved here: how an argument of the laws' own Bundle type lies in memory, out of the reading that a row hands over; no condition beside.
-/
import Derived.Test.YtgfjbaigmkdbcaaP0g
import Derived.Test.YtgfjbaigmkdbcaaN0g
import Derived.Test.YtgfjbaigmkdbcaaU0
namespace Go.Proofs.Ytgfjbaigmkdbcaa
set_option maxRecDepth 100000
open Go.ChangeShapes Go.WideShapes Go.ChangeAt Go.RowKit Go.Joins

abbrev rcn (x : Rc) : NeedM := ⟨x.k, x.b, x.n, x.f⟩
theorem nrc_rcn (l : List Rc) : (l.map rcn).map nrc = l := by induction l with
  | nil => rfl
  | cons a t ih => show nrc (rcn a) :: _ = _; rw [ih]
section
variable {H : Type} {enc : TypeId × Value → H} {W : World} {base : Nat} {held : Bool} {r : Reach}
theorem trod_struct5 {P : Program} {w : World} {base : Nat} {spare : Nat → Bool} {t : TypeId} {f0 f1 f2 f3 f4 : Field} {fuel : Nat} {cs : List Value} {x : DataW H × List MemPlace} (ht : P.underlying t = some (.struct #[f0, f1, f2, f3, f4])) (h : DataW.trod enc P w base spare held fuel t cs = some x) :
    ∃ (y0 y1 y2 y3 y4 : DataW H × List MemPlace) (n : Nat),
      DataW.trod enc P w base spare held n f0.type ((cs.drop f0.offset).take (P.cellsOf f0.type)) = some y0 ∧ DataW.trod enc P w base spare held n f1.type ((cs.drop f1.offset).take (P.cellsOf f1.type)) = some y1 ∧
      DataW.trod enc P w base spare held n f2.type ((cs.drop f2.offset).take (P.cellsOf f2.type)) = some y2 ∧ DataW.trod enc P w base spare held n f3.type ((cs.drop f3.offset).take (P.cellsOf f3.type)) = some y3 ∧
      DataW.trod enc P w base spare held n f4.type ((cs.drop f4.offset).take (P.cellsOf f4.type)) = some y4 := by
  obtain ⟨xs, n, _, rfl, hl, hlen, hf⟩ := DataW.trod_struct ht h
  match xs, hlen with
  | [y0, y1, y2, y3, y4], _ => exact ⟨y0, y1, y2, y3, y4, n, by simpa using hf 0 f0 rfl, by simpa using hf 1 f1 rfl, by simpa using hf 2 f2 rfl, by simpa using hf 3 f3 rfl, by simpa using hf 4 f4 rfl⟩
theorem arg_bun {v : Value} {x : DataW H × List MemPlace} (hv : Value.okWide Try.prog W r base 25 v)
    (h : ∃ fuel, DataW.trod enc Try.prog W 0 (fun _ => true) held fuel 25 v.cells.toList = some x) :
    ∃ pa pn pc na nn nc, ∃ B : BunM, v = bunV B.d B.n B.f pa pn pc na nn nc ∧ Ps W pa pn pc B.ps ∧ Ns W na nn nc B.ns ∧ pn ≤ 9223372036854775807 ∧ (∀ q, q < pn → (B.ps.getD q pz).h.length ≤ 9223372036854775807) ∧ nn ≤ 9223372036854775807 := by
  obtain ⟨cs, rfl, hsz⟩ := okWide_struct Try.underlying25 hv
  have h3 : Try.prog.cellsOf 25 = 5 := by kernel_rfl
  have hc1 : Try.prog.cellsOf 3 = 1 := by kernel_rfl
  have hcp : Try.prog.cellsOf 22 = 1 := by kernel_rfl
  have hcn : Try.prog.cellsOf 23 = 1 := by kernel_rfl
  obtain ⟨v0, v1, v2, v3, v4, rfl⟩ : ∃ v0 v1 v2 v3 v4, cs = #[v0, v1, v2, v3, v4] := by
    rw [h3] at hsz
    match cs, hsz with
    | ⟨[v0, v1, v2, v3, v4]⟩, _ => exact ⟨v0, v1, v2, v3, v4, rfl⟩
  obtain ⟨fuel, hf⟩ := h
  obtain ⟨y0, y1, y2, y3, y4, n, g0, g1, g2, g3, g4⟩ := trod_struct5 Try.underlying25 hf
  simp only [hc1, hcp, hcn, Value.cells, List.drop_zero, List.drop_succ_cons, List.take_succ_cons, List.take_zero] at g0 g1 g2 g3 g4
  obtain ⟨d, rfl, _⟩ := cell_int g0
  obtain ⟨m, rfl, _⟩ := cell_int g1
  obtain ⟨f, rfl, _⟩ := cell_int g2
  obtain ⟨pa, pn, pc, ps, rfl, hP, hp, hq⟩ := rd_parts g3
  obtain ⟨na, nn, nc, ns, rfl, hN, hn⟩ := rd_needs g4
  refine ⟨pa, pn, pc, na, nn, nc, ⟨d, m, f, ps, ns.map rcn⟩, rfl, hP, Rs.ns ?_, hp, hq, hn⟩
  rw [nrc_rcn]
  exact hN
end
end Go.Proofs.Ytgfjbaigmkdbcaa
