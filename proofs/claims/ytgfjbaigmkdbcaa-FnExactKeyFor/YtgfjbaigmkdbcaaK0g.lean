/-
  What is proved here: how an argument that is a slice of the laws' own Key lies in memory, out of the reading that a row hands over; no condition beside.
-/
import Derived.Test.YtgfjbaigmkdbcaaK0s
import Derived.Test.YtgfjbaigmkdbcaaLargI
import Derived.Deep.Slices
namespace Go.Proofs.Ytgfjbaigmkdbcaa
set_option maxRecDepth 100000
open Go.ChangeShapes Go.WideShapes Go.ChangeAt Go.RowKit Go.Joins

section
variable {H : Type} {enc : TypeId × Value → H} {W : World} {base : Nat} {held : Bool} {r : Reach}
theorem elem_key {n : Nat} {cs : List Value} {y : DataW H × List MemPlace} (h : DataW.trod enc Try.prog W 0 (fun _ => true) held n 130 cs = some y) (hl : cs.length = 4) :
    ∃ (q : KeyM × Option Addr × Nat), (∀ j, j < 4 → cs[j]? = [.int .i64 q.1.i, .int .i64 q.1.r, .bool q.1.v, .slice q.2.1 q.1.p.length q.2.2][j]?) ∧ Bs W q.2.1 q.1.p.length q.2.2 q.1.p ∧ q.1.p.length ≤ 9223372036854775807 := by
  have hc1 : Try.prog.cellsOf 3 = 1 := by kernel_rfl
  have hc4 : Try.prog.cellsOf 4 = 1 := by kernel_rfl
  have hc2 : Try.prog.cellsOf 35 = 1 := by kernel_rfl
  have he2 : Try.prog.cellsOf 5 = 1 := by kernel_rfl
  obtain ⟨v0, v1, v2, v3, rfl⟩ : ∃ v0 v1 v2 v3, cs = [v0, v1, v2, v3] := by
    match cs, hl with
    | [v0, v1, v2, v3], _ => exact ⟨v0, v1, v2, v3, rfl⟩
  obtain ⟨y0, y1, y2, y3, n, _, _, g0, g1, g2, g3⟩ := trod_struct4 Try.underlying130 h
  simp only [hc1, hc4, hc2, List.drop_zero, List.drop_succ_cons, List.take_succ_cons, List.take_zero] at g0 g1 g2 g3
  obtain ⟨x0, rfl, _⟩ := cell_int g0
  obtain ⟨x1, rfl, _⟩ := cell_int g1
  obtain ⟨x2, rfl⟩ := cell_bool g2
  obtain ⟨a, m, c, bs, rfl, hB, hm⟩ : ∃ a m c bs, v3 = .slice a m c ∧ Bs W a m c bs ∧ m ≤ 9223372036854775807 := by
    rcases open_ints Try.underlying35 Try.underlying5 he2 g3 with ⟨hcs, _⟩ | ⟨a, l, c, zs, hcs, _, hl, hm, hz, _, hcell, hwz⟩
    · simp only [List.cons.injEq, and_true] at hcs
      exact ⟨none, 0, 0, [], hcs, ⟨fun _ => rfl, rfl, Nat.le_refl _, by simp, .inl rfl⟩, by omega⟩
    · simp only [List.cons.injEq, and_true] at hcs
      exact ⟨some a, l, c, zs.take l, hcs, bs_of_arg hl (by simpa using hz) hcell hwz, by unfold maxLen at hm; omega⟩
  have hlm := hB.2.1
  subst hlm
  exact ⟨(⟨x0, x1, x2, bs⟩, a, c), fun j hj => rfl, hB, hm⟩
theorem rd_keys {v : Value} {fuel : Nat} {x : DataW H × List MemPlace} (hf : DataW.trod enc Try.prog W 0 (fun _ => true) held fuel 41 [v] = some x) :
    ∃ a n c l, v = .slice a n c ∧ Ks W a n c l ∧ n ≤ 9223372036854775807 ∧ ∀ q, q < n → (l.getD q kz).p.length ≤ 9223372036854775807 := by
  have h4 : Try.prog.cellsOf 130 = 4 := by kernel_rfl
  rcases Go.Deep.open_slice Try.underlying41 hf with ⟨hcs, _⟩ | ⟨x', len, cap, m, nn, D, Pl, hcs, hb, hl, hmx, hm, _, hx⟩
  · simp only [List.cons.injEq, and_true] at hcs
    exact ⟨none, 0, 0, [], hcs, ⟨fun _ => rfl, rfl, Nat.le_refl _, .inl rfl⟩, by omega, by omega⟩
  · simp only [List.cons.injEq, and_true] at hcs
    subst hcs
    have hlm : len ≤ m := by rw [hm]; split <;> omega
    rw [h4] at hx
    have hE : ∀ i, i < len → ∃ q : KeyM × Option Addr × Nat, (∀ j, j < 4 → W.cell? ((x'.add (i * 4)).add j) = [.int .i64 q.1.i, .int .i64 q.1.r, .bool q.1.v, .slice q.2.1 q.1.p.length q.2.2][j]?) ∧ Bs W q.2.1 q.1.p.length q.2.2 q.1.p ∧ q.1.p.length ≤ 9223372036854775807 := by
      intro i hi
      obtain ⟨cs', hc, ht⟩ := hx i (by omega)
      obtain ⟨h1, h2, h3⟩ := World.cells?_some hc
      obtain ⟨q, hq, hB, hm⟩ := elem_key ht (by first | exact h2 | exact h1)
      exact ⟨q, fun j hj => by rw [← hq j hj]; first | exact h3 j hj | (rw [h3 j hj]), hB, hm⟩
    haveI : Inhabited (KeyM × Option Addr × Nat) := ⟨(kz, none, 0)⟩
    obtain ⟨f, hF⟩ := Go.Deep.choose_lt (α := KeyM × Option Addr × Nat) hE
    refine ⟨_, len, cap, (List.range len).map fun i => (f i).1, rfl, ⟨(fun h => by cases h), by simp, hl, ?_⟩, by unfold maxLen at hmx; omega, ?_⟩
    · by_cases h0 : len = 0
      · exact .inl h0
      obtain ⟨b, off, spot⟩ := x'
      have hz := (hF 0 (by omega)).1 0 (by omega)
      have hspot : spot = none := by
        have := World.cell?_spot (show W.cell? _ = some (.int .i64 (f 0).1.i) from hz)
        simpa [Addr.add] using this
      subst hspot
      refine .inr ⟨b, off, rfl, World.block_lt_of_cell? W _ (show W.cell? _ = some (.int .i64 (f 0).1.i) from hz), fun i hi => ?_⟩
      have e : ((List.range len).map fun i => (f i).1).getD i kz = (f i).1 := by simp [hi]
      rw [e]
      obtain ⟨q, hB, _⟩ := hF i hi
      refine ⟨(f i).2.1, (f i).2.2, ?_, ?_, ?_, ?_, hB⟩
      · have := q 0 (by omega); rw [Addr.add_lit, Addr.add_lit] at this; simpa using this
      · have := q 1 (by omega); rw [Addr.add_lit, Addr.add_lit] at this; simpa using this
      · have := q 2 (by omega); rw [Addr.add_lit, Addr.add_lit] at this; simpa using this
      · have := q 3 (by omega); rw [Addr.add_lit, Addr.add_lit] at this; simpa using this
    · intro q hq
      have e : ((List.range len).map fun i => (f i).1).getD q kz = (f q).1 := by simp [hq]
      rw [e]
      exact (hF q hq).2.2
theorem arg_keys {v : Value} {x : DataW H × List MemPlace} (hv : Value.okWide Try.prog W r base 41 v)
    (h : ∃ fuel, DataW.trod enc Try.prog W 0 (fun _ => true) held fuel 41 v.cells.toList = some x) :
    ∃ a n c l, v = .slice a n c ∧ Ks W a n c l ∧ n ≤ 9223372036854775807 ∧ ∀ q, q < n → (l.getD q kz).p.length ≤ 9223372036854775807 := by
  obtain ⟨a, len, cap, rfl⟩ := okWide_slice Try.underlying41 hv
  obtain ⟨fuel, hf⟩ := h
  exact rd_keys hf
end
end Go.Proofs.Ytgfjbaigmkdbcaa
