/-
  What is proved here: how slices of bytes, of ints, of slices of bytes lie in memory, out of the reading that a row hands over; no condition beside.
-/
import Derived.Test.YtgfjbaigmkdbcaaS0
import Derived.Test.YtgfjbaigmkdbcaaLargI
import Derived.Deep.Slices
namespace Go.Proofs.Ytgfjbaigmkdbcaa
set_option maxRecDepth 100000
open Go.ChangeShapes Go.WideShapes Go.ChangeAt Go.RowKit Go.Joins

section
variable {H : Type} {enc : TypeId × Value → H} {W : World} {base : Nat} {held : Bool} {r : Reach}
theorem rd_bytes {v : Value} {fuel : Nat} {x : DataW H × List MemPlace} (hf : DataW.trod enc Try.prog W 0 (fun _ => true) held fuel 35 [v] = some x) :
    ∃ a n c xs, v = .slice a n c ∧ Bs W a n c xs ∧ xs.length ≤ 9223372036854775807 := by
  have he2 : Try.prog.cellsOf 5 = 1 := by kernel_rfl
  rcases open_ints Try.underlying35 Try.underlying5 he2 hf with ⟨hcs, _⟩ | ⟨a, l, c, zs, hcs, _, hl, hm, hz, _, hcell, hwz⟩
  · simp only [List.cons.injEq, and_true] at hcs
    exact ⟨none, 0, 0, [], hcs, ⟨fun _ => rfl, rfl, Nat.le_refl _, by simp, .inl rfl⟩, by simp⟩
  · simp only [List.cons.injEq, and_true] at hcs
    have hB := bs_of_arg hl (by simpa using hz) hcell hwz
    exact ⟨some a, l, c, zs.take l, hcs, hB, by have := hB.2.1; unfold maxLen at hm; omega⟩
theorem rd_ints {v : Value} {fuel : Nat} {x : DataW H × List MemPlace} (hf : DataW.trod enc Try.prog W 0 (fun _ => true) held fuel 61 [v] = some x) :
    ∃ a n c xs, v = .slice a n c ∧ Is W a n c xs ∧ xs.length ≤ 9223372036854775807 := by
  have he2 : Try.prog.cellsOf 3 = 1 := by kernel_rfl
  rcases open_ints Try.underlying61 Try.underlying3 he2 hf with ⟨hcs, _⟩ | ⟨a, l, c, zs, hcs, _, hl, hm, hz, _, hcell, hwz⟩
  · simp only [List.cons.injEq, and_true] at hcs
    exact ⟨none, 0, 0, [], hcs, ⟨fun _ => rfl, rfl, Nat.le_refl _, by simp, .inl rfl⟩, by simp⟩
  · simp only [List.cons.injEq, and_true] at hcs
    have hB := is_of_arg hl (by simpa using hz) hcell hwz
    exact ⟨some a, l, c, zs.take l, hcs, hB, by have := hB.2.1; unfold maxLen at hm; omega⟩
theorem rd_bss {v : Value} {fuel : Nat} {x : DataW H × List MemPlace} (hf : DataW.trod enc Try.prog W 0 (fun _ => true) held fuel 87 [v] = some x) :
    ∃ a n c xs, v = .slice a n c ∧ Bss W a n c xs ∧ xs.length ≤ 9223372036854775807 ∧ ∀ q, q < xs.length → (xs.getD q []).length ≤ 9223372036854775807 := by
  have h1 : Try.prog.cellsOf 35 = 1 := by kernel_rfl
  rcases Go.Deep.open_slice Try.underlying87 hf with ⟨hcs, _⟩ | ⟨x', len, cap, m, nn, D, Pl, hcs, hb, hl, hmx, hm, _, hx⟩
  · simp only [List.cons.injEq, and_true] at hcs
    exact ⟨none, 0, 0, [], hcs, ⟨fun _ => rfl, rfl, Nat.le_refl _, .inl rfl⟩, by simp, by simp⟩
  · simp only [List.cons.injEq, and_true] at hcs
    subst hcs
    have hlm : len ≤ m := by rw [hm]; split <;> omega
    rw [h1] at hx
    have hE : ∀ i, i < len → ∃ q : List Int × Option Addr × Nat, W.cell? (x'.add (i * 1)) = some (.slice q.2.1 q.1.length q.2.2) ∧ Bs W q.2.1 q.1.length q.2.2 q.1 ∧ q.1.length ≤ 9223372036854775807 := by
      intro i hi
      obtain ⟨cs', hc, ht⟩ := hx i (by omega)
      obtain ⟨g1, g2, g3⟩ := World.cells?_some hc
      have hcl : cs'.length = 1 := by first | exact g2 | exact g1
      match cs', hcl with
      | [v0], _ =>
        obtain ⟨a, n, c, xs, rfl, hB, hn⟩ := rd_bytes ht
        have e := hB.2.1
        subst e
        have c0 : W.cell? ((x'.add (i * 1)).add 0) = some (.slice a xs.length c) := by first | exact g3 0 (by simp) | (have := g3 0 (by simp); simpa using this)
        have ea : (x'.add (i * 1)).add 0 = x'.add (i * 1) := by cases x'; simp [Addr.add]
        rw [ea] at c0
        exact ⟨(xs, a, c), c0, hB, hn⟩
    haveI : Inhabited (List Int × Option Addr × Nat) := ⟨([], none, 0)⟩
    obtain ⟨f, hF⟩ := Go.Deep.choose_lt (α := List Int × Option Addr × Nat) hE
    refine ⟨_, len, cap, (List.range len).map fun i => (f i).1, rfl, ⟨(fun h => by cases h), by simp, hl, ?_⟩, by simp; unfold maxLen at hmx; omega, ?_⟩
    · by_cases h0 : len = 0
      · exact .inl h0
      obtain ⟨b, off, spot⟩ := x'
      have hz := (hF 0 (by omega)).1
      have hspot : spot = none := by
        have := World.cell?_spot hz
        simpa [Addr.add] using this
      subst hspot
      refine .inr ⟨b, off, rfl, World.block_lt_of_cell? W _ hz, fun i hi => ?_⟩
      have e : ((List.range len).map fun i => (f i).1).getD i [] = (f i).1 := by simp [hi]
      rw [e]
      obtain ⟨q, hB, _⟩ := hF i hi
      refine ⟨(f i).2.1, (f i).2.2, ?_, hB⟩
      rw [Addr.add_lit] at q
      simpa using q
    · intro q hq
      have hq' : q < len := by simpa using hq
      have e : ((List.range len).map fun i => (f i).1).getD q [] = (f q).1 := by simp [hq']
      rw [e]
      exact (hF q hq').2.2
end
end Go.Proofs.Ytgfjbaigmkdbcaa
