/-
  What is proved here: how a cell that holds an int or a bool reads, out of the reading that a row hands over; no condition beside; how slices of bytes, of ints, of slices of bytes lie in memory, out of the reading that a row hands over; no condition beside; how an argument of the laws' own Flash lies in memory, out of the reading that a row hands over; no condition beside; how an argument that is a slice of the laws' own Key lies in memory, out of the reading that a row hands over; no condition beside; how an argument of the laws' own Device lies in memory, out of the reading that a row hands over; no condition beside.
-/
import Derived.Test.YtgfjbaigmkdbcaaJS1
import Derived.Deep.Strs
import Derived.Lib.SmallJoins
import Derived.WalkKit
import Derived.ProofKit
import Derived.OpenShut
import Derived.ChangeOld
import Derived.ChangeSame
import Derived.Test.YtgfjbaigmkdbcaaJS17
import Derived.Deep.Slices
import Derived.Test.YtgfjbaigmkdbcaaJS18
import Derived.Test.YtgfjbaigmkdbcaaJS20
import Derived.Test.YtgfjbaigmkdbcaaJS21
namespace Go.Proofs.Ytgfjbaigmkdbcaa
set_option maxRecDepth 100000
open Go.ChangeShapes Go.WideShapes Go.ChangeAt Go.RowKit Go.Joins

abbrev I64R (x : Int) : Prop := -9223372036854775808 ≤ x ∧ x ≤ 9223372036854775807
section
variable {H : Type} {enc : TypeId × Value → H} {W : World} {base : Nat} {held : Bool} {r : Reach}
theorem cell_int {n : Nat} {v : Value} {y : DataW H × List MemPlace} (h : DataW.trod enc Try.prog W 0 (fun _ => true) held n 3 [v] = some y) : ∃ x, v = .int .i64 x ∧ I64R x := by
  obtain ⟨x, h1, _, hw⟩ := DataW.trod_int Try.underlying3 h
  simp only [List.cons.injEq, and_true] at h1
  exact ⟨x, h1, int_wf hw⟩
theorem cell_bool {n : Nat} {v : Value} {y : DataW H × List MemPlace} (h : DataW.trod enc Try.prog W 0 (fun _ => true) held n 4 [v] = some y) : ∃ x, v = .bool x := by
  obtain ⟨x, h1, _⟩ := DataW.trod_bool Try.underlying4 h
  simp only [List.cons.injEq, and_true] at h1
  exact ⟨x, h1⟩
theorem trod_struct6 {P : Program} {w : World} {base : Nat} {spare : Nat → Bool} {t : TypeId} {f0 f1 f2 f3 f4 f5 : Field} {fuel : Nat} {cs : List Value} {x : DataW H × List MemPlace} (ht : P.underlying t = some (.struct #[f0, f1, f2, f3, f4, f5])) (h : DataW.trod enc P w base spare held fuel t cs = some x) :
    ∃ (y0 y1 y2 y3 y4 y5 : DataW H × List MemPlace) (n : Nat),
      DataW.trod enc P w base spare held n f0.type ((cs.drop f0.offset).take (P.cellsOf f0.type)) = some y0 ∧ DataW.trod enc P w base spare held n f1.type ((cs.drop f1.offset).take (P.cellsOf f1.type)) = some y1 ∧
      DataW.trod enc P w base spare held n f2.type ((cs.drop f2.offset).take (P.cellsOf f2.type)) = some y2 ∧ DataW.trod enc P w base spare held n f3.type ((cs.drop f3.offset).take (P.cellsOf f3.type)) = some y3 ∧
      DataW.trod enc P w base spare held n f4.type ((cs.drop f4.offset).take (P.cellsOf f4.type)) = some y4 ∧ DataW.trod enc P w base spare held n f5.type ((cs.drop f5.offset).take (P.cellsOf f5.type)) = some y5 := by
  obtain ⟨xs, n, _, rfl, hl, hlen, hf⟩ := DataW.trod_struct ht h
  match xs, hlen with
  | [y0, y1, y2, y3, y4, y5], _ => exact ⟨y0, y1, y2, y3, y4, y5, n, by simpa using hf 0 f0 rfl, by simpa using hf 1 f1 rfl, by simpa using hf 2 f2 rfl, by simpa using hf 3 f3 rfl, by simpa using hf 4 f4 rfl, by simpa using hf 5 f5 rfl⟩
end
end Go.Proofs.Ytgfjbaigmkdbcaa
namespace Go.Proofs.Ytgfjbaigmkdbcaa
set_option maxRecDepth 100000
open Go.ChangeShapes Go.WideShapes Go.ChangeAt Go.RowKit Go.Joins

section
variable {H : Type} {enc : TypeId × Value → H} {W : World} {base : Nat} {held : Bool} {r : Reach}
theorem rd_bytes {v : Value} {fuel : Nat} {x : DataW H × List MemPlace} (hf : DataW.trod enc Try.prog W 0 (fun _ => true) held fuel 35 [v] = some x) :
    ∃ a n c xs, v = .slice a n c ∧ Bs W a n c xs ∧ xs.length ≤ 9223372036854775807 := by
  have he2 : Try.prog.cellsOf 5 = 1 := by kernel_rfl
  rcases open_ints Try.underlying35 Try.underlying5 he2 hf with ⟨hcs, _⟩ | ⟨a, l, c, zs, hcs, _, hl, hm, hz, _, hcell, hwz⟩
  · simp only [List.cons.injEq, and_true] at hcs
    exact ⟨none, 0, 0, [], hcs, ⟨fun _ => rfl, rfl, Nat.le_refl _, by simp, .inl rfl⟩, by simp⟩
  · simp only [List.cons.injEq, and_true] at hcs
    have hB := bs_of_arg hl (by simpa using hz) hcell hwz
    exact ⟨some a, l, c, zs.take l, hcs, hB, by have := hB.2.1; unfold maxLen at hm; omega⟩
theorem rd_ints {v : Value} {fuel : Nat} {x : DataW H × List MemPlace} (hf : DataW.trod enc Try.prog W 0 (fun _ => true) held fuel 61 [v] = some x) :
    ∃ a n c xs, v = .slice a n c ∧ Is W a n c xs ∧ xs.length ≤ 9223372036854775807 := by
  have he2 : Try.prog.cellsOf 3 = 1 := by kernel_rfl
  rcases open_ints Try.underlying61 Try.underlying3 he2 hf with ⟨hcs, _⟩ | ⟨a, l, c, zs, hcs, _, hl, hm, hz, _, hcell, hwz⟩
  · simp only [List.cons.injEq, and_true] at hcs
    exact ⟨none, 0, 0, [], hcs, ⟨fun _ => rfl, rfl, Nat.le_refl _, by simp, .inl rfl⟩, by simp⟩
  · simp only [List.cons.injEq, and_true] at hcs
    have hB := is_of_arg hl (by simpa using hz) hcell hwz
    exact ⟨some a, l, c, zs.take l, hcs, hB, by have := hB.2.1; unfold maxLen at hm; omega⟩
theorem rd_bss {v : Value} {fuel : Nat} {x : DataW H × List MemPlace} (hf : DataW.trod enc Try.prog W 0 (fun _ => true) held fuel 87 [v] = some x) :
    ∃ a n c xs, v = .slice a n c ∧ Bss W a n c xs ∧ xs.length ≤ 9223372036854775807 ∧ ∀ q, q < xs.length → (xs.getD q []).length ≤ 9223372036854775807 := by
  have h1 : Try.prog.cellsOf 35 = 1 := by kernel_rfl
  rcases Go.Deep.open_slice Try.underlying87 hf with ⟨hcs, _⟩ | ⟨x', len, cap, m, nn, D, Pl, hcs, hb, hl, hmx, hm, _, hx⟩
  · simp only [List.cons.injEq, and_true] at hcs
    exact ⟨none, 0, 0, [], hcs, ⟨fun _ => rfl, rfl, Nat.le_refl _, .inl rfl⟩, by simp, by simp⟩
  · simp only [List.cons.injEq, and_true] at hcs
    subst hcs
    have hlm : len ≤ m := by rw [hm]; split <;> omega
    rw [h1] at hx
    have hE : ∀ i, i < len → ∃ q : List Int × Option Addr × Nat, W.cell? (x'.add (i * 1)) = some (.slice q.2.1 q.1.length q.2.2) ∧ Bs W q.2.1 q.1.length q.2.2 q.1 ∧ q.1.length ≤ 9223372036854775807 := by
      intro i hi
      obtain ⟨cs', hc, ht⟩ := hx i (by omega)
      obtain ⟨g1, g2, g3⟩ := World.cells?_some hc
      have hcl : cs'.length = 1 := by first | exact g2 | exact g1
      match cs', hcl with
      | [v0], _ =>
        obtain ⟨a, n, c, xs, rfl, hB, hn⟩ := rd_bytes ht
        have e := hB.2.1
        subst e
        have c0 : W.cell? ((x'.add (i * 1)).add 0) = some (.slice a xs.length c) := by first | exact g3 0 (by simp) | (have := g3 0 (by simp); simpa using this)
        have ea : (x'.add (i * 1)).add 0 = x'.add (i * 1) := by cases x'; simp [Addr.add]
        rw [ea] at c0
        exact ⟨(xs, a, c), c0, hB, hn⟩
    haveI : Inhabited (List Int × Option Addr × Nat) := ⟨([], none, 0)⟩
    obtain ⟨f, hF⟩ := Go.Deep.choose_lt (α := List Int × Option Addr × Nat) hE
    refine ⟨_, len, cap, (List.range len).map fun i => (f i).1, rfl, ⟨(fun h => by cases h), by simp, hl, ?_⟩, by simp; unfold maxLen at hmx; omega, ?_⟩
    · by_cases h0 : len = 0
      · exact .inl h0
      obtain ⟨b, off, spot⟩ := x'
      have hz := (hF 0 (by omega)).1
      have hspot : spot = none := by
        have := World.cell?_spot hz
        simpa [Addr.add] using this
      subst hspot
      refine .inr ⟨b, off, rfl, World.block_lt_of_cell? W _ hz, fun i hi => ?_⟩
      have e : ((List.range len).map fun i => (f i).1).getD i [] = (f i).1 := by simp [hi]
      rw [e]
      obtain ⟨q, hB, _⟩ := hF i hi
      refine ⟨(f i).2.1, (f i).2.2, ?_, hB⟩
      rw [Addr.add_lit] at q
      simpa using q
    · intro q hq
      have hq' : q < len := by simpa using hq
      have e : ((List.range len).map fun i => (f i).1).getD q [] = (f q).1 := by simp [hq']
      rw [e]
      exact (hF q hq').2.2
end
end Go.Proofs.Ytgfjbaigmkdbcaa
namespace Go.Proofs.Ytgfjbaigmkdbcaa
set_option maxRecDepth 100000
open Go.ChangeShapes Go.WideShapes Go.ChangeAt Go.RowKit Go.Joins

section
variable {H : Type} {enc : TypeId × Value → H} {W : World} {base : Nat} {held : Bool} {r : Reach}
theorem rd_flash {n : Nat} {cs : List Value} {y : DataW H × List MemPlace} (h : DataW.trod enc Try.prog W 0 (fun _ => true) held n 63 cs = some y) (hl : cs.length = 2) :
    ∃ (m : FlashM) (p : FlashA), cs = flashC m p ∧ FlashRd W p m ∧ FlashLn m := by
  have hc0 : Try.prog.cellsOf 35 = 1 := by kernel_rfl
  have hc1 : Try.prog.cellsOf 61 = 1 := by kernel_rfl
  obtain ⟨v0, v1, rfl⟩ : ∃ v0 v1, cs = [v0, v1] := by
    match cs, hl with
    | [v0, v1], _ => exact ⟨v0, v1, rfl⟩
  obtain ⟨y0, y1, n, _, _, g0, g1⟩ := trod_struct2 Try.underlying63 h
  simp only [hc0, hc1, List.drop_zero, List.drop_succ_cons, List.take_succ_cons, List.take_zero] at g0 g1
  obtain ⟨a0, k0, c0, x0, rfl, h0, l0⟩ := rd_bytes g0
  have e0 := h0.2.1
  subst e0
  obtain ⟨a1, k1, c1, x1, rfl, h1, l1⟩ := rd_ints g1
  have e1 := h1.2.1
  subst e1
  exact ⟨⟨x0, x1⟩, ⟨⟨a0, c0⟩, ⟨a1, c1⟩⟩, rfl, ⟨h0, h1⟩, ⟨l0, l1⟩⟩
theorem arg_flash {v : Value} {x : DataW H × List MemPlace} (hv : Value.okWide Try.prog W r base 63 v)
    (h : ∃ fuel, DataW.trod enc Try.prog W 0 (fun _ => true) held fuel 63 v.cells.toList = some x) :
    ∃ (m : FlashM) (p : FlashA), v = flashV m p ∧ FlashRd W p m ∧ FlashLn m := by
  obtain ⟨cs, rfl, hsz⟩ := okWide_struct Try.underlying63 hv
  have h3 : Try.prog.cellsOf 63 = 2 := by kernel_rfl
  obtain ⟨fuel, hf⟩ := h
  obtain ⟨m, p, e, h1, h2⟩ := rd_flash hf (by rw [h3] at hsz; simpa [Value.cells] using hsz)
  refine ⟨m, p, ?_, h1, h2⟩
  obtain ⟨l⟩ := cs
  have e2 : l = flashC m p := e
  rw [e2]
end
end Go.Proofs.Ytgfjbaigmkdbcaa
namespace Go.Proofs.Ytgfjbaigmkdbcaa
set_option maxRecDepth 100000
open Go.ChangeShapes Go.WideShapes Go.ChangeAt Go.RowKit Go.Joins

section
variable {H : Type} {enc : TypeId × Value → H} {W : World} {base : Nat} {held : Bool} {r : Reach}
theorem elem_key {n : Nat} {cs : List Value} {y : DataW H × List MemPlace} (h : DataW.trod enc Try.prog W 0 (fun _ => true) held n 130 cs = some y) (hl : cs.length = 4) :
    ∃ (q : KeyM × Option Addr × Nat), (∀ j, j < 4 → cs[j]? = [.int .i64 q.1.i, .int .i64 q.1.r, .bool q.1.v, .slice q.2.1 q.1.p.length q.2.2][j]?) ∧ Bs W q.2.1 q.1.p.length q.2.2 q.1.p ∧ q.1.p.length ≤ 9223372036854775807 := by
  have hc1 : Try.prog.cellsOf 3 = 1 := by kernel_rfl
  have hc4 : Try.prog.cellsOf 4 = 1 := by kernel_rfl
  have hc2 : Try.prog.cellsOf 35 = 1 := by kernel_rfl
  have he2 : Try.prog.cellsOf 5 = 1 := by kernel_rfl
  obtain ⟨v0, v1, v2, v3, rfl⟩ : ∃ v0 v1 v2 v3, cs = [v0, v1, v2, v3] := by
    match cs, hl with
    | [v0, v1, v2, v3], _ => exact ⟨v0, v1, v2, v3, rfl⟩
  obtain ⟨y0, y1, y2, y3, n, _, _, g0, g1, g2, g3⟩ := trod_struct4 Try.underlying130 h
  simp only [hc1, hc4, hc2, List.drop_zero, List.drop_succ_cons, List.take_succ_cons, List.take_zero] at g0 g1 g2 g3
  obtain ⟨x0, rfl, _⟩ := cell_int g0
  obtain ⟨x1, rfl, _⟩ := cell_int g1
  obtain ⟨x2, rfl⟩ := cell_bool g2
  obtain ⟨a, m, c, bs, rfl, hB, hm⟩ : ∃ a m c bs, v3 = .slice a m c ∧ Bs W a m c bs ∧ m ≤ 9223372036854775807 := by
    rcases open_ints Try.underlying35 Try.underlying5 he2 g3 with ⟨hcs, _⟩ | ⟨a, l, c, zs, hcs, _, hl, hm, hz, _, hcell, hwz⟩
    · simp only [List.cons.injEq, and_true] at hcs
      exact ⟨none, 0, 0, [], hcs, ⟨fun _ => rfl, rfl, Nat.le_refl _, by simp, .inl rfl⟩, by omega⟩
    · simp only [List.cons.injEq, and_true] at hcs
      exact ⟨some a, l, c, zs.take l, hcs, bs_of_arg hl (by simpa using hz) hcell hwz, by unfold maxLen at hm; omega⟩
  have hlm := hB.2.1
  subst hlm
  exact ⟨(⟨x0, x1, x2, bs⟩, a, c), fun j hj => rfl, hB, hm⟩
theorem rd_keys {v : Value} {fuel : Nat} {x : DataW H × List MemPlace} (hf : DataW.trod enc Try.prog W 0 (fun _ => true) held fuel 41 [v] = some x) :
    ∃ a n c l, v = .slice a n c ∧ Ks W a n c l ∧ n ≤ 9223372036854775807 ∧ ∀ q, q < n → (l.getD q kz).p.length ≤ 9223372036854775807 := by
  have h4 : Try.prog.cellsOf 130 = 4 := by kernel_rfl
  rcases Go.Deep.open_slice Try.underlying41 hf with ⟨hcs, _⟩ | ⟨x', len, cap, m, nn, D, Pl, hcs, hb, hl, hmx, hm, _, hx⟩
  · simp only [List.cons.injEq, and_true] at hcs
    exact ⟨none, 0, 0, [], hcs, ⟨fun _ => rfl, rfl, Nat.le_refl _, .inl rfl⟩, by omega, by omega⟩
  · simp only [List.cons.injEq, and_true] at hcs
    subst hcs
    have hlm : len ≤ m := by rw [hm]; split <;> omega
    rw [h4] at hx
    have hE : ∀ i, i < len → ∃ q : KeyM × Option Addr × Nat, (∀ j, j < 4 → W.cell? ((x'.add (i * 4)).add j) = [.int .i64 q.1.i, .int .i64 q.1.r, .bool q.1.v, .slice q.2.1 q.1.p.length q.2.2][j]?) ∧ Bs W q.2.1 q.1.p.length q.2.2 q.1.p ∧ q.1.p.length ≤ 9223372036854775807 := by
      intro i hi
      obtain ⟨cs', hc, ht⟩ := hx i (by omega)
      obtain ⟨h1, h2, h3⟩ := World.cells?_some hc
      obtain ⟨q, hq, hB, hm⟩ := elem_key ht (by first | exact h2 | exact h1)
      exact ⟨q, fun j hj => by rw [← hq j hj]; first | exact h3 j hj | (rw [h3 j hj]), hB, hm⟩
    haveI : Inhabited (KeyM × Option Addr × Nat) := ⟨(kz, none, 0)⟩
    obtain ⟨f, hF⟩ := Go.Deep.choose_lt (α := KeyM × Option Addr × Nat) hE
    refine ⟨_, len, cap, (List.range len).map fun i => (f i).1, rfl, ⟨(fun h => by cases h), by simp, hl, ?_⟩, by unfold maxLen at hmx; omega, ?_⟩
    · by_cases h0 : len = 0
      · exact .inl h0
      obtain ⟨b, off, spot⟩ := x'
      have hz := (hF 0 (by omega)).1 0 (by omega)
      have hspot : spot = none := by
        have := World.cell?_spot (show W.cell? _ = some (.int .i64 (f 0).1.i) from hz)
        simpa [Addr.add] using this
      subst hspot
      refine .inr ⟨b, off, rfl, World.block_lt_of_cell? W _ (show W.cell? _ = some (.int .i64 (f 0).1.i) from hz), fun i hi => ?_⟩
      have e : ((List.range len).map fun i => (f i).1).getD i kz = (f i).1 := by simp [hi]
      rw [e]
      obtain ⟨q, hB, _⟩ := hF i hi
      refine ⟨(f i).2.1, (f i).2.2, ?_, ?_, ?_, ?_, hB⟩
      · have := q 0 (by omega); rw [Addr.add_lit, Addr.add_lit] at this; simpa using this
      · have := q 1 (by omega); rw [Addr.add_lit, Addr.add_lit] at this; simpa using this
      · have := q 2 (by omega); rw [Addr.add_lit, Addr.add_lit] at this; simpa using this
      · have := q 3 (by omega); rw [Addr.add_lit, Addr.add_lit] at this; simpa using this
    · intro q hq
      have e : ((List.range len).map fun i => (f i).1).getD q kz = (f q).1 := by simp [hq]
      rw [e]
      exact (hF q hq).2.2
theorem arg_keys {v : Value} {x : DataW H × List MemPlace} (hv : Value.okWide Try.prog W r base 41 v)
    (h : ∃ fuel, DataW.trod enc Try.prog W 0 (fun _ => true) held fuel 41 v.cells.toList = some x) :
    ∃ a n c l, v = .slice a n c ∧ Ks W a n c l ∧ n ≤ 9223372036854775807 ∧ ∀ q, q < n → (l.getD q kz).p.length ≤ 9223372036854775807 := by
  obtain ⟨a, len, cap, rfl⟩ := okWide_slice Try.underlying41 hv
  obtain ⟨fuel, hf⟩ := h
  exact rd_keys hf
end
end Go.Proofs.Ytgfjbaigmkdbcaa
namespace Go.Proofs.Ytgfjbaigmkdbcaa
set_option maxRecDepth 100000
open Go.ChangeShapes Go.WideShapes Go.ChangeAt Go.RowKit Go.Joins Go.Deep

section
variable {H : Type} {enc : TypeId × Value → H} {W : World} {base : Nat} {held : Bool} {r : Reach}
theorem rd_dev {n : Nat} {cs : List Value} {y : DataW H × List MemPlace} (h : DataW.trod enc Try.prog W 0 (fun _ => true) held n 65 cs = some y) (hl : cs.length = 4) :
    ∃ (m : DeviceM) (p : DeviceA), cs = devC m p ∧ DeviceRd W p m ∧ DeviceLn m := by
  have hc0 : Try.prog.cellsOf 3 = 1 := by kernel_rfl
  have hc1 : Try.prog.cellsOf 63 = 2 := by kernel_rfl
  have hc2 : Try.prog.cellsOf 41 = 1 := by kernel_rfl
  obtain ⟨v0, v1, v2, v3, rfl⟩ : ∃ v0 v1 v2 v3, cs = [v0, v1, v2, v3] := by
    match cs, hl with
    | [v0, v1, v2, v3], _ => exact ⟨v0, v1, v2, v3, rfl⟩
  obtain ⟨y0, y1, y2, n, _, _, g0, g1, g2⟩ := trod_struct3 Try.underlying65 h
  simp only [hc0, hc1, hc2, List.drop_zero, List.drop_succ_cons, List.take_succ_cons, List.take_zero] at g0 g1 g2
  obtain ⟨x0, rfl, _⟩ := cell_int g0
  obtain ⟨a1, k1, c1, x1, rfl, h1, l1, q1⟩ := rd_keys g1
  have e1 := h1.2.1
  subst e1
  obtain ⟨x2, p2, e2, h2, l2⟩ := rd_flash g2 rfl
  simp only [List.cons.injEq, and_true] at e2
  obtain ⟨rfl, rfl⟩ := e2
  exact ⟨⟨x0, x1, x2⟩, ⟨⟨a1, c1⟩, p2⟩, rfl, ⟨h1, h2⟩, ⟨⟨l1, q1⟩, l2⟩⟩
theorem arg_dev {v : Value} {x : DataW H × List MemPlace} (hv : Value.okWide Try.prog W r base 65 v)
    (h : ∃ fuel, DataW.trod enc Try.prog W 0 (fun _ => true) held fuel 65 v.cells.toList = some x) :
    ∃ (m : DeviceM) (p : DeviceA), v = devV m p ∧ DeviceRd W p m ∧ DeviceLn m := by
  obtain ⟨cs, rfl, hsz⟩ := okWide_struct Try.underlying65 hv
  have h3 : Try.prog.cellsOf 65 = 4 := by kernel_rfl
  obtain ⟨fuel, hf⟩ := h
  obtain ⟨m, p, e, h1, h2⟩ := rd_dev hf (by rw [h3] at hsz; simpa [Value.cells] using hsz)
  refine ⟨m, p, ?_, h1, h2⟩
  obtain ⟨l⟩ := cs
  have e2 : l = devC m p := e
  rw [e2]
end
end Go.Proofs.Ytgfjbaigmkdbcaa
