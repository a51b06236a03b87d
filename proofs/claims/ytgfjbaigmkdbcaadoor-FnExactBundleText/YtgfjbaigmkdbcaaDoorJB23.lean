/-
  What is proved here: how a cell that holds an int or a bool reads, out of the reading that a row hands over; no condition beside; how an argument that is a slice of the laws' own Part lies in memory, out of the reading that a row hands over; no condition beside; how an argument that is a slice of the laws' own Need lies in memory, out of the reading that a row hands over; no condition beside; how an argument of the laws' own Bundle type lies in memory, out of the reading that a row hands over; no condition beside; what a row's list of laid variables gives the walks of the texts: the table of powers.
-/
import Derived.Test.YtgfjbaigmkdbcaaDoorJB6
import Derived.Deep.Strs
import Derived.Lib.SmallJoins
import Derived.WalkKit
import Derived.ProofKit
import Derived.OpenShut
import Derived.ChangeOld
import Derived.ChangeSame
import Derived.Test.YtgfjbaigmkdbcaaDoorJB16
import Derived.Deep.Slices
import Derived.Test.YtgfjbaigmkdbcaaDoorJB17
import Derived.Test.YtgfjbaigmkdbcaaDoorJB18
import Derived.Test.YtgfjbaigmkdbcaaDoorRows
import Derived.Test.YtgfjbaigmkdbcaaDoorJB5
import Derived.LaidMore
import Derived.Stop.Joined
import Derived.Lib.LaidTab
import Derived.Below
namespace Go.Proofs.YtgfjbaigmkdbcaaDoor
set_option maxRecDepth 100000
open Go.ChangeShapes Go.WideShapes Go.ChangeAt Go.RowKit Go.Joins

abbrev I64R (x : Int) : Prop := -9223372036854775808 ≤ x ∧ x ≤ 9223372036854775807
section
variable {H : Type} {enc : TypeId × Value → H} {W : World} {base : Nat} {held : Bool} {r : Reach}
theorem cell_int {n : Nat} {v : Value} {y : DataW H × List MemPlace} (h : DataW.trod enc Tryd.prog W 0 (fun _ => true) held n 3 [v] = some y) : ∃ x, v = .int .i64 x ∧ I64R x := by
  obtain ⟨x, h1, _, hw⟩ := DataW.trod_int Tryd.underlying3 h
  simp only [List.cons.injEq, and_true] at h1
  exact ⟨x, h1, int_wf hw⟩
theorem cell_bool {n : Nat} {v : Value} {y : DataW H × List MemPlace} (h : DataW.trod enc Tryd.prog W 0 (fun _ => true) held n 4 [v] = some y) : ∃ x, v = .bool x := by
  obtain ⟨x, h1, _⟩ := DataW.trod_bool Tryd.underlying4 h
  simp only [List.cons.injEq, and_true] at h1
  exact ⟨x, h1⟩
theorem trod_struct6 {P : Program} {w : World} {base : Nat} {spare : Nat → Bool} {t : TypeId} {f0 f1 f2 f3 f4 f5 : Field} {fuel : Nat} {cs : List Value} {x : DataW H × List MemPlace} (ht : P.underlying t = some (.struct #[f0, f1, f2, f3, f4, f5])) (h : DataW.trod enc P w base spare held fuel t cs = some x) :
    ∃ (y0 y1 y2 y3 y4 y5 : DataW H × List MemPlace) (n : Nat),
      DataW.trod enc P w base spare held n f0.type ((cs.drop f0.offset).take (P.cellsOf f0.type)) = some y0 ∧ DataW.trod enc P w base spare held n f1.type ((cs.drop f1.offset).take (P.cellsOf f1.type)) = some y1 ∧
      DataW.trod enc P w base spare held n f2.type ((cs.drop f2.offset).take (P.cellsOf f2.type)) = some y2 ∧ DataW.trod enc P w base spare held n f3.type ((cs.drop f3.offset).take (P.cellsOf f3.type)) = some y3 ∧
      DataW.trod enc P w base spare held n f4.type ((cs.drop f4.offset).take (P.cellsOf f4.type)) = some y4 ∧ DataW.trod enc P w base spare held n f5.type ((cs.drop f5.offset).take (P.cellsOf f5.type)) = some y5 := by
  obtain ⟨xs, n, _, rfl, hl, hlen, hf⟩ := DataW.trod_struct ht h
  match xs, hlen with
  | [y0, y1, y2, y3, y4, y5], _ => exact ⟨y0, y1, y2, y3, y4, y5, n, by simpa using hf 0 f0 rfl, by simpa using hf 1 f1 rfl, by simpa using hf 2 f2 rfl, by simpa using hf 3 f3 rfl, by simpa using hf 4 f4 rfl, by simpa using hf 5 f5 rfl⟩
end
end Go.Proofs.YtgfjbaigmkdbcaaDoor
namespace Go.Proofs.YtgfjbaigmkdbcaaDoor
set_option maxRecDepth 100000
open Go.ChangeShapes Go.WideShapes Go.ChangeAt Go.RowKit Go.Joins

section
variable {H : Type} {enc : TypeId × Value → H} {W : World} {base : Nat} {held : Bool} {r : Reach}
theorem elem_part {n : Nat} {cs : List Value} {y : DataW H × List MemPlace} (h : DataW.trod enc Tryd.prog W 0 (fun _ => true) held n 79 cs = some y) (hl : cs.length = 4) :
    ∃ (q : PartM × Option Addr × Nat), (∀ j, j < 4 → cs[j]? = [.int .i64 q.1.k, .int .i64 q.1.v, .int .i64 q.1.s, .slice q.2.1 q.1.h.length q.2.2][j]?) ∧ Bs W q.2.1 q.1.h.length q.2.2 q.1.h ∧ q.1.h.length ≤ 9223372036854775807 := by
  have hc1 : Tryd.prog.cellsOf 3 = 1 := by kernel_rfl
  have hc2 : Tryd.prog.cellsOf 27 = 1 := by kernel_rfl
  have he2 : Tryd.prog.cellsOf 5 = 1 := by kernel_rfl
  obtain ⟨v0, v1, v2, v3, rfl⟩ : ∃ v0 v1 v2 v3, cs = [v0, v1, v2, v3] := by
    match cs, hl with
    | [v0, v1, v2, v3], _ => exact ⟨v0, v1, v2, v3, rfl⟩
  obtain ⟨y0, y1, y2, y3, n, _, _, g0, g1, g2, g3⟩ := trod_struct4 Tryd.underlying79 h
  simp only [hc1, hc2, List.drop_zero, List.drop_succ_cons, List.take_succ_cons, List.take_zero] at g0 g1 g2 g3
  obtain ⟨x0, rfl, _⟩ := cell_int g0
  obtain ⟨x1, rfl, _⟩ := cell_int g1
  obtain ⟨x2, rfl, _⟩ := cell_int g2
  obtain ⟨a, m, c, bs, rfl, hB, hm⟩ : ∃ a m c bs, v3 = .slice a m c ∧ Bs W a m c bs ∧ m ≤ 9223372036854775807 := by
    rcases open_ints Tryd.underlying27 Tryd.underlying5 he2 g3 with ⟨hcs, _⟩ | ⟨a, l, c, zs, hcs, _, hl, hm, hz, _, hcell, hwz⟩
    · simp only [List.cons.injEq, and_true] at hcs
      exact ⟨none, 0, 0, [], hcs, ⟨fun _ => rfl, rfl, Nat.le_refl _, by simp, .inl rfl⟩, by omega⟩
    · simp only [List.cons.injEq, and_true] at hcs
      exact ⟨some a, l, c, zs.take l, hcs, bs_of_arg hl (by simpa using hz) hcell hwz, by unfold maxLen at hm; omega⟩
  have hlm := hB.2.1
  subst hlm
  exact ⟨(⟨x0, x1, x2, bs⟩, a, c), fun j hj => rfl, hB, hm⟩
theorem rd_parts {v : Value} {fuel : Nat} {x : DataW H × List MemPlace} (hf : DataW.trod enc Tryd.prog W 0 (fun _ => true) held fuel 22 [v] = some x) :
    ∃ a n c l, v = .slice a n c ∧ Ps W a n c l ∧ n ≤ 9223372036854775807 ∧ ∀ q, q < n → (l.getD q pz).h.length ≤ 9223372036854775807 := by
  have h4 : Tryd.prog.cellsOf 79 = 4 := by kernel_rfl
  rcases Go.Deep.open_slice Tryd.underlying22 hf with ⟨hcs, _⟩ | ⟨x', len, cap, m, nn, D, Pl, hcs, hb, hl, hmx, hm, _, hx⟩
  · simp only [List.cons.injEq, and_true] at hcs
    exact ⟨none, 0, 0, [], hcs, ⟨fun _ => rfl, rfl, Nat.le_refl _, .inl rfl⟩, by omega, by omega⟩
  · simp only [List.cons.injEq, and_true] at hcs
    subst hcs
    have hlm : len ≤ m := by rw [hm]; split <;> omega
    rw [h4] at hx
    have hE : ∀ i, i < len → ∃ q : PartM × Option Addr × Nat, (∀ j, j < 4 → W.cell? ((x'.add (i * 4)).add j) = [.int .i64 q.1.k, .int .i64 q.1.v, .int .i64 q.1.s, .slice q.2.1 q.1.h.length q.2.2][j]?) ∧ Bs W q.2.1 q.1.h.length q.2.2 q.1.h ∧ q.1.h.length ≤ 9223372036854775807 := by
      intro i hi
      obtain ⟨cs', hc, ht⟩ := hx i (by omega)
      obtain ⟨h1, h2, h3⟩ := World.cells?_some hc
      obtain ⟨q, hq, hB, hm⟩ := elem_part ht (by first | exact h2 | exact h1)
      exact ⟨q, fun j hj => by rw [← hq j hj]; first | exact h3 j hj | (rw [h3 j hj]), hB, hm⟩
    haveI : Inhabited (PartM × Option Addr × Nat) := ⟨(pz, none, 0)⟩
    obtain ⟨f, hF⟩ := Go.Deep.choose_lt (α := PartM × Option Addr × Nat) hE
    refine ⟨_, len, cap, (List.range len).map fun i => (f i).1, rfl, ⟨(fun h => by cases h), by simp, hl, ?_⟩, by unfold maxLen at hmx; omega, ?_⟩
    · by_cases h0 : len = 0
      · exact .inl h0
      obtain ⟨b, off, spot⟩ := x'
      have hz := (hF 0 (by omega)).1 0 (by omega)
      have hspot : spot = none := by
        have := World.cell?_spot (show W.cell? _ = some (.int .i64 (f 0).1.k) from hz)
        simpa [Addr.add] using this
      subst hspot
      refine .inr ⟨b, off, rfl, World.block_lt_of_cell? W _ (show W.cell? _ = some (.int .i64 (f 0).1.k) from hz), fun i hi => ?_⟩
      have e : ((List.range len).map fun i => (f i).1).getD i pz = (f i).1 := by simp [hi]
      rw [e]
      obtain ⟨q, hB, _⟩ := hF i hi
      refine ⟨(f i).2.1, (f i).2.2, ?_, ?_, ?_, ?_, hB⟩
      · have := q 0 (by omega); rw [Addr.add_lit, Addr.add_lit] at this; simpa using this
      · have := q 1 (by omega); rw [Addr.add_lit, Addr.add_lit] at this; simpa using this
      · have := q 2 (by omega); rw [Addr.add_lit, Addr.add_lit] at this; simpa using this
      · have := q 3 (by omega); rw [Addr.add_lit, Addr.add_lit] at this; simpa using this
    · intro q hq
      have e : ((List.range len).map fun i => (f i).1).getD q pz = (f q).1 := by simp [hq]
      rw [e]
      exact (hF q hq).2.2
theorem arg_parts {v : Value} {x : DataW H × List MemPlace} (hv : Value.okWide Tryd.prog W r base 22 v)
    (h : ∃ fuel, DataW.trod enc Tryd.prog W 0 (fun _ => true) held fuel 22 v.cells.toList = some x) :
    ∃ a n c l, v = .slice a n c ∧ Ps W a n c l ∧ n ≤ 9223372036854775807 ∧ ∀ q, q < n → (l.getD q pz).h.length ≤ 9223372036854775807 := by
  obtain ⟨a, len, cap, rfl⟩ := okWide_slice Tryd.underlying22 hv
  obtain ⟨fuel, hf⟩ := h
  exact rd_parts hf
end
end Go.Proofs.YtgfjbaigmkdbcaaDoor
namespace Go.Proofs.YtgfjbaigmkdbcaaDoor
set_option maxRecDepth 100000
open Go.ChangeShapes Go.WideShapes Go.ChangeAt Go.RowKit Go.Joins

section
variable {H : Type} {enc : TypeId × Value → H} {W : World} {base : Nat} {held : Bool} {r : Reach}
theorem elem_need {n : Nat} {cs : List Value} {y : DataW H × List MemPlace} (h : DataW.trod enc Tryd.prog W 0 (fun _ => true) held n 86 cs = some y) (hl : cs.length = 4) :
    ∃ x : Rc, cs = rcC x := by
  have hc1 : Tryd.prog.cellsOf 3 = 1 := by kernel_rfl
  obtain ⟨v0, v1, v2, v3, rfl⟩ : ∃ v0 v1 v2 v3, cs = [v0, v1, v2, v3] := by
    match cs, hl with
    | [v0, v1, v2, v3], _ => exact ⟨v0, v1, v2, v3, rfl⟩
  obtain ⟨y0, y1, y2, y3, n, _, _, g0, g1, g2, g3⟩ := trod_struct4 Tryd.underlying86 h
  simp only [hc1, List.drop_zero, List.drop_succ_cons, List.take_succ_cons, List.take_zero] at g0 g1 g2 g3
  obtain ⟨k, rfl, hk⟩ := cell_int g0
  obtain ⟨b, rfl, hb⟩ := cell_int g1
  obtain ⟨m, rfl, hm⟩ := cell_int g2
  obtain ⟨f, rfl, hF⟩ := cell_int g3
  exact ⟨⟨k, b, m, f⟩, rfl⟩
theorem rd_needs {v : Value} {fuel : Nat} {x : DataW H × List MemPlace} (hf : DataW.trod enc Tryd.prog W 0 (fun _ => true) held fuel 23 [v] = some x) :
    ∃ a n c l, v = .slice a n c ∧ Rs W a n c l ∧ n ≤ 9223372036854775807 := by
  have h4 : Tryd.prog.cellsOf 86 = 4 := by kernel_rfl
  rcases Go.Deep.open_slice Tryd.underlying23 hf with ⟨hcs, _⟩ | ⟨x', len, cap, m, nn, D, Pl, hcs, hb, hl, hmx, hm, _, hx⟩
  · simp only [List.cons.injEq, and_true] at hcs
    exact ⟨none, 0, 0, [], hcs, ⟨fun _ => rfl, rfl, Nat.le_refl _, .inl rfl⟩, by omega⟩
  · simp only [List.cons.injEq, and_true] at hcs
    subst hcs
    have hlm : len ≤ m := by rw [hm]; split <;> omega
    rw [h4] at hx
    have hE : ∀ i, i < len → ∃ q : Rc, ∀ j, j < 4 → W.cell? ((x'.add (i * 4)).add j) = (rcC q)[j]? := by
      intro i hi
      obtain ⟨cs', hc, ht⟩ := hx i (by omega)
      obtain ⟨h1, h2, h3⟩ := World.cells?_some hc
      obtain ⟨q, rfl⟩ := elem_need ht (by first | exact h2 | exact h1)
      exact ⟨q, fun j hj => by first | exact h3 j hj | (rw [h3 j hj])⟩
    haveI : Inhabited Rc := ⟨rz⟩
    obtain ⟨f, hF⟩ := Go.Deep.choose_lt (α := Rc) hE
    refine ⟨_, len, cap, (List.range len).map f, rfl, ⟨(fun h => by cases h), by simp, hl, ?_⟩, by unfold maxLen at hmx; omega⟩
    by_cases h0 : len = 0
    · exact .inl h0
    obtain ⟨b, off, spot⟩ := x'
    have hz := hF 0 (by omega) 0 (by omega)
    have hspot : spot = none := by
      have := World.cell?_spot (show W.cell? _ = some (.int .i64 (f 0).k) from hz)
      simpa [Addr.add] using this
    subst hspot
    refine .inr ⟨b, off, rfl, World.block_lt_of_cell? W _ (show W.cell? _ = some (.int .i64 (f 0).k) from hz), fun i hi => ?_⟩
    have e : rg ((List.range len).map f) i = f i := by simp [rg, hi]
    rw [e]
    have q := hF i hi
    refine ⟨?_, ?_, ?_, ?_⟩
    · have := q 0 (by omega); rw [Addr.add_lit, Addr.add_lit] at this; simpa using this
    · have := q 1 (by omega); rw [Addr.add_lit, Addr.add_lit] at this; simpa using this
    · have := q 2 (by omega); rw [Addr.add_lit, Addr.add_lit] at this; simpa using this
    · have := q 3 (by omega); rw [Addr.add_lit, Addr.add_lit] at this; simpa using this
end
end Go.Proofs.YtgfjbaigmkdbcaaDoor
namespace Go.Proofs.YtgfjbaigmkdbcaaDoor
set_option maxRecDepth 100000
open Go.ChangeShapes Go.WideShapes Go.ChangeAt Go.RowKit Go.Joins

abbrev rcn (x : Rc) : NeedM := ⟨x.k, x.b, x.n, x.f⟩
theorem nrc_rcn (l : List Rc) : (l.map rcn).map nrc = l := by induction l with
  | nil => rfl
  | cons a t ih => show nrc (rcn a) :: _ = _; rw [ih]
section
variable {H : Type} {enc : TypeId × Value → H} {W : World} {base : Nat} {held : Bool} {r : Reach}
theorem trod_struct5 {P : Program} {w : World} {base : Nat} {spare : Nat → Bool} {t : TypeId} {f0 f1 f2 f3 f4 : Field} {fuel : Nat} {cs : List Value} {x : DataW H × List MemPlace} (ht : P.underlying t = some (.struct #[f0, f1, f2, f3, f4])) (h : DataW.trod enc P w base spare held fuel t cs = some x) :
    ∃ (y0 y1 y2 y3 y4 : DataW H × List MemPlace) (n : Nat),
      DataW.trod enc P w base spare held n f0.type ((cs.drop f0.offset).take (P.cellsOf f0.type)) = some y0 ∧ DataW.trod enc P w base spare held n f1.type ((cs.drop f1.offset).take (P.cellsOf f1.type)) = some y1 ∧
      DataW.trod enc P w base spare held n f2.type ((cs.drop f2.offset).take (P.cellsOf f2.type)) = some y2 ∧ DataW.trod enc P w base spare held n f3.type ((cs.drop f3.offset).take (P.cellsOf f3.type)) = some y3 ∧
      DataW.trod enc P w base spare held n f4.type ((cs.drop f4.offset).take (P.cellsOf f4.type)) = some y4 := by
  obtain ⟨xs, n, _, rfl, hl, hlen, hf⟩ := DataW.trod_struct ht h
  match xs, hlen with
  | [y0, y1, y2, y3, y4], _ => exact ⟨y0, y1, y2, y3, y4, n, by simpa using hf 0 f0 rfl, by simpa using hf 1 f1 rfl, by simpa using hf 2 f2 rfl, by simpa using hf 3 f3 rfl, by simpa using hf 4 f4 rfl⟩
theorem arg_bun {v : Value} {x : DataW H × List MemPlace} (hv : Value.okWide Tryd.prog W r base 25 v)
    (h : ∃ fuel, DataW.trod enc Tryd.prog W 0 (fun _ => true) held fuel 25 v.cells.toList = some x) :
    ∃ pa pn pc na nn nc, ∃ B : BunM, v = bunV B.d B.n B.f pa pn pc na nn nc ∧ Ps W pa pn pc B.ps ∧ Ns W na nn nc B.ns ∧ pn ≤ 9223372036854775807 ∧ (∀ q, q < pn → (B.ps.getD q pz).h.length ≤ 9223372036854775807) ∧ nn ≤ 9223372036854775807 := by
  obtain ⟨cs, rfl, hsz⟩ := okWide_struct Tryd.underlying25 hv
  have h3 : Tryd.prog.cellsOf 25 = 5 := by kernel_rfl
  have hc1 : Tryd.prog.cellsOf 3 = 1 := by kernel_rfl
  have hcp : Tryd.prog.cellsOf 22 = 1 := by kernel_rfl
  have hcn : Tryd.prog.cellsOf 23 = 1 := by kernel_rfl
  obtain ⟨v0, v1, v2, v3, v4, rfl⟩ : ∃ v0 v1 v2 v3 v4, cs = #[v0, v1, v2, v3, v4] := by
    rw [h3] at hsz
    match cs, hsz with
    | ⟨[v0, v1, v2, v3, v4]⟩, _ => exact ⟨v0, v1, v2, v3, v4, rfl⟩
  obtain ⟨fuel, hf⟩ := h
  obtain ⟨y0, y1, y2, y3, y4, n, g0, g1, g2, g3, g4⟩ := trod_struct5 Tryd.underlying25 hf
  simp only [hc1, hcp, hcn, Value.cells, List.drop_zero, List.drop_succ_cons, List.take_succ_cons, List.take_zero] at g0 g1 g2 g3 g4
  obtain ⟨d, rfl, _⟩ := cell_int g0
  obtain ⟨m, rfl, _⟩ := cell_int g1
  obtain ⟨f, rfl, _⟩ := cell_int g2
  obtain ⟨pa, pn, pc, ps, rfl, hP, hp, hq⟩ := rd_parts g3
  obtain ⟨na, nn, nc, ns, rfl, hN, hn⟩ := rd_needs g4
  refine ⟨pa, pn, pc, na, nn, nc, ⟨d, m, f, ps, ns.map rcn⟩, rfl, hP, Rs.ns ?_, hp, hq, hn⟩
  rw [nrc_rcn]
  exact hN
end
end Go.Proofs.YtgfjbaigmkdbcaaDoor
namespace Go.Proofs.YtgfjbaigmkdbcaaDoor
open Go.ChangeShapes Go.WideShapes Go.ChangeAt Go.RowKit
set_option maxRecDepth 100000

theorem own : ownKnob Tryd.prog.godebug = none := by kernel_rfl
theorem laidOut : laidOutB Tryd.prog = true := by kernel_rfl
theorem gPow : Tryd.prog.globalNamed "internal/strconv.uint64pow10" = some 0 := by kernel_rfl
theorem tPow : (Tryd.prog.globals[0]?).map (·.type) = some 108 := by kernel_rfl
theorem pow_of {W : World} (h : laidMetH Tryd.prog Rows.fnExactRecTextRow.laid W) : Pow W := by
  rw [MakeChecks.laidMetH_plain _ _ _ (by kernel_rfl)] at h
  obtain ⟨ps, ⟨g0, t0, cs0, f0, p0, q0, hg0, ht0, hv0, hd0, ⟨g1, t1, cs1, f1, p1, q1, hg1, ht1, hv1, hd1, ⟨g2, t2, cs2, f2, p2, q2, hg2, ht2, hv2, hd2, _, _⟩, _⟩, _⟩, _, _⟩ := h
  obtain rfl := Option.some.inj (gPow.symm.trans hg2)
  obtain rfl := Option.some.inj (tPow.symm.trans ht2)
  have e := Lib.cells_of_tab (zs := Lib.pow10Tab) Tryd.underlying108 Tryd.underlying98 (by kernel_rfl) (by kernel_rfl) hd2
  show W.var? Tryd.prog "internal/strconv.uint64pow10" = _
  rw [hv2, ← e]
end Go.Proofs.YtgfjbaigmkdbcaaDoor
