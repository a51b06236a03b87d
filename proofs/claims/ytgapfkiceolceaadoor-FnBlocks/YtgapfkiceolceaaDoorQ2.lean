/-
  What is proved here: plain facts on a block of memory that holds just given cells (an array), and how it stays; no program is spoken of, no condition; plain facts on worlds of which one block may have turned, and on reading a part of an array value; no program is spoken of, no condition; plain facts on a variable's block; no condition; plain facts on a row that a call owns, as one block of memory; no program is spoken of, no condition.
-/
import Derived.Test.YtgapfkiceolceaaDoorQ1
import Derived.Laws.Rows
import Derived.Laws.ResultCell
import Derived.Deep.QuietTactic
import Derived.BigQuiet
import Derived.Deep.RegionHeld3
import Derived.BigRegion
namespace Go.Proofs.YtgapfkiceolceaaDoor
open Go.RowKit

abbrev U32 (xs : List Int) : List Value := xs.map (Value.int .u32)

/-- Block g holds just these cells; none is frozen. -/
def Arr (w : World) (g : Nat) (t : TypeId) (cs : List Value) : Prop := w.heap[g]? = some (.cells cs.toArray t (0, 0))

section
variable {w w' : World} {g : Nat} {t : TypeId} {cs : List Value}

theorem Arr.lt (h : Arr w g t cs) : g < w.heap.size := (Array.getElem?_eq_some_iff.1 h).1
theorem Arr.cell (h : Arr w g t cs) (j : Nat) : w.cell? ⟨g, j, none⟩ = cs[j]? := by
  rw [cell_of_row w g j _ t _ h]; simp
theorem Arr.u32 {xs : List Int} (h : Arr w g t (U32 xs)) (j : Nat) (hj : j < xs.length) : w.cell? ⟨g, j, none⟩ = some (.int .u32 (xs.getD j 0)) := by
  rw [h.cell j]; simp [hj]
theorem Arr.i64 {xs : List Int} (h : Arr w g t (I64 xs)) (j : Nat) (hj : j < xs.length) : w.cell? ⟨g, j, none⟩ = some (.int .i64 (xs.getD j 0)) := by
  rw [h.cell j]; simp [hj]
theorem Arr.frozen (h : Arr w g t cs) (j : Nat) : w.frozen? ⟨g, j, none⟩ = false := frozen_of_row w g j _ t h
theorem Arr.set (h : Arr w g t cs) (j : Nat) (v : Value) : Arr (w.setCell ⟨g, j, none⟩ v) g t (cs.set j v) := by
  have := heap_setCell_same w g j _ t v h
  unfold Arr
  rw [this]; simp
theorem Arr.other (h : Arr w g t cs) (p : Addr) (v : Value) (hne : g ≠ p.block) : Arr (w.setCell p v) g t cs := by
  unfold Arr
  rw [heap_setCell_other w p g v hne]; exact h
theorem Arr.row (h : Arr w g t cs) (ds : List Value) : Arr (w.setRow g ds.toArray) g t ds := setRow_heap w g _ _ t _ h
theorem Arr.rowOther (h : Arr w g t cs) (k : Nat) (ds : Array Value) (hne : g ≠ k) : Arr (w.setRow k ds) g t cs := (setRow_other w k g ds hne).trans h
theorem Arr.below {B : Nat} (h : Arr w g t cs) (hb : Below B w w') (hB : g < B) : Arr w' g t cs := by
  unfold Arr; rw [hb.block g hB]; exact h
theorem Arr.kept (h : Arr w g t cs) (hb : Below w.heap.size w w') : Arr w' g t cs := h.below hb h.lt
theorem Arr.new (w : World) (cs : List Value) (t : TypeId) : Arr (w.alloc (.cells cs.toArray t)) w.heap.size t cs := heap_alloc_new w _
theorem Arr.alloc (h : Arr w g t cs) (o : Obj) : Arr (w.alloc o) g t cs := (heap_alloc_old w o h.lt).trans h
theorem Arr.drew (h : Arr w g t cs) : Arr w.drew g t cs := h
theorem Arr.drewN (h : Arr w g t cs) (q : Nat) : Arr (w.drewN q) g t cs := h
end

theorem Arr.set8 {w : World} {g : Nat} {t : TypeId} {a0 a1 a2 a3 a4 a5 a6 a7 : Int} (h : Arr w g t (U32 [a0, a1, a2, a3, a4, a5, a6, a7])) (l0 l1 l2 l3 l4 l5 l6 l7 : Int) :
    Arr ((((((((w.setCell ⟨g, 0, none⟩ (.int .u32 l0)).setCell ⟨g, 1, none⟩ (.int .u32 l1)).setCell ⟨g, 2, none⟩ (.int .u32 l2)).setCell ⟨g, 3, none⟩ (.int .u32 l3)).setCell ⟨g, 4, none⟩ (.int .u32 l4)).setCell ⟨g, 5, none⟩ (.int .u32 l5)).setCell ⟨g, 6, none⟩ (.int .u32 l6)).setCell ⟨g, 7, none⟩ (.int .u32 l7))
      g t (U32 [l0, l1, l2, l3, l4, l5, l6, l7]) :=
  (((((((h.set 0 (.int .u32 l0)).set 1 (.int .u32 l1)).set 2 (.int .u32 l2)).set 3 (.int .u32 l3)).set 4 (.int .u32 l4)).set 5 (.int .u32 l5)).set 6 (.int .u32 l6)).set 7 (.int .u32 l7)

theorem set8_below {w0 w : World} {B g : Nat} (h : Below B w0 w) (hg : B ≤ g) (l0 l1 l2 l3 l4 l5 l6 l7 : Value) :
    Below B w0 ((((((((w.setCell ⟨g, 0, none⟩ l0).setCell ⟨g, 1, none⟩ l1).setCell ⟨g, 2, none⟩ l2).setCell ⟨g, 3, none⟩ l3).setCell ⟨g, 4, none⟩ l4).setCell ⟨g, 5, none⟩ l5).setCell ⟨g, 6, none⟩ l6).setCell ⟨g, 7, none⟩ l7) :=
  (((((((h.setCell hg l0).setCell hg l1).setCell hg l2).setCell hg l3).setCell hg l4).setCell hg l5).setCell hg l6).setCell hg l7

theorem setRow_below {B : Nat} {w w' : World} (hb : Below B w w') (g : Nat) (cs : Array Value) (hg : B ≤ g) : Below B w (w'.setRow g cs) :=
  ⟨hb.os, hb.tape, hb.output, by simpa using hb.size, fun i hi => (setRow_other w' g i cs (by omega)).trans (hb.block i hi)⟩

theorem bel_dN {B : Nat} {w w' : World} (hb : Below B w w') (q : Nat) : Below B w (w'.drewN q) := ⟨hb.os, hb.tape, hb.output, hb.size, hb.block⟩

theorem results_row_tmp {P : Program} {fn : Func} {p u : Tmp} {ty : TypeId} {w : World} {g : Nat} {t : TypeId} {cs : List Value} {d : TypeDesc} {v : Value} {tmps : Array Value} (h : fn.results = #[.cell p ty, .tmp u])
    (hp : tmps.getD p undef = .pointer (some ⟨g, 0, none⟩)) (hv : tmps.getD u undef = v) (hg : Arr w g t cs) (hu : P.underlying ty = some d) (hd : (match d with | .struct _ | .array _ _ => true | _ => false) = true) (hi : (P.info? ty).map (·.size) = some cs.length) :
    (results fn tmps).run P w = .ok (.tuple #[.agg cs.toArray, v]) w := by
  have hl := run_loadVar_row (P := P) w g t ty cs.toArray (0, 0) d hg hu hd (by simpa using hi)
  rw [results_cell_tmp h, hp, hv]
  simp [asAddr, Result.andThen, hl]

theorem list8 {l : List Int} (h : l.length = 8) : ∃ a b c d e f g i, l = [a, b, c, d, e, f, g, i] := by
  match l, h with
  | [a, b, c, d, e, f, g, i], _ => exact ⟨a, b, c, d, e, f, g, i, rfl⟩

theorem set_fill (xs : List Int) (n k : Nat) (x : Int) (h : k < xs.length) (hn : xs.length = n) (hx : x = xs.getD k 0) :
    (U32 (xs.take k ++ List.replicate (n - k) 0)).set k (.int .u32 x) = U32 (xs.take (k + 1) ++ List.replicate (n - (k + 1)) 0) := by
  subst hx
  have e : n - k = (n - (k + 1)) + 1 := by omega
  rw [take_snoc xs k h, e, List.replicate_succ]
  have hl : (xs.take k).length = k := by simp; omega
  simp only [U32, List.map_append, List.map_cons]
  rw [List.set_append_right _ _ (by simp; omega)]
  simp [Nat.min_eq_left (show k ≤ xs.length by omega)]

end Go.Proofs.YtgapfkiceolceaaDoor
namespace Go.Proofs.YtgapfkiceolceaaDoor
open Go.RowKit
set_option linter.unusedSimpArgs false

theorem grown_set {w0 w : World} {g : Nat} (h : w0.grownBy w (some g)) (j : Nat) (v : Value) : w0.grownBy (w.setCell ⟨g, j, none⟩ v) (some g) :=
  ⟨h.os, h.tape, h.output, by simpa using h.size, fun i hi hne => (heap_setCell_other _ _ _ _ (fun e => hne (by rw [e]))).trans (h.block i hi hne)⟩

theorem grown_set8 {w0 w : World} {g : Nat} (h : w0.grownBy w (some g)) (l0 l1 l2 l3 l4 l5 l6 l7 : Value) :
    w0.grownBy ((((((((w.setCell ⟨g, 0, none⟩ l0).setCell ⟨g, 1, none⟩ l1).setCell ⟨g, 2, none⟩ l2).setCell ⟨g, 3, none⟩ l3).setCell ⟨g, 4, none⟩ l4).setCell ⟨g, 5, none⟩ l5).setCell ⟨g, 6, none⟩ l6).setCell ⟨g, 7, none⟩ l7) (some g) :=
  grown_set (grown_set (grown_set (grown_set (grown_set (grown_set (grown_set (grown_set h 0 l0) 1 l1) 2 l2) 3 l3) 4 l4) 5 l5) 6 l6) 7 l7

theorem grown_of_below {w w' : World} (h : Below w.heap.size w w') (r : Option Nat) : w.grownBy w' r := ⟨h.os, h.tape, h.output, h.size, fun i hi _ => h.block i hi⟩

theorem index_arr {P : Program} {t e : TypeId} {n : Nat} {K : IntKind} (hu : P.underlying t = some (.array n e)) (he : P.underlying e = some (.int K)) (hs : (P.info? e).map (·.size) = some 1) (xs : List Int) (hl : xs.length = n) (k : Nat) (hk : k < n) (w : World) :
    (Instr.index t (.agg (xs.map (Value.int K)).toArray) (.int .i64 (k : Int))).run P w = .ok (.int K (xs.getD k 0)) w := by
  cases hq : P.info? e with
  | none => simp [hq] at hs
  | some i =>
    have hz : i.size = 1 := by simpa [hq] using hs
    have hk' : (k : Int) < (n : Int) := by omega
    have hkx : k < xs.length := by omega
    simp [Instr.index, run_underlying hu, run_underlying he, asIntOf, part, isAgg, sizeOf, typeInfo, hq, hz, hk', hkx, go_sem]
    intro h
    omega

theorem grown_drew {w w' : World} {r : Option Nat} (h : w.grownBy w' r) : w.grownBy w'.drew r := ⟨h.os, h.tape, h.output, h.size, h.block⟩

end Go.Proofs.YtgapfkiceolceaaDoor
namespace Go.Proofs.YtgapfkiceolceaaDoor
open Go.RowKit

/-- A variable's block holds these cells. -/
def Vr (w : World) (g : Nat) (cs : List Value) : Prop := ∃ t z, w.heap[g]? = some (.cells cs.toArray t z)
theorem Vr.lt {w : World} {g : Nat} {cs : List Value} (h : Vr w g cs) : g < w.heap.size := by
  obtain ⟨t, z, h⟩ := h
  exact (Array.getElem?_eq_some_iff.1 h).1
theorem Vr.below {w w' : World} {B g : Nat} {cs : List Value} (h : Vr w g cs) (hb : Below B w w') (hg : g < B) : Vr w' g cs := by
  obtain ⟨t, z, h⟩ := h
  exact ⟨t, z, (hb.block g hg).trans h⟩
theorem Vr.kept {w w' : World} {g : Nat} {cs : List Value} (h : Vr w g cs) (hb : Below w.heap.size w w') : Vr w' g cs := h.below hb h.lt
theorem Vr.cell {w : World} {g : Nat} {cs : List Value} (h : Vr w g cs) (j : Nat) : w.cell? ⟨g, j, none⟩ = cs[j]? := by
  obtain ⟨t, z, h⟩ := h
  rw [cell_of_row w g j _ t _ h]; simp
theorem Vr.int {w : World} {g : Nat} {K : IntKind} {xs : List Int} (h : Vr w g (xs.map (Value.int K))) (j : Nat) (hj : j < xs.length) : w.cell? ⟨g, j, none⟩ = some (.int K (xs.getD j 0)) := by
  rw [h.cell j]; simp [hj]

/-- The cells of block g from j on, set one by one. -/
def setAll (w : World) (g : Nat) : Nat → List Value → World
  | _, [] => w
  | j, v :: vs => setAll (w.setCell ⟨g, j, none⟩ v) g (j + 1) vs
def setL (cs : List Value) : Nat → List Value → List Value
  | _, [] => cs
  | j, v :: vs => setL (cs.set j v) (j + 1) vs
theorem Arr.setAll {g : Nat} {t : TypeId} (vs : List Value) : ∀ {w : World} {cs : List Value} (j : Nat), Arr w g t cs → Arr (setAll w g j vs) g t (setL cs j vs) := by
  induction vs with
  | nil => intro w cs j h; exact h
  | cons v vs ih => intro w cs j h; exact ih (j + 1) (h.set j v)
theorem Arr.setAllOther {g k : Nat} {t : TypeId} (hne : k ≠ g) (vs : List Value) : ∀ {w : World} {cs : List Value} (j : Nat), Arr w k t cs → Arr (Go.Proofs.YtgapfkiceolceaaDoor.setAll w g j vs) k t cs := by
  induction vs with
  | nil => intro w cs j h; exact h
  | cons v vs ih => intro w cs j h; exact ih (j + 1) (h.other ⟨g, j, none⟩ v hne)
theorem setAll_below {B g : Nat} {w0 : World} (hg : B ≤ g) (vs : List Value) : ∀ {w : World} (j : Nat), Below B w0 w → Below B w0 (setAll w g j vs) := by
  induction vs with
  | nil => intro w j h; exact h
  | cons v vs ih => intro w j h; exact ih (j + 1) (h.setCell (p := ⟨g, j, none⟩) hg v)
theorem setAll_grown {g : Nat} {w0 : World} (vs : List Value) : ∀ {w : World} (j : Nat), w0.grownBy w (some g) → w0.grownBy (setAll w g j vs) (some g) := by
  induction vs with
  | nil => intro w j h; exact h
  | cons v vs ih => intro w j h; exact ih (j + 1) (grown_set h j v)
end Go.Proofs.YtgapfkiceolceaaDoor
namespace Go.Proofs.YtgapfkiceolceaaDoor
open Go.RowKit

theorem own_same {A B : World} {b e s m : Nat} {g cap : Nat} {xs : List Value} (h : A.ownsRow b e s (.slice (some ⟨g, 0, none⟩) m cap) m xs) (hs : B.heap[g]? = A.heap[g]?) : B.ownsRow b e s (.slice (some ⟨g, 0, none⟩) m cap) m xs := by
  refine ⟨h.1, ?_⟩
  rcases h.2 with ⟨hn, _⟩ | ⟨g', cap', cur, he, hb, hg, rest⟩
  · cases hn
  · cases he
    exact .inr ⟨g, cap, cur, rfl, hb, hs.trans hg, rest⟩
theorem own_cell {A : World} {b e m : Nat} {g cap : Nat} {K : IntKind} {l : List Int} (h : A.ownsRow b e 1 (.slice (some ⟨g, 0, none⟩) m cap) m (l.map (Value.int K))) (j : Nat) (hj : j < l.length) : A.cell? ⟨g, j, none⟩ = some (.int K (l.getD j 0)) := by
  have hl : l.length = m := by simpa using h.1
  rcases h.2 with ⟨hn, _⟩ | ⟨g', cap', cur, he, hb, hg, h1, h2, h3, h4⟩
  · cases hn
  · cases he
    rw [cell_of_row A g j _ e _ hg]
    have e1 : cur.toList[j]? = (l.map (Value.int K))[j]? := by
      rw [← h4, List.getElem?_take]
      simp [show j < m by omega]
    rw [← Array.getElem?_toList, e1]
    simp [hj]
theorem own_cap {A : World} {b e s m : Nat} {g cap : Nat} {xs : List Value} (h : A.ownsRow b e s (.slice (some ⟨g, 0, none⟩) m cap) m xs) : m ≤ cap ∧ cap ≤ maxLen ∧ b ≤ g ∧ g < A.heap.size := by
  have hlt := h.lt g rfl
  rcases h.2 with ⟨hn, _⟩ | ⟨g', cap', cur, he, hb, hg, h1, h2, _⟩
  · cases hn
  · cases he
    exact ⟨h1, h2, hlt⟩
theorem own_of_arr {A : World} {b e g m : Nat} {xs : List Value} (h : Arr A g e xs) (hl : xs.length = m) (hb : b ≤ g) (hm : m ≤ maxLen) : A.ownsRow b e 1 (.slice (some ⟨g, 0, none⟩) m m) m xs := by
  subst hl
  exact ⟨by simp, .inr ⟨g, _, _, rfl, hb, h, Nat.le_refl _, hm, by simp, by simp⟩⟩
theorem grown_below {A B : World} (hb : Below A.heap.size A B) (r : Option Nat) : A.grownBy B r := ⟨hb.os, hb.tape, hb.output, hb.size, fun i hi _ => hb.block i hi⟩
theorem app_J {J : Nat → Nat → World → Prop} (hJ : ∀ k g g' A B, J k g A → A.grownBy B (some g) → (g' = g ∨ A.heap.size ≤ g') → J k g' B) {k g gg : Nat} {A B : World} {o : Obj} (h : J k g A) (hg : (A.alloc o).grownBy B (some g)) (hat : some g = some gg ∨ gg = A.heap.size + 1) : J k gg B := by
  refine hJ k g gg (A.alloc o) B (hJ k g g A _ h (grown_below ((Below.refl _ _).alloc (Nat.le_refl _) _) _) (.inl rfl)) hg ?_
  rcases hat with e | e
  · left; cases e; rfl
  · right; simp [e]
end Go.Proofs.YtgapfkiceolceaaDoor
