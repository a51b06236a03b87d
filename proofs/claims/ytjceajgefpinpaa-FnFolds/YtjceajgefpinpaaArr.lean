/-
  What is proved here: plain facts on a block of memory that holds just given cells (an array), and how it stays; no program is spoken of, no condition.
-/
import Derived.Test.YtjceajgefpinpaaKitI
import Derived.Laws.Rows
import Derived.Laws.ResultCell
import Derived.Deep.QuietTactic
import Derived.BigQuiet
namespace Go.Proofs.Ytjceajgefpinpaa
open Go.RowKit

abbrev U32 (xs : List Int) : List Value := xs.map (Value.int .u32)

/-- Block g holds just these cells; none is frozen. -/
def Arr (w : World) (g : Nat) (t : TypeId) (cs : List Value) : Prop := w.heap[g]? = some (.cells cs.toArray t (0, 0))

section
variable {w w' : World} {g : Nat} {t : TypeId} {cs : List Value}

theorem Arr.lt (h : Arr w g t cs) : g < w.heap.size := (Array.getElem?_eq_some_iff.1 h).1
theorem Arr.cell (h : Arr w g t cs) (j : Nat) : w.cell? ⟨g, j, none⟩ = cs[j]? := by
  rw [cell_of_row w g j _ t _ h]; simp
theorem Arr.u32 {xs : List Int} (h : Arr w g t (U32 xs)) (j : Nat) (hj : j < xs.length) : w.cell? ⟨g, j, none⟩ = some (.int .u32 (xs.getD j 0)) := by
  rw [h.cell j]; simp [hj]
theorem Arr.i64 {xs : List Int} (h : Arr w g t (I64 xs)) (j : Nat) (hj : j < xs.length) : w.cell? ⟨g, j, none⟩ = some (.int .i64 (xs.getD j 0)) := by
  rw [h.cell j]; simp [hj]
theorem Arr.frozen (h : Arr w g t cs) (j : Nat) : w.frozen? ⟨g, j, none⟩ = false := frozen_of_row w g j _ t h
theorem Arr.set (h : Arr w g t cs) (j : Nat) (v : Value) : Arr (w.setCell ⟨g, j, none⟩ v) g t (cs.set j v) := by
  have := heap_setCell_same w g j _ t v h
  unfold Arr
  rw [this]; simp
theorem Arr.other (h : Arr w g t cs) (p : Addr) (v : Value) (hne : g ≠ p.block) : Arr (w.setCell p v) g t cs := by
  unfold Arr
  rw [heap_setCell_other w p g v hne]; exact h
theorem Arr.row (h : Arr w g t cs) (ds : List Value) : Arr (w.setRow g ds.toArray) g t ds := setRow_heap w g _ _ t _ h
theorem Arr.rowOther (h : Arr w g t cs) (k : Nat) (ds : Array Value) (hne : g ≠ k) : Arr (w.setRow k ds) g t cs := (setRow_other w k g ds hne).trans h
theorem Arr.below {B : Nat} (h : Arr w g t cs) (hb : Below B w w') (hB : g < B) : Arr w' g t cs := by
  unfold Arr; rw [hb.block g hB]; exact h
theorem Arr.kept (h : Arr w g t cs) (hb : Below w.heap.size w w') : Arr w' g t cs := h.below hb h.lt
theorem Arr.new (w : World) (cs : List Value) (t : TypeId) : Arr (w.alloc (.cells cs.toArray t)) w.heap.size t cs := heap_alloc_new w _
theorem Arr.alloc (h : Arr w g t cs) (o : Obj) : Arr (w.alloc o) g t cs := (heap_alloc_old w o h.lt).trans h
theorem Arr.drew (h : Arr w g t cs) : Arr w.drew g t cs := h
theorem Arr.drewN (h : Arr w g t cs) (q : Nat) : Arr (w.drewN q) g t cs := h
end

theorem Arr.set8 {w : World} {g : Nat} {t : TypeId} {a0 a1 a2 a3 a4 a5 a6 a7 : Int} (h : Arr w g t (U32 [a0, a1, a2, a3, a4, a5, a6, a7])) (l0 l1 l2 l3 l4 l5 l6 l7 : Int) :
    Arr ((((((((w.setCell ⟨g, 0, none⟩ (.int .u32 l0)).setCell ⟨g, 1, none⟩ (.int .u32 l1)).setCell ⟨g, 2, none⟩ (.int .u32 l2)).setCell ⟨g, 3, none⟩ (.int .u32 l3)).setCell ⟨g, 4, none⟩ (.int .u32 l4)).setCell ⟨g, 5, none⟩ (.int .u32 l5)).setCell ⟨g, 6, none⟩ (.int .u32 l6)).setCell ⟨g, 7, none⟩ (.int .u32 l7))
      g t (U32 [l0, l1, l2, l3, l4, l5, l6, l7]) :=
  (((((((h.set 0 (.int .u32 l0)).set 1 (.int .u32 l1)).set 2 (.int .u32 l2)).set 3 (.int .u32 l3)).set 4 (.int .u32 l4)).set 5 (.int .u32 l5)).set 6 (.int .u32 l6)).set 7 (.int .u32 l7)

theorem set8_below {w0 w : World} {B g : Nat} (h : Below B w0 w) (hg : B ≤ g) (l0 l1 l2 l3 l4 l5 l6 l7 : Value) :
    Below B w0 ((((((((w.setCell ⟨g, 0, none⟩ l0).setCell ⟨g, 1, none⟩ l1).setCell ⟨g, 2, none⟩ l2).setCell ⟨g, 3, none⟩ l3).setCell ⟨g, 4, none⟩ l4).setCell ⟨g, 5, none⟩ l5).setCell ⟨g, 6, none⟩ l6).setCell ⟨g, 7, none⟩ l7) :=
  (((((((h.setCell hg l0).setCell hg l1).setCell hg l2).setCell hg l3).setCell hg l4).setCell hg l5).setCell hg l6).setCell hg l7

theorem setRow_below {B : Nat} {w w' : World} (hb : Below B w w') (g : Nat) (cs : Array Value) (hg : B ≤ g) : Below B w (w'.setRow g cs) :=
  ⟨hb.os, hb.tape, hb.output, by simpa using hb.size, fun i hi => (setRow_other w' g i cs (by omega)).trans (hb.block i hi)⟩

theorem bel_dN {B : Nat} {w w' : World} (hb : Below B w w') (q : Nat) : Below B w (w'.drewN q) := ⟨hb.os, hb.tape, hb.output, hb.size, hb.block⟩

theorem results_row_tmp {P : Program} {fn : Func} {p u : Tmp} {ty : TypeId} {w : World} {g : Nat} {t : TypeId} {cs : List Value} {d : TypeDesc} {v : Value} {tmps : Array Value} (h : fn.results = #[.cell p ty, .tmp u])
    (hp : tmps.getD p undef = .pointer (some ⟨g, 0, none⟩)) (hv : tmps.getD u undef = v) (hg : Arr w g t cs) (hu : P.underlying ty = some d) (hd : (match d with | .struct _ | .array _ _ => true | _ => false) = true) (hi : (P.info? ty).map (·.size) = some cs.length) :
    (results fn tmps).run P w = .ok (.tuple #[.agg cs.toArray, v]) w := by
  have hl := run_loadVar_row (P := P) w g t ty cs.toArray (0, 0) d hg hu hd (by simpa using hi)
  rw [results_cell_tmp h, hp, hv]
  simp [asAddr, Result.andThen, hl]

theorem list8 {l : List Int} (h : l.length = 8) : ∃ a b c d e f g i, l = [a, b, c, d, e, f, g, i] := by
  match l, h with
  | [a, b, c, d, e, f, g, i], _ => exact ⟨a, b, c, d, e, f, g, i, rfl⟩

theorem set_fill (xs : List Int) (n k : Nat) (x : Int) (h : k < xs.length) (hn : xs.length = n) (hx : x = xs.getD k 0) :
    (U32 (xs.take k ++ List.replicate (n - k) 0)).set k (.int .u32 x) = U32 (xs.take (k + 1) ++ List.replicate (n - (k + 1)) 0) := by
  subst hx
  have e : n - k = (n - (k + 1)) + 1 := by omega
  rw [take_snoc xs k h, e, List.replicate_succ]
  have hl : (xs.take k).length = k := by simp; omega
  simp only [U32, List.map_append, List.map_cons]
  rw [List.set_append_right _ _ (by simp; omega)]
  simp [Nat.min_eq_left (show k ≤ xs.length by omega)]

end Go.Proofs.Ytjceajgefpinpaa
