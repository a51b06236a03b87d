/-
  What is proved here: plain facts on a variable's block; no condition.
-/
import Derived.Test.YtpchdfdeomhakaaGq
namespace Go.Proofs.Ytpchdfdeomhakaa
open Go.RowKit

/-- A variable's block holds these cells. -/
def Vr (w : World) (g : Nat) (cs : List Value) : Prop := ∃ t z, w.heap[g]? = some (.cells cs.toArray t z)
theorem Vr.lt {w : World} {g : Nat} {cs : List Value} (h : Vr w g cs) : g < w.heap.size := by
  obtain ⟨t, z, h⟩ := h
  exact (Array.getElem?_eq_some_iff.1 h).1
theorem Vr.below {w w' : World} {B g : Nat} {cs : List Value} (h : Vr w g cs) (hb : Below B w w') (hg : g < B) : Vr w' g cs := by
  obtain ⟨t, z, h⟩ := h
  exact ⟨t, z, (hb.block g hg).trans h⟩
theorem Vr.kept {w w' : World} {g : Nat} {cs : List Value} (h : Vr w g cs) (hb : Below w.heap.size w w') : Vr w' g cs := h.below hb h.lt
theorem Vr.cell {w : World} {g : Nat} {cs : List Value} (h : Vr w g cs) (j : Nat) : w.cell? ⟨g, j, none⟩ = cs[j]? := by
  obtain ⟨t, z, h⟩ := h
  rw [cell_of_row w g j _ t _ h]; simp
theorem Vr.int {w : World} {g : Nat} {K : IntKind} {xs : List Int} (h : Vr w g (xs.map (Value.int K))) (j : Nat) (hj : j < xs.length) : w.cell? ⟨g, j, none⟩ = some (.int K (xs.getD j 0)) := by
  rw [h.cell j]; simp [hj]

/-- The cells of block g from j on, set one by one. -/
def setAll (w : World) (g : Nat) : Nat → List Value → World
  | _, [] => w
  | j, v :: vs => setAll (w.setCell ⟨g, j, none⟩ v) g (j + 1) vs
def setL (cs : List Value) : Nat → List Value → List Value
  | _, [] => cs
  | j, v :: vs => setL (cs.set j v) (j + 1) vs
theorem Arr.setAll {g : Nat} {t : TypeId} (vs : List Value) : ∀ {w : World} {cs : List Value} (j : Nat), Arr w g t cs → Arr (setAll w g j vs) g t (setL cs j vs) := by
  induction vs with
  | nil => intro w cs j h; exact h
  | cons v vs ih => intro w cs j h; exact ih (j + 1) (h.set j v)
theorem Arr.setAllOther {g k : Nat} {t : TypeId} (hne : k ≠ g) (vs : List Value) : ∀ {w : World} {cs : List Value} (j : Nat), Arr w k t cs → Arr (Go.Proofs.Ytpchdfdeomhakaa.setAll w g j vs) k t cs := by
  induction vs with
  | nil => intro w cs j h; exact h
  | cons v vs ih => intro w cs j h; exact ih (j + 1) (h.other ⟨g, j, none⟩ v hne)
theorem setAll_below {B g : Nat} {w0 : World} (hg : B ≤ g) (vs : List Value) : ∀ {w : World} (j : Nat), Below B w0 w → Below B w0 (setAll w g j vs) := by
  induction vs with
  | nil => intro w j h; exact h
  | cons v vs ih => intro w j h; exact ih (j + 1) (h.setCell (p := ⟨g, j, none⟩) hg v)
theorem setAll_grown {g : Nat} {w0 : World} (vs : List Value) : ∀ {w : World} (j : Nat), w0.grownBy w (some g) → w0.grownBy (setAll w g j vs) (some g) := by
  induction vs with
  | nil => intro w j h; exact h
  | cons v vs ih => intro w j h; exact ih (j + 1) (grown_set h j v)
end Go.Proofs.Ytpchdfdeomhakaa
