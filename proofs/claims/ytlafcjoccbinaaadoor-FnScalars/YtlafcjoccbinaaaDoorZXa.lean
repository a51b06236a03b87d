/-
  What is proved here: plain facts on rows and cells beside a row that is marked, for the walks of the exact laws; no condition.
-/
import Derived.Test.YtlafcjoccbinaaaDoorZA
import Derived.Test.YtlafcjoccbinaaaDoorZL
import Derived.Test.YtlafcjoccbinaaaDoorZC
import Derived.Deep.MidRow
import Derived.Deep.RegionHeld3
import Derived.Deep.CutRange
namespace Go.Proofs.YtlafcjoccbinaaaDoor
open Go.RowKit
set_option maxRecDepth 100000

theorem arr_mark {W W' : World} {u : Value} {a b g : Nat} {t : TypeId} {cs : List Value} (h : Arr W g t cs) (hg : W.grownBy W' u.ownBlock) (i1 : In u a b) (hl : g < a ∨ b ≤ g) : Arr W' g t cs := by
  have hne : some g ≠ u.ownBlock := fun e => i1.ne hl e.symm
  exact (hg.block g h.lt hne).trans h
theorem vr_mark {W W' : World} {u : Value} {a b g : Nat} {cs : List Value} (h : Vr W g cs) (hg : W.grownBy W' u.ownBlock) (i1 : In u a b) (hl : g < a ∨ b ≤ g) : Vr W' g cs := by
  have hne : some g ≠ u.ownBlock := fun e => i1.ne hl e.symm
  have hlt := h.lt
  obtain ⟨t, z, h⟩ := h
  exact ⟨t, z, (hg.block g hlt hne).trans h⟩
def setV' (cs : List Value) : Nat → List Value → List Value
  | _, [] => cs
  | j, v :: vs => setV' (cs.set j v) (j + 1) vs
theorem heap_setCells_other {g k : Nat} (hne : k ≠ g) : ∀ (vs : List Value) {w : World} (j : Nat), (w.setCells g j vs).heap[k]? = w.heap[k]?
  | [], _, _ => rfl
  | v :: vs, w, j => (heap_setCells_other hne vs (j + 1)).trans (heap_setCell_other w ⟨g, j, none⟩ k v hne)
theorem own_setCells {W : World} {lo e s n hi E : Nat} {v : Value} {xs : List Value} (h : W.ownsRow lo e s v n xs) (i : In v lo hi) (hE : E < lo ∨ hi ≤ E) (cs : List Value) : (W.setCells E 0 cs).ownsRow lo e s v n xs := by
  refine ⟨h.1, ?_⟩
  rcases h.2 with hn | ⟨g, cap, cur, rfl, hg, hgg, rest⟩
  · exact .inl hn
  · have h1 := i g rfl
    exact .inr ⟨g, cap, cur, rfl, hg, (heap_setCells_other (by omega) cs 0).trans hgg, rest⟩
theorem arr_one {W : World} {g : Nat} {t : TypeId} {v u : Value} (h : Arr W g t [v]) : Arr (W.setCells g 0 [u]) g t [u] := h.set 0 u
theorem arr_setO {W : World} {g k : Nat} {t : TypeId} {cs : List Value} (h : Arr W k t cs) (hne : k ≠ g) (vs : List Value) : Arr (W.setCells g 0 vs) k t cs := (heap_setCells_other hne vs 0).trans h
theorem vr_setO {W : World} {g k : Nat} {cs : List Value} (h : Vr W k cs) (hne : k ≠ g) (vs : List Value) : Vr (W.setCells g 0 vs) k cs := by
  obtain ⟨t, z, h⟩ := h
  exact ⟨t, z, (heap_setCells_other hne vs 0).trans h⟩
theorem bel_one {B g : Nat} {w0 W : World} (h : Below B w0 W) (hg : B ≤ g) (u : Value) : Below B w0 (W.setCells g 0 [u]) := h.setCell (p := ⟨g, 0, none⟩) hg u
theorem range1 {W : World} {g : Nat} {t : TypeId} {cs : List Value} (h : Arr W g t cs) : W.rangeAt g 0 cs := by
  intro j v hj
  rw [Nat.zero_add, h.cell j]
  exact hj
theorem there1 {W : World} {g : Nat} {t : TypeId} {v : Value} (h : Arr W g t [v]) : W.there g 0 1 := by
  intro j hj
  rw [Nat.zero_add]
  refine ⟨?_, h.frozen j⟩
  rw [h.cell j, List.getElem?_eq_getElem (by simpa using hj)]
  rfl
theorem size_one (W : World) (g : Nat) (u : Value) : (W.setCells g 0 [u]).heap.size = W.heap.size := by
  show (W.setCell ⟨g, 0, none⟩ u).heap.size = W.heap.size
  simp
theorem cell1 {W : World} {g : Nat} {t : TypeId} {v : Value} (h : Arr W g t [v]) : W.cell? ⟨g, 0, none⟩ = some v := h.cell 0
end Go.Proofs.YtlafcjoccbinaaaDoor
