/-
  What is proved here: a Sha that lies in a cell of its own, its two rows behind an earlier point of memory, and how it is kept while other rows are marked.
-/
import Derived.Test.YtgapfkiceolceaaDoorQ9
import Derived.Test.YtgapfkiceolceaaDoorIa
namespace Go.Proofs.YtgapfkiceolceaaDoor
set_option maxRecDepth 100000
open Go.RowKit

structure Sh (W : World) (lo P : Nat) (aH : Option Addr) (nH cH : Nat) (N : Int) (aT : Option Addr) (nT cT : Nat) (hs ts : List Int) : Prop where
  p : Arr W P 27 [.slice aH nH cH, .int .i64 N, .slice aT nT cT]
  oh : W.ownsRow lo 3 1 (.slice aH nH cH) nH (I64 hs)
  ot : W.ownsRow lo 5 1 (.slice aT nT cT) nT (U8 ts)
  ap : Apart (.slice aH nH cH) (.slice aT nT cT)
  ih : In (.slice aH nH cH) lo P
  it : In (.slice aT nT cT) lo P

theorem Sh.of_own {w W : World} {aH : Option Addr} {nH cH : Nat} {aT : Option Addr} {nT cT : Nat} {hs ts : List Int} (o : OwnSha w W aH nH cH aT nT cT hs ts) (N : Int) :
    Sh (W.alloc (.cells #[.slice aH nH cH, .int .i64 N, .slice aT nT cT] 27)) w.heap.size W.heap.size aH nH cH N aT nT cT hs ts :=
  ⟨Arr.new _ _ _, o.oh.alloc _, o.ot.alloc _, o.ap, In.of o.oh, In.of o.ot⟩
section
variable {W W' : World} {lo P : Nat} {aH : Option Addr} {nH cH : Nat} {N : Int} {aT : Option Addr} {nT cT : Nat} {hs ts : List Int}
theorem Sh.below (h : Sh W lo P aH nH cH N aT nT cT hs ts) (hb : Below W.heap.size W W') : Sh W' lo P aH nH cH N aT nT cT hs ts :=
  ⟨h.p.kept hb, own_below h.oh hb, own_below h.ot hb, h.ap, h.ih, h.it⟩
theorem Sh.far2 (h : Sh W lo P aH nH cH N aT nT cT hs ts) {u1 u2 : Value} {a b : Nat} (hg : Gr2 W W' u1.ownBlock u2.ownBlock) (i1 : In u1 a b) (i2 : In u2 a b) (hl : b ≤ lo ∨ P < a) (hlp : lo ≤ P) : Sh W' lo P aH nH cH N aT nT cT hs ts :=
  ⟨hg.arr h.p (i1.ne (by omega)) (i2.ne (by omega)), hg.own h.oh (i1.apart h.ih (by omega)) (i2.apart h.ih (by omega)), hg.own h.ot (i1.apart h.it (by omega)) (i2.apart h.it (by omega)), h.ap, h.ih, h.it⟩
theorem Sh.far1 (h : Sh W lo P aH nH cH N aT nT cT hs ts) {u : Value} {a b : Nat} (hg : W.grownBy W' u.ownBlock) (i1 : In u a b) (hl : b ≤ lo ∨ P < a) (hlp : lo ≤ P) : Sh W' lo P aH nH cH N aT nT cT hs ts := by
  refine ⟨?_, own_kept h.oh hg (i1.apart h.ih (by omega)), own_kept h.ot hg (i1.apart h.it (by omega)), h.ap, h.ih, h.it⟩
  unfold Arr
  rw [hg.block P h.p.lt (fun e => i1.ne (by omega) e.symm)]
  exact h.p
theorem Sh.marked (h : Sh W lo P aH nH cH N aT nT cT hs ts) {hs' ts' : List Int} (hg : Gr2 W W' (Value.ownBlock (.slice aH nH cH)) (Value.ownBlock (.slice aT nT cT))) (oh : W'.ownsRow lo 3 1 (.slice aH nH cH) nH (I64 hs')) (ot : W'.ownsRow lo 5 1 (.slice aT nT cT) nT (U8 ts')) : Sh W' lo P aH nH cH N aT nT cT hs' ts' :=
  ⟨hg.arr h.p (h.ih.ne (by omega)) (h.it.ne (by omega)), oh, ot, h.ap, h.ih, h.it⟩
theorem Sh.cells (h : Sh W lo P aH nH cH N aT nT cT hs ts) : W.cell? ⟨P, 0, none⟩ = some (.slice aH nH cH) ∧ W.cell? ⟨P, 1, none⟩ = some (.int .i64 N) ∧ W.cell? ⟨P, 2, none⟩ = some (.slice aT nT cT) := ⟨h.p.cell 0, h.p.cell 1, h.p.cell 2⟩
end
theorem Gr2.cellsOf {W W' : World} {u1 u2 : Value} {a b g : Nat} {t : TypeId} {cs : List Value} (hg : Gr2 W W' u1.ownBlock u2.ownBlock) (h : Arr W g t cs) (i1 : In u1 a b) (i2 : In u2 a b) (hl : g < a ∨ b ≤ g) : Arr W' g t cs := hg.arr h (i1.ne hl) (i2.ne hl)
theorem grown_arr {W W' : World} {u : Value} {a b g : Nat} {t : TypeId} {cs : List Value} (hg : W.grownBy W' u.ownBlock) (h : Arr W g t cs) (i1 : In u a b) (hl : g < a ∨ b ≤ g) : Arr W' g t cs := by
  unfold Arr
  rw [hg.block g h.lt (fun e => i1.ne hl e.symm)]
  exact h
theorem arr3 {W : World} {g : Nat} {t : TypeId} {a b c : Value} (h : Arr W g t [a, b, c]) : W.cell? ⟨g, 0, none⟩ = some a ∧ W.cell? ⟨g, 1, none⟩ = some b ∧ W.cell? ⟨g, 2, none⟩ = some c := ⟨h.cell 0, h.cell 1, h.cell 2⟩
end Go.Proofs.YtgapfkiceolceaaDoor
