/-
  What is proved here: plain facts on four rows (three of ints, one of bytes) that a call owns, apart from each other, and how they stay while one is marked or newer memory is made; no condition.
-/
import Derived.Test.YtgapfkiceolceaaDoorSmB
import Derived.Test.YtgapfkiceolceaaDoorSmBI
import Derived.Test.YtgapfkiceolceaaDoorW3
namespace Go.Proofs.YtgapfkiceolceaaDoor
open Go.RowKit

structure S4 (w W : World) (s0 sx sy sg : Value) (n0 nx ny ng : Nat) (l0 lx ly lg : List Int) : Prop where
  fr : Below w.heap.size w W
  o0 : W.ownsRow w.heap.size 3 1 s0 n0 (I64 l0)
  ox : W.ownsRow w.heap.size 3 1 sx nx (I64 lx)
  oy : W.ownsRow w.heap.size 5 1 sy ny (U8 ly)
  og : W.ownsRow w.heap.size 3 1 sg ng (I64 lg)
  d0x : Apart s0 sx
  d0y : Apart s0 sy
  d0g : Apart s0 sg
  dxy : Apart sx sy
  dxg : Apart sx sg
  dyg : Apart sy sg

theorem S4.below {w W W' : World} {s0 sx sy sg : Value} {n0 nx ny ng : Nat} {l0 lx ly lg : List Int} (h : S4 w W s0 sx sy sg n0 nx ny ng l0 lx ly lg) (hb : Below W.heap.size W W') : S4 w W' s0 sx sy sg n0 nx ny ng l0 lx ly lg :=
  ⟨h.fr.trans (hb.mono h.fr.size), own_below h.o0 hb, own_below h.ox hb, own_below h.oy hb, own_below h.og hb, h.d0x, h.d0y, h.d0g, h.dxy, h.dxg, h.dyg⟩
theorem S4.markx {w W W' : World} {s0 sx sy sg : Value} {n0 nx ny ng : Nat} {l0 lx lx' ly lg : List Int} (h : S4 w W s0 sx sy sg n0 nx ny ng l0 lx ly lg) (ho : W'.ownsRow w.heap.size 3 1 sx nx (I64 lx')) (hg : W.grownBy W' sx.ownBlock) : S4 w W' s0 sx sy sg n0 nx ny ng l0 lx' ly lg :=
  ⟨below_mark h.fr h.ox hg, own_kept h.o0 hg h.d0x.symm, ho, own_kept h.oy hg h.dxy, own_kept h.og hg h.dxg, h.d0x, h.d0y, h.d0g, h.dxy, h.dxg, h.dyg⟩
theorem S4.marky {w W W' : World} {s0 sx sy sg : Value} {n0 nx ny ng : Nat} {l0 lx ly ly' lg : List Int} (h : S4 w W s0 sx sy sg n0 nx ny ng l0 lx ly lg) (ho : W'.ownsRow w.heap.size 5 1 sy ny (U8 ly')) (hg : W.grownBy W' sy.ownBlock) : S4 w W' s0 sx sy sg n0 nx ny ng l0 lx ly' lg :=
  ⟨below_mark h.fr h.oy hg, own_kept h.o0 hg h.d0y.symm, own_kept h.ox hg h.dxy.symm, ho, own_kept h.og hg h.dyg, h.d0x, h.d0y, h.d0g, h.dxy, h.dxg, h.dyg⟩
theorem S4.markg {w W W' : World} {s0 sx sy sg : Value} {n0 nx ny ng : Nat} {l0 lx ly lg lg' : List Int} (h : S4 w W s0 sx sy sg n0 nx ny ng l0 lx ly lg) (ho : W'.ownsRow w.heap.size 3 1 sg ng (I64 lg')) (hg : W.grownBy W' sg.ownBlock) : S4 w W' s0 sx sy sg n0 nx ny ng l0 lx ly lg' :=
  ⟨below_mark h.fr h.og hg, own_kept h.o0 hg h.d0g.symm, own_kept h.ox hg h.dxg.symm, own_kept h.oy hg h.dyg.symm, ho, h.d0x, h.d0y, h.d0g, h.dxy, h.dxg, h.dyg⟩
end Go.Proofs.YtgapfkiceolceaaDoor
