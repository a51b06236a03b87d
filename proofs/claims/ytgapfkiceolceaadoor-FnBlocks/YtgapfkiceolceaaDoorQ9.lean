/-
  What is proved here: plain facts on four rows (three of ints, one of bytes) that a call owns, apart from each other, and how they stay while one is marked or newer memory is made; no condition; contracts of two helpers of the exact laws on a Sha (mark it, look whether the marks are held), for every value whose slices hold at most 2^21 elements each.
-/
import Derived.Test.YtgapfkiceolceaaDoorQ4
import Derived.Test.YtgapfkiceolceaaDoorQ5
namespace Go.Proofs.YtgapfkiceolceaaDoor
open Go.RowKit

structure S4 (w W : World) (s0 sx sy sg : Value) (n0 nx ny ng : Nat) (l0 lx ly lg : List Int) : Prop where
  fr : Below w.heap.size w W
  o0 : W.ownsRow w.heap.size 3 1 s0 n0 (I64 l0)
  ox : W.ownsRow w.heap.size 3 1 sx nx (I64 lx)
  oy : W.ownsRow w.heap.size 5 1 sy ny (U8 ly)
  og : W.ownsRow w.heap.size 3 1 sg ng (I64 lg)
  d0x : Apart s0 sx
  d0y : Apart s0 sy
  d0g : Apart s0 sg
  dxy : Apart sx sy
  dxg : Apart sx sg
  dyg : Apart sy sg

theorem S4.below {w W W' : World} {s0 sx sy sg : Value} {n0 nx ny ng : Nat} {l0 lx ly lg : List Int} (h : S4 w W s0 sx sy sg n0 nx ny ng l0 lx ly lg) (hb : Below W.heap.size W W') : S4 w W' s0 sx sy sg n0 nx ny ng l0 lx ly lg :=
  ⟨h.fr.trans (hb.mono h.fr.size), own_below h.o0 hb, own_below h.ox hb, own_below h.oy hb, own_below h.og hb, h.d0x, h.d0y, h.d0g, h.dxy, h.dxg, h.dyg⟩
theorem S4.markx {w W W' : World} {s0 sx sy sg : Value} {n0 nx ny ng : Nat} {l0 lx lx' ly lg : List Int} (h : S4 w W s0 sx sy sg n0 nx ny ng l0 lx ly lg) (ho : W'.ownsRow w.heap.size 3 1 sx nx (I64 lx')) (hg : W.grownBy W' sx.ownBlock) : S4 w W' s0 sx sy sg n0 nx ny ng l0 lx' ly lg :=
  ⟨below_mark h.fr h.ox hg, own_kept h.o0 hg h.d0x.symm, ho, own_kept h.oy hg h.dxy, own_kept h.og hg h.dxg, h.d0x, h.d0y, h.d0g, h.dxy, h.dxg, h.dyg⟩
theorem S4.marky {w W W' : World} {s0 sx sy sg : Value} {n0 nx ny ng : Nat} {l0 lx ly ly' lg : List Int} (h : S4 w W s0 sx sy sg n0 nx ny ng l0 lx ly lg) (ho : W'.ownsRow w.heap.size 5 1 sy ny (U8 ly')) (hg : W.grownBy W' sy.ownBlock) : S4 w W' s0 sx sy sg n0 nx ny ng l0 lx ly' lg :=
  ⟨below_mark h.fr h.oy hg, own_kept h.o0 hg h.d0y.symm, own_kept h.ox hg h.dxy.symm, ho, own_kept h.og hg h.dyg, h.d0x, h.d0y, h.d0g, h.dxy, h.dxg, h.dyg⟩
theorem S4.markg {w W W' : World} {s0 sx sy sg : Value} {n0 nx ny ng : Nat} {l0 lx ly lg lg' : List Int} (h : S4 w W s0 sx sy sg n0 nx ny ng l0 lx ly lg) (ho : W'.ownsRow w.heap.size 3 1 sg ng (I64 lg')) (hg : W.grownBy W' sg.ownBlock) : S4 w W' s0 sx sy sg n0 nx ny ng l0 lx ly lg' :=
  ⟨below_mark h.fr h.og hg, own_kept h.o0 hg h.d0g.symm, own_kept h.ox hg h.dxg.symm, own_kept h.oy hg h.dyg.symm, ho, h.d0x, h.d0y, h.d0g, h.dxy, h.dxg, h.dyg⟩
end Go.Proofs.YtgapfkiceolceaaDoor
namespace Go.Proofs.YtgapfkiceolceaaDoor
open Go.RowKit

/-- Nothing old has turned but two blocks. -/
structure Gr2 (w w' : World) (r1 r2 : Option Nat) : Prop where
  os : w'.os = w.os
  tape : w'.tape = w.tape
  output : w'.output = w.output
  size : w.heap.size ≤ w'.heap.size
  block : ∀ i, i < w.heap.size → some i ≠ r1 → some i ≠ r2 → w'.heap[i]? = w.heap[i]?

theorem Gr2.below {w W W' : World} {r1 r2 : Option Nat} (h : Gr2 W W' r1 r2) (hb : Below w.heap.size w W) (h1 : ∀ k, r1 = some k → w.heap.size ≤ k) (h2 : ∀ k, r2 = some k → w.heap.size ≤ k) : Below w.heap.size w W' :=
  ⟨h.os.trans hb.os, h.tape.trans hb.tape, h.output.trans hb.output, Nat.le_trans hb.size h.size, fun i hi => (h.block i (Nat.lt_of_lt_of_le hi hb.size) (fun e => by have := h1 i e.symm; omega) (fun e => by have := h2 i e.symm; omega)).trans (hb.block i hi)⟩
theorem Gr2.own {W W' : World} {u1 u2 v : Value} {B e s n : Nat} {l : List Value} (h : Gr2 W W' u1.ownBlock u2.ownBlock) (ho : W.ownsRow B e s v n l) (a1 : Apart u1 v) (a2 : Apart u2 v) : W'.ownsRow B e s v n l := by
  refine ⟨ho.1, ?_⟩
  rcases ho.2 with hn | ⟨g, cap, cur, rfl, hg, hgg, rest⟩
  · exact .inl hn
  · refine .inr ⟨g, cap, cur, rfl, hg, ?_, rest⟩
    rw [h.block g (Array.getElem?_eq_some_iff.1 hgg).1 (fun e => a1 g e.symm rfl) (fun e => a2 g e.symm rfl)]
    exact hgg
theorem Gr2.arr {W W' : World} {r1 r2 : Option Nat} {g : Nat} {t : TypeId} {cs : List Value} (h : Gr2 W W' r1 r2) (ha : Arr W g t cs) (h1 : r1 ≠ some g) (h2 : r2 ≠ some g) : Arr W' g t cs := by
  unfold Arr
  rw [h.block g ha.lt (Ne.symm h1) (Ne.symm h2)]
  exact ha

set_option maxHeartbeats 1000000 in
theorem markShaC (B : Nat) (aH : Option Addr) (nH cH : Nat) (N : Int) (aT : Option Addr) (nT cT : Nat) (hs ts : List Int) (k0 : Int) (w : World) (oh : w.ownsRow B 3 1 (.slice aH nH cH) nH (I64 hs)) (ot : w.ownsRow B 5 1 (.slice aT nT cT) nT (U8 ts)) (ap : Apart (.slice aH nH cH) (.slice aT nT cT))
    (hn : nH ≤ 2097152) (hm : nT ≤ 2097152) (h0 : 0 ≤ k0) (h1 : k0 ≤ 5000000) :
    Calls Tryd.prog 34 #[shaV aH nH cH N aT nT cT, .int .i64 k0] w fun e w' => e = .returned (.int .i64 (k0 + nH + nT)) ∧ w'.ownsRow B 3 1 (.slice aH nH cH) nH (I64 (marksI k0 nH)) ∧ w'.ownsRow B 5 1 (.slice aT nT cT) nT (U8 (marks (k0 + nH) nT)) ∧ Gr2 w w' (Value.ownBlock (.slice aH nH cH)) (Value.ownBlock (.slice aT nT cT)) := by
  have HA : Hid (Arr (w.alloc (.cells #[.slice aH nH cH, .int .i64 N, .slice aT nT cT] 27)) w.heap.size 27 [.slice aH nH cH, .int .i64 N, .slice aT nT cT]) := Arr.new _ _ _
  go_enter Tryd.func34, Tryd.ntmps34
  go_wp2_with fail
  refine (markI B nH _ k0 hs _ (oh.alloc _) hn h0 (by omega)).mono ?_
  rintro e w1 ⟨rfl, oh1, g1⟩
  have ot1 := own_kept (ot.alloc (.cells #[.slice aH nH cH, .int .i64 N, .slice aT nT cT] 27)) g1 ap
  have hA1 : Arr w1 w.heap.size 27 [.slice aH nH cH, .int .i64 N, .slice aT nT cT] := by
    unfold Arr
    rw [g1.block w.heap.size (by simp) (fun e => by have := (oh.lt _ e.symm).2; omega)]
    exact HA.out
  have c2 := hA1.cell 2
  simp at c2
  go_wp2_with fail
  refine (markB B nT _ (k0 + nH) ts _ ot1 hm (by omega) (by omega)).mono ?_
  rintro e w2 ⟨rfl, ot2, g2⟩
  have oh2 := own_kept oh1 g2 ap.symm
  have GG : Gr2 w w2 (Value.ownBlock (.slice aH nH cH)) (Value.ownBlock (.slice aT nT cT)) :=
    ⟨g2.os.trans g1.os, g2.tape.trans g1.tape, g2.output.trans g1.output, Nat.le_trans (by simp) (Nat.le_trans g1.size g2.size), fun i hi n1 n2 => by
      have hi1 : i < (w.alloc (.cells #[.slice aH nH cH, .int .i64 N, .slice aT nT cT] 27)).heap.size := by simp; omega
      rw [g2.block i (Nat.lt_of_lt_of_le hi1 g1.size) n2, g1.block i hi1 n1, heap_alloc_old _ _ hi]⟩
  clear g1 g2 c2 hA1 HA ot1 oh1
  go_wp2
  go_ret
  exact ⟨rfl, oh2, ot2, GG⟩

set_option maxHeartbeats 1000000 in
theorem heldShaC (aH : Option Addr) (nH cH : Nat) (N : Int) (aT : Option Addr) (nT cT : Nat) (k0 : Int) (w : World) (oh : Is w aH nH cH (marksI k0 nH)) (ot : Bs w aT nT cT (marks (k0 + nH) nT))
    (hn : nH ≤ 2097152) (hm : nT ≤ 2097152) (h0 : 0 ≤ k0) (h1 : k0 ≤ 5000000) :
    Calls Tryd.prog 35 #[shaV aH nH cH N aT nT cT, .int .i64 k0] w fun e w' => e = .returned (.int .i64 (k0 + nH + nT)) ∧ Below w.heap.size w w' := by
  have HB : Hid (Below w.heap.size w (w.alloc (.cells #[.slice aH nH cH, .int .i64 N, .slice aT nT cT] 27))) := (Below.refl _ _).alloc (Nat.le_refl _) _
  have l1 : ¬ (k0 + (nH : Int) < 0) := by omega
  have l2 : ¬ (k0 + (nH : Int) + (nT : Int) < 0) := by omega
  go_enter Tryd.func35, Tryd.ntmps35
  go_wp2_with fail
  refine (heldI aH nH cH k0 _ (oh.below HB.out) hn h0 (by omega)).mono ?_
  rintro e w1 ⟨rfl, rfl⟩
  go_wp2_with fail
  refine (heldB aT nT cT (k0 + nH) _ (ot.below HB.out) hm (by omega) (by omega)).mono ?_
  rintro e w2 ⟨rfl, rfl⟩
  go_wp2
  go_ret
  exact ⟨rfl, HB.out⟩
end Go.Proofs.YtgapfkiceolceaaDoor
