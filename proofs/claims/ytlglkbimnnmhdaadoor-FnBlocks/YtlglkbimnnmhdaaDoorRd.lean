/-
  What is proved here: the contract of the program's method round: one round of SHA-256 on the eight words behind a pointer; nothing else that was there turns. Where the program's two tables hold what its text lays into them.
-/
import Derived.Test.YtlglkbimnnmhdaaDoorTn
namespace Go.Proofs.YtlglkbimnnmhdaaDoor
open Go.RowKit

theorem grown_set {w0 w : World} {g : Nat} (h : w0.grownBy w (some g)) (j : Nat) (v : Value) : w0.grownBy (w.setCell ⟨g, j, none⟩ v) (some g) :=
  ⟨h.os, h.tape, h.output, by simpa using h.size, fun i hi hne => (heap_setCell_other _ _ _ _ (fun e => hne (by rw [e]))).trans (h.block i hi hne)⟩

theorem grown_set8 {w0 w : World} {g : Nat} (h : w0.grownBy w (some g)) (l0 l1 l2 l3 l4 l5 l6 l7 : Value) :
    w0.grownBy ((((((((w.setCell ⟨g, 0, none⟩ l0).setCell ⟨g, 1, none⟩ l1).setCell ⟨g, 2, none⟩ l2).setCell ⟨g, 3, none⟩ l3).setCell ⟨g, 4, none⟩ l4).setCell ⟨g, 5, none⟩ l5).setCell ⟨g, 6, none⟩ l6).setCell ⟨g, 7, none⟩ l7) (some g) :=
  grown_set (grown_set (grown_set (grown_set (grown_set (grown_set (grown_set (grown_set h 0 l0) 1 l1) 2 l2) 3 l3) 4 l4) 5 l5) 6 l6) 7 l7

theorem grown_of_below {w w' : World} (h : Below w.heap.size w w') (r : Option Nat) : w.grownBy w' r := ⟨h.os, h.tape, h.output, h.size, fun i hi _ => h.block i hi⟩

set_option maxHeartbeats 2000000 in
theorem roundC (g : Nat) (a b c d e f i h kw : Int) (w : World) (ht : Tabs w) (hA : Arr w g 58 (U32 [a, b, c, d, e, f, i, h])) :
    Calls Tryd.prog 70 #[.pointer (some ⟨g, 0, none⟩), .int .u32 kw] w fun en w' => en = .returned (.tuple #[]) ∧ Arr w' g 58 (U32 (stp8 a b c d e f i h kw)) ∧ w.grownBy w' (some g) := by
  have c0 := hA.u32 0 (by simp)
  have c1 := hA.u32 1 (by simp)
  have c2 := hA.u32 2 (by simp)
  have c3 := hA.u32 3 (by simp)
  have c4 := hA.u32 4 (by simp)
  have c5 := hA.u32 5 (by simp)
  have c6 := hA.u32 6 (by simp)
  have c7 := hA.u32 7 (by simp)
  simp at c0 c1 c2 c3 c4 c5 c6 c7
  have hsg : IntKind.u32.signed = false := rfl
  go_enter Tryd.func70, Tryd.ntmps70
  go_wp2
  go_quiet (fail)
  go_wp2
  go_quiet (fail)
  go_wp2_with fail
  rename_i q1 q2
  refine (turn1 e _ (ht.below (bel_drewN _ _))).mono ?_
  rintro en w1 ⟨rfl, hb1⟩
  have B1 : Below w.heap.size w w1 := (bel_drewN w _).trans hb1
  clear hb1 c0 c1 c2 c3 c4 c5 c6 c7
  go_wp2_with fail
  refine (turn0 a _ (ht.below B1)).mono ?_
  rintro en w2 ⟨rfl, hb2⟩
  have B2 := B1.trans (hb2.mono B1.size)
  have A2 := hA.kept B2
  have c0 := A2.u32 0 (by simp)
  have c1 := A2.u32 1 (by simp)
  have c2 := A2.u32 2 (by simp)
  have c3 := A2.u32 3 (by simp)
  have c4 := A2.u32 4 (by simp)
  have c5 := A2.u32 5 (by simp)
  have c6 := A2.u32 6 (by simp)
  have c7 := A2.u32 7 (by simp)
  have f0 := A2.frozen
  simp at c0 c1 c2 c3 c4 c5 c6 c7
  have G2 := grown_of_below B2 (some g)
  clear hA ht B1 hb2 B2
  go_wp2
  go_end0
  refine ⟨rfl, ?_, grown_set8 G2 _ _ _ _ _ _ _ _⟩
  exact A2.set8 _ _ _ _ _ _ _ _
end Go.Proofs.YtlglkbimnnmhdaaDoor
