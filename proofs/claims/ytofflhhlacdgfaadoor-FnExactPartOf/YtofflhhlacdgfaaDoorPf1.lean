/-
  What is proved here: a part that a law marks, and whether its marks are kept.
-/
import Derived.Test.YtofflhhlacdgfaaDoorJP19
import Derived.Test.YtofflhhlacdgfaaDoorJP11
namespace Go.Proofs.YtofflhhlacdgfaaDoor
open Go.RowKit
set_option maxRecDepth 100000
set_option maxHeartbeats 4000000
set_option linter.unusedVariables false

theorem markPartC (B n : Nat) (x0 x1 x2 : Int) (a : Option Addr) (c : Nat) (k0 : Int) (xs : List Int) (w : World) (hown : w.ownsRow B 5 1 (.slice a n c) n (U8 xs)) (hn : n ≤ 2097152) (h0 : 0 ≤ k0) (h1 : k0 ≤ 4611686018427387904) :
    Calls Tryd.prog 41 #[partV x0 x1 x2 a n c, .int .i64 k0] w fun e w' => e = .returned (.int .i64 (k0 + n)) ∧ w'.ownsRow B 5 1 (.slice a n c) n (U8 (marks k0 n)) ∧ w.grownBy w' (Value.ownBlock (.slice a n c)) := by
  obtain ⟨V, hV⟩ : ∃ V, V = w.alloc (.cells #[.int .i64 x0, .int .i64 x1, .int .i64 x2, .slice a n c] 45) := ⟨_, rfl⟩
  have A : Arr V w.heap.size 45 [.int .i64 x0, .int .i64 x1, .int .i64 x2, .slice a n c] := by rw [hV]; exact Arr.new _ _ _
  have HO : Hid (V.ownsRow B 5 1 (.slice a n c) n (U8 xs)) := by unfold Hid; rw [hV]; exact World.ownsRow.alloc hown _
  have HG : Hid (w.grownBy V (Value.ownBlock (.slice a n c))) := by unfold Hid; rw [hV]; exact World.grownBy_alloc _ _ _
  have c3 := A.cell 3
  simp at c3
  clear A hown
  go_enter Tryd.func41, Tryd.ntmps41
  go_upto_region 1 with fail
  rw [← hV]
  clear hV
  go_wp2_with fail
  refine (markB B n (.slice a n c) k0 xs _ HO.out hn h0 h1).mono ?_
  rintro e w1 ⟨rfl, o, g⟩
  have HO1 : Hid _ := o
  have HG1 : Hid (w.grownBy w1 (Value.ownBlock (.slice a n c))) := grown_trans HG.out g
  clear c3 o g HO HG
  go_wp2
  go_ret
  exact ⟨rfl, HO1.out, HG1.out⟩
theorem heldPartC (n : Nat) (x0 x1 x2 : Int) (a : Option Addr) (c : Nat) (k0 : Int) (w : World) (h : Bs w a n c (marks k0 n)) (hn : n ≤ 2097152) (h0 : 0 ≤ k0) (h1 : k0 ≤ 4611686018427387904) :
    Calls Tryd.prog 42 #[partV x0 x1 x2 a n c, .int .i64 k0] w fun e w' => e = .returned (.int .i64 (k0 + n)) ∧ Below w.heap.size w w' := by
  obtain ⟨V, hV⟩ : ∃ V, V = w.alloc (.cells #[.int .i64 x0, .int .i64 x1, .int .i64 x2, .slice a n c] 45) := ⟨_, rfl⟩
  have A : Arr V w.heap.size 45 [.int .i64 x0, .int .i64 x1, .int .i64 x2, .slice a n c] := by rw [hV]; exact Arr.new _ _ _
  have B : Below w.heap.size w V := by rw [hV]; exact (Below.refl _ _).alloc (Nat.le_refl _) _
  have HB : Hid (Bs V a n c (marks k0 n)) := h.below B
  have c3 := A.cell 3
  simp at c3
  have hk : ¬ (k0 + (n : Int) < 0) := by omega
  clear A h
  go_enter Tryd.func42, Tryd.ntmps42
  go_upto_region 1 with fail
  rw [← hV]
  clear hV
  go_wp2_with fail
  refine (heldB a n c k0 _ HB.out hn h0 h1).mono ?_
  rintro e w1 ⟨rfl, hw⟩
  rw [hw]
  clear c3 hw HB
  go_wp2
  go_ret
  exact ⟨rfl, B⟩
end Go.Proofs.YtofflhhlacdgfaaDoor
