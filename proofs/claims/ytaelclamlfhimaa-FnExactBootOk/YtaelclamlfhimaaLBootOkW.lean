/-
  What is proved here: the exact law of BootOk returns true at every argument, and writes into nothing that was there.
-/
import Derived.Test.YtaelclamlfhimaaC0k
import Derived.Test.YtaelclamlfhimaaC0l
import Derived.Test.YtaelclamlfhimaaLarg10
namespace Go.Proofs.Ytaelclamlfhimaa
set_option maxRecDepth 100000
open Go.RowKit
set_option linter.unusedVariables false

set_option maxHeartbeats 4000000 in
theorem walk_fnExactBootOk (w : World) (b n f : Int) (t : Bool) (i o : Int) (hb : I64R b) (hn : I64R n) (hf : I64R f) (hi : I64R i) (ho : I64R o) :
    Calls Try.prog 9 #[btV b n f t i o] w fun e w' => e = .returned (.bool true) ∧ Below w.heap.size w w' := by
  obtain ⟨V, hV⟩ : ∃ V, V = w.alloc (.cells #[.int .i64 b, .int .i64 n, .int .i64 f, .bool t, .int .i64 i, .int .i64 o] 50) := ⟨_, rfl⟩
  have B : Below w.heap.size w V := by rw [hV]; exact (Below.refl _ _).alloc (Nat.le_refl _) _
  have A : Arr V w.heap.size 50 [.int .i64 b, .int .i64 n, .int .i64 f, .bool t, .int .i64 i, .int .i64 o] := by rw [hV]; exact Arr.new _ _ _
  obtain ⟨R, hR⟩ : ∃ R, decide (btOk b n f t i o) = R := ⟨_, rfl⟩
  have hRR : (R != R) = false := by simp
  have HR : Hid _ := hR
  clear hR
  have c0 := A.cell 0
  have c1 := A.cell 1
  have c2 := A.cell 2
  have c3 := A.cell 3
  have c4 := A.cell 4
  have c5 := A.cell 5
  simp at c0 c1 c2 c3 c4 c5
  go_enter Try.func9, Try.ntmps9
  go_upto_region 1 with fail
  rw [← hV]
  clear hV
  go_wp2_with fail
  refine (toBootC b n f t i o _).mono ?_
  rintro e w1 ⟨rfl, hb⟩
  clear c0 c1 c2 c3 c4 c5
  replace A := A.kept hb
  replace B := B.trans (hb.mono B.size)
  clear hb
  have c0 := A.cell 0
  have c1 := A.cell 1
  have c2 := A.cell 2
  have c3 := A.cell 3
  have c4 := A.cell 4
  have c5 := A.cell 5
  simp at c0 c1 c2 c3 c4 c5
  go_wp2_with fail
  refine (specBootOk b n f t i o _).mono ?_
  rintro e w2 ⟨rfl, hb⟩
  clear c0 c1 c2 c3 c4 c5
  replace A := A.kept hb
  replace B := B.trans (hb.mono B.size)
  clear hb
  have c0 := A.cell 0
  have c1 := A.cell 1
  have c2 := A.cell 2
  have c3 := A.cell 3
  have c4 := A.cell 4
  have c5 := A.cell 5
  simp at c0 c1 c2 c3 c4 c5
  rw [HR.out]
  go_wp2_with fail
  refine (toBootC b n f t i o _).mono ?_
  rintro e w3 ⟨rfl, hb⟩
  clear c0 c1 c2 c3 c4 c5
  replace A := A.kept hb
  replace B := B.trans (hb.mono B.size)
  clear hb
  have c0 := A.cell 0
  have c1 := A.cell 1
  have c2 := A.cell 2
  have c3 := A.cell 3
  have c4 := A.cell 4
  have c5 := A.cell 5
  simp at c0 c1 c2 c3 c4 c5
  go_wp2_with fail
  refine (implBootOk b n f t i o _).mono ?_
  rintro e w4 ⟨rfl, hb⟩
  clear c0 c1 c2 c3 c4 c5
  replace A := A.kept hb
  replace B := B.trans (hb.mono B.size)
  clear hb
  have c0 := A.cell 0
  have c1 := A.cell 1
  have c2 := A.cell 2
  have c3 := A.cell 3
  have c4 := A.cell 4
  have c5 := A.cell 5
  simp at c0 c1 c2 c3 c4 c5
  rw [HR.out]
  go_wp2
  go_ret
  exact ⟨rfl, B⟩
end Go.Proofs.Ytaelclamlfhimaa
