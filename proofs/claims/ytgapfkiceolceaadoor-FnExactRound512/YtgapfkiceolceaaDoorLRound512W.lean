/-
  What is proved here: the exact law of Round512 returns true at every number, and writes into nothing that was there; where the program's Round512 answers the constants (the hypothesis HI0).
-/
import Derived.Test.YtgapfkiceolceaaDoorWr
namespace Go.Proofs.YtgapfkiceolceaaDoor
open Go.RowKit

set_option maxHeartbeats 1000000 in
theorem walk_fnExactRound512 (w : World) (i : Int)
    (HI0 : ∀ (W : World), Below w.heap.size w W → Calls Tryd.prog 31 #[.int .i64 i] W fun e w' => e = .returned (.tuple #[.int .i64 (r5h i), .int .i64 (r5l i), .bool (r5o i)]) ∧ Below W.heap.size W w') :
    Calls Tryd.prog 13 #[.int .i64 i] w fun e w' => e = .returned (.bool true) ∧ Below w.heap.size w w' := by
  have HS := specRound512 i
  generalize r5h i = H at HS HI0
  generalize r5l i = L at HS HI0
  generalize r5o i = R at HS HI0
  have h1 : (H != H) = false := by simp
  have h2 : (L != L) = false := by simp
  have h3 : (R != R) = false := by simp
  have HS' : Hid _ := HS
  have HI' : Hid _ := HI0
  clear HS HI0
  go_enter Tryd.func13, Tryd.ntmps13
  go_wp2_with fail
  refine (HS'.out _).mono ?_
  rintro e w1 ⟨rfl, b1⟩
  go_wp2_with fail
  refine (HI'.out _ b1).mono ?_
  rintro e w2 ⟨rfl, b2⟩
  have fr := b1.trans (b2.mono b1.size)
  clear b1 b2
  go_wp2
  go_ret
  exact ⟨rfl, fr⟩
end Go.Proofs.YtgapfkiceolceaaDoor
