/-
  What is proved here: what both sides' CutOk answer.
-/
import Derived.Test.YtgfjbaigmkdbcaaGc
import Derived.Test.YtgfjbaigmkdbcaaCin
import Derived.Test.YtgfjbaigmkdbcaaRv
import Derived.Deep.CutRange
namespace Go.Proofs.Ytgfjbaigmkdbcaa
open Go.RowKit
set_option maxRecDepth 100000
set_option maxHeartbeats 4000000
set_option linter.unusedVariables false

abbrev ctOkP (m : CutM) : Prop := (-1 ≤ m.o ∧ m.o ≤ 10000) ∧ m.m.length ≤ 256
def ctOk (m : CutM) : Bool := decide (ctOkP m)
theorem specCutOk (m : CutM) (p : CutA) (w : World) (h : CutRd w p m) :
    Calls Try.prog 53 #[cutV m p] w fun e w' => e = .returned (.bool (ctOk m)) ∧ Below w.heap.size w w' := by
  obtain ⟨R, hR, HT, HF⟩ := by_dec0 (ctOkP m)
  unfold ctOk
  rw [hR]
  clear hR
  have B : Below w.heap.size w (w.alloc (.cells #[.int .i64 m.o, .slice p.m.a m.m.length p.m.c] 78)) := (Below.refl _ _).alloc (Nat.le_refl _) _
  by_cases h1 : -1 ≤ m.o
  case neg =>
    go_enter Try.func53, Try.ntmps53
    go_wp2
    go_ret
    exact ⟨by rw [HF.out (by omega)]; rfl, B⟩
  by_cases h2 : m.o ≤ 10000
  case neg =>
    go_enter Try.func53, Try.ntmps53
    go_wp2
    go_ret
    exact ⟨by rw [HF.out (by omega)]; rfl, B⟩
  by_cases h3 : (m.m.length : Int) ≤ 256
  all_goals
    go_enter Try.func53, Try.ntmps53
    go_wp2
    go_ret
    exact ⟨by first | (rw [HF.out (by omega)]; rfl) | (rw [HT.out (by omega)]; rfl), B⟩
theorem implCutOk (m : CutM) (p : CutA) (w : World) (h : CutRd w p m) :
    Calls Try.prog 55 #[cutV m p] w fun e w' => e = .returned (.bool (ctOk m)) ∧ Below w.heap.size w w' := by
  obtain ⟨R, hR, HT, HF⟩ := by_dec0 (ctOkP m)
  unfold ctOk
  rw [hR]
  clear hR
  have B : Below w.heap.size w (w.alloc (.cells #[.int .i64 m.o, .slice p.m.a m.m.length p.m.c] 78)) := (Below.refl _ _).alloc (Nat.le_refl _) _
  have HB : Hid _ := B
  clear B
  go_enter Try.func55, Try.ntmps55
  go_wp2_with fail
  refine (implIsIn m.o (-1) 10000 _).mono ?_
  rintro e w1 ⟨rfl, hw⟩
  rw [hw]
  clear hw
  by_cases h1 : -1 ≤ m.o ∧ m.o ≤ 10000
  case neg =>
    rw [decide_eq_false h1]
    go_wp2
    go_ret
    exact ⟨by rw [HF.out (by omega)]; rfl, HB.out⟩
  rw [decide_eq_true h1]
  by_cases h3 : (m.m.length : Int) ≤ 256
  · have g3 : decide ((m.m.length : Int) ≤ 256) = true := decide_eq_true h3
    have HN := HT.out ⟨h1, by omega⟩
    go_wp2
    go_ret
    exact ⟨by rw [HN]; rfl, HB.out⟩
  · have g3 : decide ((m.m.length : Int) ≤ 256) = false := decide_eq_false h3
    have HN := HF.out (by omega)
    go_wp2
    go_ret
    exact ⟨by rw [HN]; rfl, HB.out⟩
end Go.Proofs.Ytgfjbaigmkdbcaa
