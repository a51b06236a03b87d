/-
  What is proved here: the exact law of NumLen returns true at every number, and writes into nothing that was there.
-/
import Derived.Test.YtjgoliajgfeehaaNum
namespace Go.Proofs.Ytjgoliajgfeehaa
open Go.RowKit
open Ma

theorem walk_fnExactNumLen (w : World) (a0 : Int) (_w0 : (Lit.int .i64 a0).wf = true) :
    Calls Try.prog 10 #[.int .i64 a0] w fun e w' => e = .returned (.bool true) ∧ Below w.heap.size w w' := by
  have hne : (((numB a0).length : Int) != ((numB a0).length : Int)) = false := by simp
  go_enter Try.func10, Try.ntmps10
  go_wp2_with fail
  refine (specLen a0 _).mono ?_
  rintro e w1 ⟨rfl, hb1⟩
  go_wp2_with fail
  refine (implLen a0 _).mono ?_
  rintro e w2 ⟨rfl, hb2⟩
  go_wp2
  go_ret
  exact ⟨rfl, hb1.trans (hb2.mono hb1.size)⟩
end Go.Proofs.Ytjgoliajgfeehaa
