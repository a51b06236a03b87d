/-
  What is proved here: what the laws' toReply and eqReply answer.
-/
import Derived.Test.YtgfjbaigmkdbcaaDoorArr
import Derived.Test.YtgfjbaigmkdbcaaDoorRv
namespace Go.Proofs.YtgfjbaigmkdbcaaDoor
open Go.RowKit
set_option maxRecDepth 100000
set_option maxHeartbeats 1000000

theorem toReplyC (k b n f : Int) (w : World) : Calls Tryd.prog 23 #[rcV k b n f] w fun e w' => e = .returned (rcV k b n f) ∧ Below w.heap.size w w' := by
  have B : Hid (∀ o1 o2 o3 : Obj, Below w.heap.size w (((w.alloc o1).alloc o2).alloc o3)) := fun o1 o2 o3 => (((Below.refl _ _).alloc (Nat.le_refl _) _).alloc (by simp) _).alloc (by simp; omega) _
  go_enter Tryd.func23, Tryd.ntmps23
  go_wp2
  exact bodyPost_ret (results_cell_row rfl _ _ (w.heap.size + 1) 54 _ (0, 0) _ rfl (heap_mid _ _ _ _) Tryd.underlying54 rfl (by kernel_rfl)) rfl ⟨rfl, B.out _ _ _⟩
end Go.Proofs.YtgfjbaigmkdbcaaDoor
