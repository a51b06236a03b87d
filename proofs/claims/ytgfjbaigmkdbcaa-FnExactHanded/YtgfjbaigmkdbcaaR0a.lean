/-
  What is proved here: what the laws' toReply and eqReply answer.
-/
import Derived.Test.YtgfjbaigmkdbcaaArr
import Derived.Test.YtgfjbaigmkdbcaaRv
namespace Go.Proofs.Ytgfjbaigmkdbcaa
open Go.RowKit
set_option maxRecDepth 100000
set_option maxHeartbeats 1000000

theorem toReplyC (k b n f : Int) (w : World) : Calls Try.prog 124 #[rcV k b n f] w fun e w' => e = .returned (rcV k b n f) ∧ Below w.heap.size w w' := by
  have B : Hid (∀ o1 o2 o3 : Obj, Below w.heap.size w (((w.alloc o1).alloc o2).alloc o3)) := fun o1 o2 o3 => (((Below.refl _ _).alloc (Nat.le_refl _) _).alloc (by simp) _).alloc (by simp; omega) _
  go_enter Try.func124, Try.ntmps124
  go_wp2
  exact bodyPost_ret (results_cell_row rfl _ _ (w.heap.size + 1) 161 _ (0, 0) _ rfl (heap_mid _ _ _ _) Try.underlying161 rfl (by kernel_rfl)) rfl ⟨rfl, B.out _ _ _⟩
theorem eqReplyC (k b n f : Int) (w : World) : Calls Try.prog 125 #[rcV k b n f, rcV k b n f] w fun e w' => e = .returned (.bool true) ∧ Below w.heap.size w w' := by
  have B : Hid (∀ o1 o2 : Obj, Below w.heap.size w ((w.alloc o1).alloc o2)) := fun o1 o2 => ((Below.refl _ _).alloc (Nat.le_refl _) _).alloc (by simp) _
  have h1 : (k != k) = false := by simp
  have h2 : (b != b) = false := by simp
  have h3 : (n != n) = false := by simp
  have h4 : (f != f) = false := by simp
  go_enter Try.func125, Try.ntmps125
  go_wp2
  go_ret
  exact ⟨rfl, B.out _ _⟩
end Go.Proofs.Ytgfjbaigmkdbcaa
