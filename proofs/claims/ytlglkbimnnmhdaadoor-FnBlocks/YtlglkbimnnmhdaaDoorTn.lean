/-
  What is proved here: contracts of the functions that turn a word of 32 bits (the specification's l2turn and l2round; bits.RotateLeft32, the program's turnRight, shaTurn and shaShift), where the program's two tables hold what its text lays into them.
-/
import Derived.Test.YtlglkbimnnmhdaaDoorShaM
import Derived.Deep.QuietTactic
import Derived.BigQuiet
import Derived.Deep.Light
import Derived.Deep.RegionWith
namespace Go.Proofs.YtlglkbimnnmhdaaDoor
open Go.RowKit

/-- The two tables of the program hold what its text lays into them. -/
structure Tabs (w : World) : Prop where
  tt : ∀ j, j < 12 → w.cell? ⟨2, j, none⟩ = some (.int .i64 ([2, 13, 22, 6, 11, 25, 7, 18, 3, 17, 19, 10].getD j 0))
  tk : ∀ j, j < 64 → w.cell? ⟨1, j, none⟩ = some (.int .u32 (KS.getD j 0))
theorem Tabs.size {w : World} (h : Tabs w) : 2 < w.heap.size := World.block_lt_of_cell? w _ (h.tt 0 (by omega))
theorem Tabs.below {w w' : World} (h : Tabs w) (hb : Below w.heap.size w w') : Tabs w' :=
  ⟨fun j hj => (hb.cell (p := ⟨2, j, none⟩) h.size).trans (h.tt j hj), fun j hj => (hb.cell (p := ⟨1, j, none⟩) (by have := h.size; show 1 < _; omega)).trans (h.tk j hj)⟩

set_option maxHeartbeats 400000 in
theorem specTurn (x : Int) (n : Nat) (hn : 0 < n) (hn2 : n < 32) (m : Int) (hm : m = (n : Int)) (w : World) :
    Calls Tryd.prog 71 #[.int .u32 x, .int .i64 m] w fun e w' => e = .returned (.int .u32 (rot x n)) ∧ ∃ q, w' = w.drewN q := by
  subst hm
  go_enter Tryd.func71, Tryd.ntmps71
  go_wp2
  go_quiet (fail)
  go_wp2
  go_ret
  exact ⟨rfl, _, rfl⟩

set_option maxHeartbeats 400000 in
theorem rotL (x : Int) (n : Nat) (hn : 0 < n) (hn2 : n < 32) (w : World) :
    Calls Tryd.prog 76 #[.int .u32 x, .int .i64 (-(n : Int))] w fun e w' => e = .returned (.int .u32 (rot x n)) ∧ w' = w := by
  have hk := neg_mask n hn hn2
  obtain ⟨m, hm⟩ : ∃ m : Nat, m = 32 - n := ⟨_, rfl⟩
  rw [← hm] at hk
  have e32 : IntKind.u64.wrap (32 - (m : Int)) = (n : Int) := by simp [IntKind.wrap, IntKind.signed, IntKind.bits]; omega
  have hm2 : m < 32 := by omega
  have HM : Hid _ := hm
  clear hm
  go_enter Tryd.func76, Tryd.ntmps76
  go_wp2
  go_ret
  refine ⟨?_, rfl⟩
  unfold rot
  rw [← HM.out, bits_or_comm]
  rfl

set_option maxHeartbeats 400000 in
theorem turnR (x : Int) (n : Nat) (hn : 0 < n) (hn2 : n < 32) (m : Int) (hm : m = (n : Int)) (w : World) :
    Calls Tryd.prog 75 #[.int .u32 x, .int .i64 m] w fun e w' => e = .returned (.int .u32 (rot x n)) ∧ w' = w := by
  subst hm
  go_enter Tryd.func75, Tryd.ntmps75
  go_wp2_with fail
  refine (rotL x n hn hn2 _).mono ?_
  rintro e w' ⟨rfl, rfl⟩
  go_wp2
  go_ret
  exact ⟨rfl, rfl⟩

set_option maxHeartbeats 1000000 in
theorem turn0 (x : Int) (w : World) (ht : Tabs w) :
    Calls Tryd.prog 74 #[.int .u32 x, .int .i64 0] w fun e w' => e = .returned (.int .u32 (bS0 x)) ∧ Below w.heap.size w w' := by
  have hsz := ht.size
  have c0 := ht.tt 0 (by omega)
  have c1 := ht.tt 1 (by omega)
  have c2 := ht.tt 2 (by omega)
  simp at c0 c1 c2
  clear ht
  go_enter Tryd.func74, Tryd.ntmps74
  go_wp2
  go_quiet (first | (go_at_call_of 75 (Value.int IntKind.i64 22); refine Calls.quiet_of_same (turnR x 22 (by omega) (by omega) _ rfl _)) | (go_at_call_of 75 (Value.int IntKind.i64 13); refine Calls.quiet_of_same (turnR x 13 (by omega) (by omega) _ rfl _)) | (go_at_call_of 75 (Value.int IntKind.i64 2); refine Calls.quiet_of_same (turnR x 2 (by omega) (by omega) _ rfl _)))
  go_wp2
  go_ret
  exact ⟨rfl, bel_dN ((Below.refl _ _).alloc (Nat.le_refl _) _) _⟩

set_option maxHeartbeats 1000000 in
theorem turn1 (x : Int) (w : World) (ht : Tabs w) :
    Calls Tryd.prog 74 #[.int .u32 x, .int .i64 1] w fun e w' => e = .returned (.int .u32 (bS1 x)) ∧ Below w.heap.size w w' := by
  have hsz := ht.size
  have c0 := ht.tt 3 (by omega)
  have c1 := ht.tt 4 (by omega)
  have c2 := ht.tt 5 (by omega)
  simp at c0 c1 c2
  clear ht
  go_enter Tryd.func74, Tryd.ntmps74
  go_wp2
  go_quiet (first | (go_at_call_of 75 (Value.int IntKind.i64 25); refine Calls.quiet_of_same (turnR x 25 (by omega) (by omega) _ rfl _)) | (go_at_call_of 75 (Value.int IntKind.i64 11); refine Calls.quiet_of_same (turnR x 11 (by omega) (by omega) _ rfl _)) | (go_at_call_of 75 (Value.int IntKind.i64 6); refine Calls.quiet_of_same (turnR x 6 (by omega) (by omega) _ rfl _)))
  go_wp2
  go_ret
  exact ⟨rfl, bel_dN ((Below.refl _ _).alloc (Nat.le_refl _) _) _⟩

set_option maxHeartbeats 1000000 in
theorem shift2 (x : Int) (w : World) (ht : Tabs w) :
    Calls Tryd.prog 73 #[.int .u32 x, .int .i64 2] w fun e w' => e = .returned (.int .u32 (sS0 x)) ∧ Below w.heap.size w w' := by
  have hsz := ht.size
  have c0 := ht.tt 6 (by omega)
  have c1 := ht.tt 7 (by omega)
  have c2 := ht.tt 8 (by omega)
  simp at c0 c1 c2
  clear ht
  go_enter Tryd.func73, Tryd.ntmps73
  go_wp2
  go_quiet (first | (go_at_call_of 75 (Value.int IntKind.i64 18); refine Calls.quiet_of_same (turnR x 18 (by omega) (by omega) _ rfl _)) | (go_at_call_of 75 (Value.int IntKind.i64 7); refine Calls.quiet_of_same (turnR x 7 (by omega) (by omega) _ rfl _)))
  go_wp2
  go_ret
  exact ⟨rfl, bel_dN ((Below.refl _ _).alloc (Nat.le_refl _) _) _⟩

set_option maxHeartbeats 1000000 in
theorem shift3 (x : Int) (w : World) (ht : Tabs w) :
    Calls Tryd.prog 73 #[.int .u32 x, .int .i64 3] w fun e w' => e = .returned (.int .u32 (sS1 x)) ∧ Below w.heap.size w w' := by
  have hsz := ht.size
  have c0 := ht.tt 9 (by omega)
  have c1 := ht.tt 10 (by omega)
  have c2 := ht.tt 11 (by omega)
  simp at c0 c1 c2
  clear ht
  go_enter Tryd.func73, Tryd.ntmps73
  go_wp2
  go_quiet (first | (go_at_call_of 75 (Value.int IntKind.i64 19); refine Calls.quiet_of_same (turnR x 19 (by omega) (by omega) _ rfl _)) | (go_at_call_of 75 (Value.int IntKind.i64 17); refine Calls.quiet_of_same (turnR x 17 (by omega) (by omega) _ rfl _)))
  go_wp2
  go_ret
  exact ⟨rfl, bel_dN ((Below.refl _ _).alloc (Nat.le_refl _) _) _⟩

end Go.Proofs.YtlglkbimnnmhdaaDoor
