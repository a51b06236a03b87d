/-
  What is proved here: the contract of the specification's l2round: it tells the constant of a round.
-/
import Derived.Test.YtofflhhlacdgfaaDoorJP8
namespace Go.Proofs.YtofflhhlacdgfaaDoor
set_option maxRecDepth 100000
open Go.RowKit

set_option maxHeartbeats 1000000 in
theorem specRound (k : Nat) (hk : k < 64) (w : World) :
    Calls Tryd.prog 146 #[.int .i64 (k : Int)] w fun e w' => e = .returned (.int .u32 (KS.getD k 0)) ∧ Below w.heap.size w w' := by
  have hA := Arr.new w (U32 Z64) 158
  have hB : Below w.heap.size w (w.alloc (.cells (U32 Z64).toArray 158)) := (Below.refl _ _).alloc (Nat.le_refl _) _
  have hA2 := hA.row (U32 KS)
  have hB2 := setRow_below hB w.heap.size (U32 KS).toArray (Nat.le_refl _)
  have hck := hA2.u32 k (by rw [KS_len]; exact hk)
  obtain ⟨y, hy⟩ : ∃ y, y = KS.getD k 0 := ⟨_, rfl⟩
  rw [← hy] at hck
  have hck2 : ((w.alloc (.cells #[.int .u32 0, .int .u32 0, .int .u32 0, .int .u32 0, .int .u32 0, .int .u32 0, .int .u32 0, .int .u32 0, .int .u32 0, .int .u32 0, .int .u32 0, .int .u32 0, .int .u32 0, .int .u32 0, .int .u32 0, .int .u32 0, .int .u32 0, .int .u32 0, .int .u32 0, .int .u32 0, .int .u32 0, .int .u32 0, .int .u32 0, .int .u32 0, .int .u32 0, .int .u32 0, .int .u32 0, .int .u32 0, .int .u32 0, .int .u32 0, .int .u32 0, .int .u32 0, .int .u32 0, .int .u32 0, .int .u32 0, .int .u32 0, .int .u32 0, .int .u32 0, .int .u32 0, .int .u32 0, .int .u32 0, .int .u32 0, .int .u32 0, .int .u32 0, .int .u32 0, .int .u32 0, .int .u32 0, .int .u32 0, .int .u32 0, .int .u32 0, .int .u32 0, .int .u32 0, .int .u32 0, .int .u32 0, .int .u32 0, .int .u32 0, .int .u32 0, .int .u32 0, .int .u32 0, .int .u32 0, .int .u32 0, .int .u32 0, .int .u32 0, .int .u32 0] 158)).setRow w.heap.size (U32 KS).toArray).cell? ⟨w.heap.size, k, none⟩ = some (.int .u32 y) := hck
  have HY : Hid _ := hy
  have HB : Hid _ := hB2
  clear hy hA2 hB2 hB hck
  have hk64 : (k : Int) < 64 := by omega
  go_enter Tryd.func146, Tryd.ntmps146
  go_wp2_with (first
    | (refine wpList_buildTo rfl 158 _ rfl (U32 KS).toArray (by kernel_rfl) ?_)
    | (refine wpList_store_row rfl 158 _ _ rfl w.heap.size (U32 KS).toArray rfl rfl 158 (U32 Z64).toArray hA (by kernel_rfl) (by kernel_rfl) (by kernel_rfl) ?_))
  go_ret
  refine ⟨?_, HB.out⟩
  show Ending.returned (.int .u32 y) = _
  rw [HY.out]
  rfl
end Go.Proofs.YtofflhhlacdgfaaDoor
