/-
  What is proved here: what the laws' logs answers.
-/
import Derived.Test.YtjceajgefpinpaaC1c
import Derived.Test.YtjceajgefpinpaaZa0
import Derived.Laws.OwnMore
namespace Go.Proofs.Ytjceajgefpinpaa
open Go.RowKit
set_option maxRecDepth 100000
set_option maxHeartbeats 4000000
set_option linter.unusedVariables false

theorem implLogs (w : World) : Calls Try.prog 15 #[] w fun e w' => e = .returned (.bool true) ∧ Below w.heap.size w w' := by
  obtain ⟨L0, hL0⟩ : ∃ L0 : List Rc, L0 = [⟨1, 0, 1, 0⟩, ⟨2, 0, 3, 2⟩] := ⟨_, rfl⟩
  have hF : foT L0 = (⟨0, 3, 2, false, 0, 0⟩, true) := by
    rw [hL0, foT_of (by simp) (all_of (by
      intro r hr
      simp at hr
      rcases hr with rfl | rfl
      · exact .inl ⟨rfl, rfl, by dsimp only; omega, rfl⟩
      · exact .inr (.inl ⟨rfl, by dsimp only; omega, by dsimp only; omega, by dsimp only; omega⟩))) ⟨by simp, rfl, rfl⟩]
    rfl
  have hl0 : L0.length = 2 := by rw [hL0]; rfl
  obtain ⟨V, hV⟩ : ∃ V, V = w.alloc (.cells #[.int .i64 1, .int .i64 0, .int .i64 1, .int .i64 0, .int .i64 2, .int .i64 0, .int .i64 3, .int .i64 2] 29) := ⟨_, rfl⟩
  have HO : Hid (Rs V (some ⟨w.heap.size, 0, none⟩) 2 2 L0) := by
    have : V.ownsRow w.heap.size 29 4 (.slice (some ⟨w.heap.size, 0, none⟩) 2 2) 2 (FL L0) := by
      rw [hV, hL0]
      exact World.ownsRow_lit w #[.int .i64 1, .int .i64 0, .int .i64 1, .int .i64 0, .int .i64 2, .int .i64 0, .int .i64 3, .int .i64 2] 2 (Nat.le_refl _) (by unfold maxLen; omega) rfl
    exact rs_of_own this
  have BV : Below w.heap.size w V := by rw [hV]; exact (Below.refl _ _).alloc (Nat.le_refl _) _
  have HF : Hid (foT L0 = (⟨0, 3, 2, false, 0, 0⟩, true)) := hF
  clear hF hL0
  go_enter Try.func15, Try.ntmps15
  go_wp2_with fail
  rw [← hV]
  clear hV
  refine (implFold (some ⟨w.heap.size, 0, none⟩) 2 2 L0 _ HO.out (by omega)).mono ?_
  rintro e w2 ⟨rfl, hb⟩
  rw [HF.out]
  dsimp only [stV, btW]
  have HB : Hid (∀ o : Obj, Below w.heap.size w (w2.alloc o)) := fun o => (BV.trans (hb.mono BV.size)).alloc (BV.trans (hb.mono BV.size)).size _
  clear hb BV HO HF
  go_wp2
  go_ret
  exact ⟨rfl, HB.out _⟩
end Go.Proofs.Ytjceajgefpinpaa
