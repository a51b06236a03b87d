/-
  What is proved here: the contract of the program's method list on limbs; what an answer of the field in a row of a given type is.
-/
import Derived.Test.YtpchdfdeomhakaaJn
namespace Go.Proofs.Ytpchdfdeomhakaa
open Go.RowKit
set_option maxRecDepth 100000

/-- An answer that is a number of the field, in memory of its own, in a row of type ty. -/
def FeT (ty : TypeId) (w w' : World) (v : Value) (l : List Int) : Prop := ∃ a c, v = .agg #[.slice a l.length c] ∧ w'.ownsRow w.heap.size ty 1 (.slice a l.length c) l.length (I64 l)
theorem feT_nil (ty : TypeId) (w w' : World) : FeT ty w w' (.agg #[.slice none 0 0]) [] := ⟨none, 0, rfl, World.ownsRow_nil _ _ _ _⟩
theorem feT_16 {ty : TypeId} {w w' : World} {a : Option Addr} {c : Nat} {l : List Int} (hl : l.length = 16) (h : w'.ownsRow w.heap.size ty 1 (.slice a 16 c) 16 (I64 l)) : FeT ty w w' (.agg #[.slice a 16 c]) l := ⟨a, c, by rw [hl], by rw [hl]; exact h⟩

set_option maxHeartbeats 1000000 in
theorem implList (l : List Int) (w : World) (hl : l.length = 16) :
    Calls Try.prog 12 #[.agg (I64 l).toArray] w fun e w' => ∃ a c, e = .returned (.slice a 16 c) ∧ w'.ownsRow w.heap.size 34 1 (.slice a 16 c) 16 (I64 l) ∧ Below w.heap.size w w' := by
  obtain ⟨W, hW⟩ : ∃ W, W = w.alloc (.cells (I64 l).toArray 34) := ⟨_, rfl⟩
  have g0 : Arr W w.heap.size 34 (I64 l) := by rw [hW]; exact Arr.new _ _ _
  have gB : Below w.heap.size w W := by rw [hW]; exact (Below.refl _ _).alloc (Nat.le_refl _) _
  obtain ⟨A, hA⟩ : ∃ A, A = (I64 l).toArray := ⟨_, rfl⟩
  rw [← hA] at hW ⊢
  have HA : Hid _ := hW ▸ g0
  have HB : Hid _ := hW ▸ gB
  clear hW g0 gB hA
  go_enter Try.func12, Try.ntmps12
  go_wp2
  go_ret
  refine ⟨some ⟨w.heap.size, 0, none⟩, 16, rfl, ⟨by simp [hl], .inr ⟨w.heap.size, 16, _, rfl, Nat.le_refl _, HA.out, Nat.le_refl _, by unfold maxLen; omega, by simp [hl], by rw [List.take_of_length_le (by simp [hl])]⟩⟩, HB.out⟩

end Go.Proofs.Ytpchdfdeomhakaa
