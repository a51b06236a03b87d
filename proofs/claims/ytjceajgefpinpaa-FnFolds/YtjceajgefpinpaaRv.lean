/-
  What is proved here: records and states as plain data; no program is spoken of.
-/
import Derived.Test.YtjceajgefpinpaaArr
import Derived.Test.YtjceajgefpinpaaApp
namespace Go.Proofs.Ytjceajgefpinpaa
open Go.RowKit
set_option maxRecDepth 100000
set_option maxHeartbeats 1000000

theorem by_dec0 (P : Prop) [Decidable P] : ∃ R : Bool, decide P = R ∧ Hid (P → R = true) ∧ Hid (¬ P → R = false) := ⟨_, rfl, decide_eq_true, decide_eq_false⟩
/-- A record that may be. -/
abbrev rcOk (k b n f : Int) : Prop := (k = 1 ∧ b = 0 ∧ (0 ≤ n ∧ n ≤ 1000) ∧ f = 0) ∨ (k = 2 ∧ (0 ≤ b ∧ b ≤ 1) ∧ (1 ≤ n ∧ n ≤ 1000) ∧ (0 ≤ f ∧ f ≤ 1000)) ∨
  (k = 3 ∧ (0 ≤ b ∧ b ≤ 1) ∧ (1 ≤ n ∧ n ≤ 1000) ∧ f = 0) ∨ (k = 5 ∧ b = 0 ∧ n = 0 ∧ (0 ≤ f ∧ f ≤ 1000)) ∨ ((k = 4 ∨ k = 6) ∧ b = 0 ∧ n = 0 ∧ f = 0)
/-- A state that may be. -/
abbrev btOk (b n f : Int) (t : Bool) (i o : Int) : Prop := (0 ≤ b ∧ b ≤ 1) ∧ (1 ≤ n ∧ n ≤ 1000) ∧ (0 ≤ f ∧ f ≤ 1000) ∧ (if t = true then (0 ≤ i ∧ i ≤ 3) ∧ (1 ≤ o ∧ o ≤ 1000) else i = 0 ∧ o = 0)
abbrev rcV (k b n f : Int) : Value := .agg #[.int .i64 k, .int .i64 b, .int .i64 n, .int .i64 f]
abbrev btV (b n f : Int) (t : Bool) (i o : Int) : Value := .agg #[.int .i64 b, .int .i64 n, .int .i64 f, .bool t, .int .i64 i, .int .i64 o]

theorem heap_mid (w : World) (a b c : Obj) : (((w.alloc a).alloc b).alloc c).heap[w.heap.size + 1]? = some b := by
  rw [heap_alloc_old _ _ (by simp)]
  have := heap_alloc_new (w.alloc a) b
  simpa using this
end Go.Proofs.Ytjceajgefpinpaa
