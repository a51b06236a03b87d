/-
  What is proved here: what an answer of the field is; no condition.
-/
import Derived.Test.YtpchdfdeomhakaaFro
namespace Go.Proofs.Ytpchdfdeomhakaa
open Go.RowKit
set_option maxRecDepth 100000

/-- An answer that is a number of the field, in memory of its own. -/
def FeIs (w w' : World) (v : Value) (l : List Int) : Prop := ∃ a c, v = .agg #[.slice a l.length c] ∧ w'.ownsRow w.heap.size 3 1 (.slice a l.length c) l.length (I64 l)
theorem feIs_nil (w w' : World) : FeIs w w' (.agg #[.slice none 0 0]) [] := ⟨none, 0, rfl, World.ownsRow_nil _ _ _ _⟩
theorem feIs_16 {w w' : World} {a : Option Addr} {c : Nat} {l : List Int} (hl : l.length = 16) (h : w'.ownsRow w.heap.size 3 1 (.slice a 16 c) 16 (I64 l)) : FeIs w w' (.agg #[.slice a 16 c]) l := ⟨a, c, by rw [hl], by rw [hl]; exact h⟩

theorem infoFe : (Try.prog.info? 24).map (·.size) = some 1 := by kernel_rfl
def ofN (n : Int) : List Int := if n < 0 then [] else lim 16 n

end Go.Proofs.Ytpchdfdeomhakaa
