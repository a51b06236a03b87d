/-
  What is proved here: a Flash as a value; no program is spoken of.
-/
import Derived.Test.YtgfjbaigmkdbcaaBas
import Derived.Test.YtgfjbaigmkdbcaaArr
import Derived.Test.YtgfjbaigmkdbcaaGr0
namespace Go.Proofs.Ytgfjbaigmkdbcaa
set_option maxRecDepth 100000
open Go.RowKit

/-- A Flash as a value. -/
abbrev flV (aB : Option Addr) (nB cB : Nat) (aW : Option Addr) (nW cW : Nat) : Value := .agg #[.slice aB nB cB, .slice aW nW cW]

theorem arr2 {W : World} {g : Nat} {t : TypeId} {a b : Value} (h : Arr W g t [a, b]) : W.cell? ⟨g, 0, none⟩ = some a ∧ W.cell? ⟨g, 1, none⟩ = some b := ⟨h.cell 0, h.cell 1⟩

end Go.Proofs.Ytgfjbaigmkdbcaa
