/-
  What is proved here: what the laws' toKey, eqKey, szKey answer.
-/
import Derived.Test.YtofflhhlacdgfaaDoorBg
import Derived.Test.YtofflhhlacdgfaaDoorJP19
import Derived.Test.YtofflhhlacdgfaaDoorJP7
import Derived.Test.YtofflhhlacdgfaaDoorJP11
namespace Go.Proofs.YtofflhhlacdgfaaDoor
open Go.RowKit
set_option maxRecDepth 100000
set_option maxHeartbeats 4000000
set_option linter.unusedVariables false

abbrev keyV (x0 x1 : Int) (x2 : Bool) (a : Option Addr) (n c : Nat) : Value := .agg #[.int .i64 x0, .int .i64 x1, .bool x2, .slice a n c]
abbrev key4 (x : KeyM) (a : Option Addr) (c : Nat) : L4 := ⟨.int .i64 x.i, .int .i64 x.r, .bool x.v, .slice a x.p.length c⟩
end Go.Proofs.YtofflhhlacdgfaaDoor
