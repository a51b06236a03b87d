/-
  No cell of these rows narrows 'for every input' (looked for: loops, veiled, ifaces, maps, wideKeys, modest, calm, conditions, laid).
  DERIVED. THE GIVEN ROWS OF THIS SEAT. 10 by the template 'for every input the law returns true; each argument reads behind the call as it read before'; 0 by the template 'total and deterministic' (their statements: YtjceajgefpinpaaTotals.lean).
  GIVEN WITH THE SEED: the statements are not yours to turn. If you find one false, say at which input.
  Laid BY PROGRAM, IN A SANDBOX (cutbox-rows.mjs): the forced cells as the released guide's own fill.sh prints them over the translation 8da5b4951e78678b… (all of the seat's roots in one cut). By AI agents, Wed Nov 11 2026. No macro, syntax, notation, axiom, sorry.
-/
import Derived.Test.YtjceajgefpinpaaChecked
import GoSem.Claim
import GoSem.ClaimJoined
import GoSem.ClaimMapViews
import Derived.JoinedTies
import Derived.KernelRfl
namespace Go.Proofs.Ytjceajgefpinpaa
/- THE CELL 'sum', in the pinned program and in every row, IS THE sha256 OF THE DUMP (.gsa) THAT YtjceajgefpinpaaProg.lean LOADS. Nothing in Lean hashes anything: it is a label: what it is worth is what the hold of that sum in a sandbox is worth. -/
noncomputable def Try.pinned : Pinned := { name := "ytjceajgefpinpaa", sum := "8da5b4951e78678b84d5251ad3fe81507ce4479e81a85fbb1462b8bf0ac4177c", checked := Try.checked }
namespace Rows
def none {H : Type} : Left H := { results := [], args := [] }

/-- 'laws.FnScans': WHATEVER THE INPUT: true; the input reads as it did. -/
def fnScansSpec : ChangeSpec := { name := "fnScans", fn := fun _ => fun
  | [d] => { results := [.lit (.bool true)], args := [d] }
  | _ => none }
def fnScansRow : OpenClaim := { program := "ytjceajgefpinpaa", sum := "8da5b4951e78678b84d5251ad3fe81507ce4479e81a85fbb1462b8bf0ac4177c", func := "loop.example/g00412/laws.FnScans", spec := "fnScans", unfollowed := true, recurses := true, apart := false }
def FnScansSaid : Prop := fnScansRow.holds Try.pinned (OpenSpec.ofChange fnScansSpec)

/-- ITS FALSE NEIGHBOUR: 'it returns false'. Refute it at one input. -/
def fnScansWrong : ChangeSpec := { name := "fnScans", fn := fun _ => fun
  | [d] => { results := [.lit (.bool false)], args := [d] }
  | _ => none }
def FnScansWrongFalsely : Prop := fnScansRow.holds Try.pinned (OpenSpec.ofChange fnScansWrong)

/-- 'laws.FnFolds': WHATEVER THE INPUT: true; the input reads as it did. -/
def fnFoldsSpec : ChangeSpec := { name := "fnFolds", fn := fun _ => fun
  | [d] => { results := [.lit (.bool true)], args := [d] }
  | _ => none }
def fnFoldsRow : OpenClaim := { program := "ytjceajgefpinpaa", sum := "8da5b4951e78678b84d5251ad3fe81507ce4479e81a85fbb1462b8bf0ac4177c", func := "loop.example/g00412/laws.FnFolds", spec := "fnFolds", unfollowed := true, recurses := true, apart := false }
def FnFoldsSaid : Prop := fnFoldsRow.holds Try.pinned (OpenSpec.ofChange fnFoldsSpec)

/-- ITS FALSE NEIGHBOUR: 'it returns false'. Refute it at one input. -/
def fnFoldsWrong : ChangeSpec := { name := "fnFolds", fn := fun _ => fun
  | [d] => { results := [.lit (.bool false)], args := [d] }
  | _ => none }
def FnFoldsWrongFalsely : Prop := fnFoldsRow.holds Try.pinned (OpenSpec.ofChange fnFoldsWrong)

/-- 'laws.FnExactRecOk': WHATEVER THE INPUT: true; the input reads as it did. -/
def fnExactRecOkSpec : ChangeSpec := { name := "fnExactRecOk", fn := fun _ => fun
  | [d] => { results := [.lit (.bool true)], args := [d] }
  | _ => none }
def fnExactRecOkRow : OpenClaim := { program := "ytjceajgefpinpaa", sum := "8da5b4951e78678b84d5251ad3fe81507ce4479e81a85fbb1462b8bf0ac4177c", func := "loop.example/g00412/laws.FnExactRecOk", spec := "fnExactRecOk", apart := false }
def FnExactRecOkSaid : Prop := fnExactRecOkRow.holds Try.pinned (OpenSpec.ofChange fnExactRecOkSpec)

/-- ITS FALSE NEIGHBOUR: 'it returns false'. Refute it at one input. -/
def fnExactRecOkWrong : ChangeSpec := { name := "fnExactRecOk", fn := fun _ => fun
  | [d] => { results := [.lit (.bool false)], args := [d] }
  | _ => none }
def FnExactRecOkWrongFalsely : Prop := fnExactRecOkRow.holds Try.pinned (OpenSpec.ofChange fnExactRecOkWrong)

/-- 'laws.FnExactRecPut': WHATEVER THE INPUT: true; the input reads as it did. -/
def fnExactRecPutSpec : ChangeSpec := { name := "fnExactRecPut", fn := fun _ => fun
  | [d] => { results := [.lit (.bool true)], args := [d] }
  | _ => none }
def fnExactRecPutRow : OpenClaim := { program := "ytjceajgefpinpaa", sum := "8da5b4951e78678b84d5251ad3fe81507ce4479e81a85fbb1462b8bf0ac4177c", func := "loop.example/g00412/laws.FnExactRecPut", spec := "fnExactRecPut", apart := false }
def FnExactRecPutSaid : Prop := fnExactRecPutRow.holds Try.pinned (OpenSpec.ofChange fnExactRecPutSpec)

/-- ITS FALSE NEIGHBOUR: 'it returns false'. Refute it at one input. -/
def fnExactRecPutWrong : ChangeSpec := { name := "fnExactRecPut", fn := fun _ => fun
  | [d] => { results := [.lit (.bool false)], args := [d] }
  | _ => none }
def FnExactRecPutWrongFalsely : Prop := fnExactRecPutRow.holds Try.pinned (OpenSpec.ofChange fnExactRecPutWrong)

/-- 'laws.FnExactRecGet': WHATEVER THE INPUT: true; the input reads as it did. -/
def fnExactRecGetSpec : ChangeSpec := { name := "fnExactRecGet", fn := fun _ => fun
  | [d] => { results := [.lit (.bool true)], args := [d] }
  | _ => none }
def fnExactRecGetRow : OpenClaim := { program := "ytjceajgefpinpaa", sum := "8da5b4951e78678b84d5251ad3fe81507ce4479e81a85fbb1462b8bf0ac4177c", func := "loop.example/g00412/laws.FnExactRecGet", spec := "fnExactRecGet", apart := false }
def FnExactRecGetSaid : Prop := fnExactRecGetRow.holds Try.pinned (OpenSpec.ofChange fnExactRecGetSpec)

/-- ITS FALSE NEIGHBOUR: 'it returns false'. Refute it at one input. -/
def fnExactRecGetWrong : ChangeSpec := { name := "fnExactRecGet", fn := fun _ => fun
  | [d] => { results := [.lit (.bool false)], args := [d] }
  | _ => none }
def FnExactRecGetWrongFalsely : Prop := fnExactRecGetRow.holds Try.pinned (OpenSpec.ofChange fnExactRecGetWrong)

/-- 'laws.FnExactScan': WHATEVER THE INPUT: true; the input reads as it did. -/
def fnExactScanSpec : ChangeSpec := { name := "fnExactScan", fn := fun _ => fun
  | [d] => { results := [.lit (.bool true)], args := [d] }
  | _ => none }
def fnExactScanRow : OpenClaim := { program := "ytjceajgefpinpaa", sum := "8da5b4951e78678b84d5251ad3fe81507ce4479e81a85fbb1462b8bf0ac4177c", func := "loop.example/g00412/laws.FnExactScan", spec := "fnExactScan", unfollowed := true, recurses := true, apart := false }
def FnExactScanSaid : Prop := fnExactScanRow.holds Try.pinned (OpenSpec.ofChange fnExactScanSpec)

/-- ITS FALSE NEIGHBOUR: 'it returns false'. Refute it at one input. -/
def fnExactScanWrong : ChangeSpec := { name := "fnExactScan", fn := fun _ => fun
  | [d] => { results := [.lit (.bool false)], args := [d] }
  | _ => none }
def FnExactScanWrongFalsely : Prop := fnExactScanRow.holds Try.pinned (OpenSpec.ofChange fnExactScanWrong)

/-- 'laws.FnExactBootOk': WHATEVER THE INPUT: true; the input reads as it did. -/
def fnExactBootOkSpec : ChangeSpec := { name := "fnExactBootOk", fn := fun _ => fun
  | [d] => { results := [.lit (.bool true)], args := [d] }
  | _ => none }
def fnExactBootOkRow : OpenClaim := { program := "ytjceajgefpinpaa", sum := "8da5b4951e78678b84d5251ad3fe81507ce4479e81a85fbb1462b8bf0ac4177c", func := "loop.example/g00412/laws.FnExactBootOk", spec := "fnExactBootOk", apart := false }
def FnExactBootOkSaid : Prop := fnExactBootOkRow.holds Try.pinned (OpenSpec.ofChange fnExactBootOkSpec)

/-- ITS FALSE NEIGHBOUR: 'it returns false'. Refute it at one input. -/
def fnExactBootOkWrong : ChangeSpec := { name := "fnExactBootOk", fn := fun _ => fun
  | [d] => { results := [.lit (.bool false)], args := [d] }
  | _ => none }
def FnExactBootOkWrongFalsely : Prop := fnExactBootOkRow.holds Try.pinned (OpenSpec.ofChange fnExactBootOkWrong)

/-- 'laws.FnExactStep': WHATEVER THE INPUT: true; the input reads as it did. -/
def fnExactStepSpec : ChangeSpec := { name := "fnExactStep", fn := fun _ => fun
  | [d1, d2] => { results := [.lit (.bool true)], args := [d1, d2] }
  | _ => none }
def fnExactStepRow : OpenClaim := { program := "ytjceajgefpinpaa", sum := "8da5b4951e78678b84d5251ad3fe81507ce4479e81a85fbb1462b8bf0ac4177c", func := "loop.example/g00412/laws.FnExactStep", spec := "fnExactStep", unfollowed := true, recurses := true, apart := false }
def FnExactStepSaid : Prop := fnExactStepRow.holds Try.pinned (OpenSpec.ofChange fnExactStepSpec)

/-- ITS FALSE NEIGHBOUR: 'it returns false'. Refute it at one input. -/
def fnExactStepWrong : ChangeSpec := { name := "fnExactStep", fn := fun _ => fun
  | [d1, d2] => { results := [.lit (.bool false)], args := [d1, d2] }
  | _ => none }
def FnExactStepWrongFalsely : Prop := fnExactStepRow.holds Try.pinned (OpenSpec.ofChange fnExactStepWrong)

/-- 'laws.FnExactFold': WHATEVER THE INPUT: true; the input reads as it did. -/
def fnExactFoldSpec : ChangeSpec := { name := "fnExactFold", fn := fun _ => fun
  | [d] => { results := [.lit (.bool true)], args := [d] }
  | _ => none }
def fnExactFoldRow : OpenClaim := { program := "ytjceajgefpinpaa", sum := "8da5b4951e78678b84d5251ad3fe81507ce4479e81a85fbb1462b8bf0ac4177c", func := "loop.example/g00412/laws.FnExactFold", spec := "fnExactFold", unfollowed := true, recurses := true, apart := false }
def FnExactFoldSaid : Prop := fnExactFoldRow.holds Try.pinned (OpenSpec.ofChange fnExactFoldSpec)

/-- ITS FALSE NEIGHBOUR: 'it returns false'. Refute it at one input. -/
def fnExactFoldWrong : ChangeSpec := { name := "fnExactFold", fn := fun _ => fun
  | [d] => { results := [.lit (.bool false)], args := [d] }
  | _ => none }
def FnExactFoldWrongFalsely : Prop := fnExactFoldRow.holds Try.pinned (OpenSpec.ofChange fnExactFoldWrong)

/-- 'laws.FnExactSummary': WHATEVER THE INPUT: true; the input reads as it did. -/
def fnExactSummarySpec : ChangeSpec := { name := "fnExactSummary", fn := fun _ => fun
  | [d] => { results := [.lit (.bool true)], args := [d] }
  | _ => none }
def fnExactSummaryRow : OpenClaim := { program := "ytjceajgefpinpaa", sum := "8da5b4951e78678b84d5251ad3fe81507ce4479e81a85fbb1462b8bf0ac4177c", func := "loop.example/g00412/laws.FnExactSummary", spec := "fnExactSummary", apart := false }
def FnExactSummarySaid : Prop := fnExactSummaryRow.holds Try.pinned (OpenSpec.ofChange fnExactSummarySpec)

/-- ITS FALSE NEIGHBOUR: 'it returns false'. Refute it at one input. -/
def fnExactSummaryWrong : ChangeSpec := { name := "fnExactSummary", fn := fun _ => fun
  | [d] => { results := [.lit (.bool false)], args := [d] }
  | _ => none }
def FnExactSummaryWrongFalsely : Prop := fnExactSummaryRow.holds Try.pinned (OpenSpec.ofChange fnExactSummaryWrong)

/- THE SECOND FORM. 'bulk': how many values and letters a reading holds, each counted each time it is reached (what is shared counts as often as it is met; a slice's spare places count too). A statement '..UptoSaid' is the law's where the arguments, and the package variables that the reading takes, are together of bulk at most 1048576: NARROWER than '..Said'. Prove '..Said' where nothing that the law and all that it calls make is longer than what came in: it says more and counts as full. Else prove '..UptoSaid'. A law counts once. -/
mutual
def uptoBulk {H : Type} : DataW H → Nat
  | .lit (.string bytes) => bytes.length + 1
  | .lit _ => 1
  | .nil => 1
  | .ptr d => uptoBulk d + 1
  | .slice elems spare => uptoBulkAll elems + uptoBulkAll spare + 1
  | .agg parts => uptoBulkAll parts + 1
  | .iface _ d => uptoBulk d + 1
  | .map entries => uptoBulkEntries entries + 1
  | .held _ => 1
def uptoBulkAll {H : Type} : List (DataW H) → Nat
  | [] => 0
  | d :: r => uptoBulk d + uptoBulkAll r
def uptoBulkEntries {H : Type} : List (Lit × DataW H) → Nat
  | [] => 0
  | x :: r => uptoBulkEntry x + uptoBulkEntries r
def uptoBulkEntry {H : Type} : Lit × DataW H → Nat
  | (.string bytes, d) => bytes.length + uptoBulk d + 1
  | (_, d) => uptoBulk d + 1
 end
def uptoSmall : (H : Type) → List (DataW H) → Bool := fun _ ds => decide (uptoBulkAll ds ≤ 1048576)
def OpenSpec.upto (s : _root_.Go.ChangeSpec) : _root_.Go.OpenSpec := { _root_.Go.OpenSpec.ofChange s with cond := some uptoSmall }

/-- 'laws.FnScans', WHERE WHAT IT READS IS OF BULK AT MOST 1048576: true; the input reads as it did. -/
def fnScansUptoRow : OpenClaim := { program := "ytjceajgefpinpaa", sum := "8da5b4951e78678b84d5251ad3fe81507ce4479e81a85fbb1462b8bf0ac4177c", func := "loop.example/g00412/laws.FnScans", spec := "fnScans", unfollowed := true, recurses := true, apart := false, narrowed := true }
def FnScansUptoSaid : Prop := fnScansUptoRow.holds Try.pinned (OpenSpec.upto fnScansSpec)

/-- 'laws.FnFolds', WHERE WHAT IT READS IS OF BULK AT MOST 1048576: true; the input reads as it did. -/
def fnFoldsUptoRow : OpenClaim := { program := "ytjceajgefpinpaa", sum := "8da5b4951e78678b84d5251ad3fe81507ce4479e81a85fbb1462b8bf0ac4177c", func := "loop.example/g00412/laws.FnFolds", spec := "fnFolds", unfollowed := true, recurses := true, apart := false, narrowed := true }
def FnFoldsUptoSaid : Prop := fnFoldsUptoRow.holds Try.pinned (OpenSpec.upto fnFoldsSpec)

/-- 'laws.FnExactRecOk', WHERE WHAT IT READS IS OF BULK AT MOST 1048576: true; the input reads as it did. -/
def fnExactRecOkUptoRow : OpenClaim := { program := "ytjceajgefpinpaa", sum := "8da5b4951e78678b84d5251ad3fe81507ce4479e81a85fbb1462b8bf0ac4177c", func := "loop.example/g00412/laws.FnExactRecOk", spec := "fnExactRecOk", apart := false, narrowed := true }
def FnExactRecOkUptoSaid : Prop := fnExactRecOkUptoRow.holds Try.pinned (OpenSpec.upto fnExactRecOkSpec)

/-- 'laws.FnExactRecPut', WHERE WHAT IT READS IS OF BULK AT MOST 1048576: true; the input reads as it did. -/
def fnExactRecPutUptoRow : OpenClaim := { program := "ytjceajgefpinpaa", sum := "8da5b4951e78678b84d5251ad3fe81507ce4479e81a85fbb1462b8bf0ac4177c", func := "loop.example/g00412/laws.FnExactRecPut", spec := "fnExactRecPut", apart := false, narrowed := true }
def FnExactRecPutUptoSaid : Prop := fnExactRecPutUptoRow.holds Try.pinned (OpenSpec.upto fnExactRecPutSpec)

/-- 'laws.FnExactRecGet', WHERE WHAT IT READS IS OF BULK AT MOST 1048576: true; the input reads as it did. -/
def fnExactRecGetUptoRow : OpenClaim := { program := "ytjceajgefpinpaa", sum := "8da5b4951e78678b84d5251ad3fe81507ce4479e81a85fbb1462b8bf0ac4177c", func := "loop.example/g00412/laws.FnExactRecGet", spec := "fnExactRecGet", apart := false, narrowed := true }
def FnExactRecGetUptoSaid : Prop := fnExactRecGetUptoRow.holds Try.pinned (OpenSpec.upto fnExactRecGetSpec)

/-- 'laws.FnExactScan', WHERE WHAT IT READS IS OF BULK AT MOST 1048576: true; the input reads as it did. -/
def fnExactScanUptoRow : OpenClaim := { program := "ytjceajgefpinpaa", sum := "8da5b4951e78678b84d5251ad3fe81507ce4479e81a85fbb1462b8bf0ac4177c", func := "loop.example/g00412/laws.FnExactScan", spec := "fnExactScan", unfollowed := true, recurses := true, apart := false, narrowed := true }
def FnExactScanUptoSaid : Prop := fnExactScanUptoRow.holds Try.pinned (OpenSpec.upto fnExactScanSpec)

/-- 'laws.FnExactBootOk', WHERE WHAT IT READS IS OF BULK AT MOST 1048576: true; the input reads as it did. -/
def fnExactBootOkUptoRow : OpenClaim := { program := "ytjceajgefpinpaa", sum := "8da5b4951e78678b84d5251ad3fe81507ce4479e81a85fbb1462b8bf0ac4177c", func := "loop.example/g00412/laws.FnExactBootOk", spec := "fnExactBootOk", apart := false, narrowed := true }
def FnExactBootOkUptoSaid : Prop := fnExactBootOkUptoRow.holds Try.pinned (OpenSpec.upto fnExactBootOkSpec)

/-- 'laws.FnExactStep', WHERE WHAT IT READS IS OF BULK AT MOST 1048576: true; the input reads as it did. -/
def fnExactStepUptoRow : OpenClaim := { program := "ytjceajgefpinpaa", sum := "8da5b4951e78678b84d5251ad3fe81507ce4479e81a85fbb1462b8bf0ac4177c", func := "loop.example/g00412/laws.FnExactStep", spec := "fnExactStep", unfollowed := true, recurses := true, apart := false, narrowed := true }
def FnExactStepUptoSaid : Prop := fnExactStepUptoRow.holds Try.pinned (OpenSpec.upto fnExactStepSpec)

/-- 'laws.FnExactFold', WHERE WHAT IT READS IS OF BULK AT MOST 1048576: true; the input reads as it did. -/
def fnExactFoldUptoRow : OpenClaim := { program := "ytjceajgefpinpaa", sum := "8da5b4951e78678b84d5251ad3fe81507ce4479e81a85fbb1462b8bf0ac4177c", func := "loop.example/g00412/laws.FnExactFold", spec := "fnExactFold", unfollowed := true, recurses := true, apart := false, narrowed := true }
def FnExactFoldUptoSaid : Prop := fnExactFoldUptoRow.holds Try.pinned (OpenSpec.upto fnExactFoldSpec)

/-- 'laws.FnExactSummary', WHERE WHAT IT READS IS OF BULK AT MOST 1048576: true; the input reads as it did. -/
def fnExactSummaryUptoRow : OpenClaim := { program := "ytjceajgefpinpaa", sum := "8da5b4951e78678b84d5251ad3fe81507ce4479e81a85fbb1462b8bf0ac4177c", func := "loop.example/g00412/laws.FnExactSummary", spec := "fnExactSummary", apart := false, narrowed := true }
def FnExactSummaryUptoSaid : Prop := fnExactSummaryUptoRow.holds Try.pinned (OpenSpec.upto fnExactSummarySpec)

end Rows
end Go.Proofs.Ytjceajgefpinpaa
