/-
  NARROWER THAN 'FOR EVERY INPUT', by the rows' own cells (each row's printed sentence says how): FnFields: laid · FnInverses: laid · FnFeBytes: laid · FnExactFeOk: laid · FnExactFeAdd: laid · FnExactFeSub: laid · FnExactFeMul: laid · FnExactFeInv: laid · FnExactFeRoot: laid · FnExactFeBytes: laid · FnExactFeRead: laid.
  DERIVED. THE GIVEN ROWS OF THIS SEAT. 11 by the template 'for every input the law returns true; each argument reads behind the call as it read before'; 0 by the template 'total and deterministic' (their statements: YtpchdfdeomhakaaDoorTotals.lean).
  GIVEN WITH THE SEED: the statements are not yours to turn. If you find one false, say at which input.
  Laid BY PROGRAM, IN A SANDBOX (cutbox-rows.mjs): the forced cells as the released guide's own fill.sh prints them over the translation ab2e930c2d882ae0… (all of the seat's roots in one cut). By AI agents, Wed Nov 11 2026. No macro, syntax, notation, axiom, sorry.
-/
import Derived.Test.YtpchdfdeomhakaaDoorChecked
import GoSem.Claim
import GoSem.ClaimJoined
import GoSem.ClaimMapViews
import Derived.JoinedTies
import Derived.KernelRfl
namespace Go.Proofs.YtpchdfdeomhakaaDoor
/- THE CELL 'sum', in the pinned program and in every row, IS THE sha256 OF THE DUMP (.gsa) THAT YtpchdfdeomhakaaDoorProg.lean LOADS. Nothing in Lean hashes anything: it is a label: what it is worth is what the hold of that sum in a sandbox is worth. -/
noncomputable def Tryd.pinned : Pinned := { name := "ytpchdfdeomhakaadoor", sum := "ab2e930c2d882ae051fcd940eae06fa4f63df74df0b6bb22c035d91a3c167fa9", checked := Tryd.checked }
namespace Rows
def none {H : Type} : Left H := { results := [], args := [] }

/- WHAT THE LISTED PACKAGE-LEVEL VARIABLES READ AS WHEN THE CALL BEGINS. Each datum BY PROGRAM (the guide's laid-datum.mjs) off the statement by which the dump's own 'gosem.cut.vars' lays the variable. In a bare row this is a premise. The card (YtpchdfdeomhakaaDoorCards.lean) ties it to the program's text. -/
def laid_loop_example_g00412_impl_fieldPrime {H : Type} : DataW H := .agg [.lit (.int .i64 65517), .lit (.int .i64 65535), .lit (.int .i64 65535), .lit (.int .i64 65535), .lit (.int .i64 65535), .lit (.int .i64 65535), .lit (.int .i64 65535), .lit (.int .i64 65535), .lit (.int .i64 65535), .lit (.int .i64 65535), .lit (.int .i64 65535), .lit (.int .i64 65535), .lit (.int .i64 65535), .lit (.int .i64 65535), .lit (.int .i64 65535), .lit (.int .i64 32767)]
def laid_loop_example_g00412_impl_rootOfMinusOne {H : Type} : DataW H := .agg [.lit (.int .i64 41136), .lit (.int .i64 18958), .lit (.int .i64 6951), .lit (.int .i64 50414), .lit (.int .i64 58488), .lit (.int .i64 44335), .lit (.int .i64 6150), .lit (.int .i64 12099), .lit (.int .i64 55207), .lit (.int .i64 15867), .lit (.int .i64 153), .lit (.int .i64 11085), .lit (.int .i64 57099), .lit (.int .i64 20417), .lit (.int .i64 9344), .lit (.int .i64 11139)]

/-- 'laws.FnFields': WHATEVER THE INPUT: true; the input reads as it did. -/
def fnFieldsSpec : ChangeSpec := { name := "fnFields", vars := ["loop.example/g00412/impl.fieldPrime"], fn := fun _ => fun
  | [d, g1] => { results := [.lit (.bool true)], args := [d], vars := [g1] }
  | _ => none }
def fnFieldsRow : OpenClaim := { program := "ytpchdfdeomhakaadoor", sum := "ab2e930c2d882ae051fcd940eae06fa4f63df74df0b6bb22c035d91a3c167fa9", func := "loop.example/g00412/laws.FnFields", spec := "fnFields", unfollowed := true, recurses := true, named := ["loop.example/g00412/impl.fieldPrime"], apart := false, laid := [("loop.example/g00412/impl.fieldPrime", laid_loop_example_g00412_impl_fieldPrime)] }
def FnFieldsSaid : Prop := fnFieldsRow.holds Tryd.pinned (OpenSpec.ofChange fnFieldsSpec)

/-- ITS FALSE NEIGHBOUR: 'it returns false'. Refute it at one input. -/
def fnFieldsWrong : ChangeSpec := { name := "fnFields", vars := ["loop.example/g00412/impl.fieldPrime"], fn := fun _ => fun
  | [d, g1] => { results := [.lit (.bool false)], args := [d], vars := [g1] }
  | _ => none }
def FnFieldsWrongFalsely : Prop := fnFieldsRow.holds Tryd.pinned (OpenSpec.ofChange fnFieldsWrong)

/-- 'laws.FnInverses': WHATEVER THE INPUT: true; the input reads as it did. -/
def fnInversesSpec : ChangeSpec := { name := "fnInverses", vars := ["loop.example/g00412/impl.fieldPrime", "loop.example/g00412/impl.rootOfMinusOne"], fn := fun _ => fun
  | [d, g1, g2] => { results := [.lit (.bool true)], args := [d], vars := [g1, g2] }
  | _ => none }
def fnInversesRow : OpenClaim := { program := "ytpchdfdeomhakaadoor", sum := "ab2e930c2d882ae051fcd940eae06fa4f63df74df0b6bb22c035d91a3c167fa9", func := "loop.example/g00412/laws.FnInverses", spec := "fnInverses", unfollowed := true, recurses := true, named := ["loop.example/g00412/impl.fieldPrime", "loop.example/g00412/impl.rootOfMinusOne"], apart := false, laid := [("loop.example/g00412/impl.fieldPrime", laid_loop_example_g00412_impl_fieldPrime), ("loop.example/g00412/impl.rootOfMinusOne", laid_loop_example_g00412_impl_rootOfMinusOne)] }
def FnInversesSaid : Prop := fnInversesRow.holds Tryd.pinned (OpenSpec.ofChange fnInversesSpec)

/-- ITS FALSE NEIGHBOUR: 'it returns false'. Refute it at one input. -/
def fnInversesWrong : ChangeSpec := { name := "fnInverses", vars := ["loop.example/g00412/impl.fieldPrime", "loop.example/g00412/impl.rootOfMinusOne"], fn := fun _ => fun
  | [d, g1, g2] => { results := [.lit (.bool false)], args := [d], vars := [g1, g2] }
  | _ => none }
def FnInversesWrongFalsely : Prop := fnInversesRow.holds Tryd.pinned (OpenSpec.ofChange fnInversesWrong)

/-- 'laws.FnFeBytes': WHATEVER THE INPUT: true; the input reads as it did. -/
def fnFeBytesSpec : ChangeSpec := { name := "fnFeBytes", vars := ["loop.example/g00412/impl.fieldPrime"], fn := fun _ => fun
  | [d, g1] => { results := [.lit (.bool true)], args := [d], vars := [g1] }
  | _ => none }
def fnFeBytesRow : OpenClaim := { program := "ytpchdfdeomhakaadoor", sum := "ab2e930c2d882ae051fcd940eae06fa4f63df74df0b6bb22c035d91a3c167fa9", func := "loop.example/g00412/laws.FnFeBytes", spec := "fnFeBytes", unfollowed := true, recurses := true, named := ["loop.example/g00412/impl.fieldPrime"], apart := false, laid := [("loop.example/g00412/impl.fieldPrime", laid_loop_example_g00412_impl_fieldPrime)] }
def FnFeBytesSaid : Prop := fnFeBytesRow.holds Tryd.pinned (OpenSpec.ofChange fnFeBytesSpec)

/-- ITS FALSE NEIGHBOUR: 'it returns false'. Refute it at one input. -/
def fnFeBytesWrong : ChangeSpec := { name := "fnFeBytes", vars := ["loop.example/g00412/impl.fieldPrime"], fn := fun _ => fun
  | [d, g1] => { results := [.lit (.bool false)], args := [d], vars := [g1] }
  | _ => none }
def FnFeBytesWrongFalsely : Prop := fnFeBytesRow.holds Tryd.pinned (OpenSpec.ofChange fnFeBytesWrong)

/-- 'laws.FnExactFeOk': WHATEVER THE INPUT: true; the input reads as it did. -/
def fnExactFeOkSpec : ChangeSpec := { name := "fnExactFeOk", vars := ["loop.example/g00412/impl.fieldPrime"], fn := fun _ => fun
  | [d, g1] => { results := [.lit (.bool true)], args := [d], vars := [g1] }
  | _ => none }
def fnExactFeOkRow : OpenClaim := { program := "ytpchdfdeomhakaadoor", sum := "ab2e930c2d882ae051fcd940eae06fa4f63df74df0b6bb22c035d91a3c167fa9", func := "loop.example/g00412/laws.FnExactFeOk", spec := "fnExactFeOk", named := ["loop.example/g00412/impl.fieldPrime"], apart := false, laid := [("loop.example/g00412/impl.fieldPrime", laid_loop_example_g00412_impl_fieldPrime)] }
def FnExactFeOkSaid : Prop := fnExactFeOkRow.holds Tryd.pinned (OpenSpec.ofChange fnExactFeOkSpec)

/-- ITS FALSE NEIGHBOUR: 'it returns false'. Refute it at one input. -/
def fnExactFeOkWrong : ChangeSpec := { name := "fnExactFeOk", vars := ["loop.example/g00412/impl.fieldPrime"], fn := fun _ => fun
  | [d, g1] => { results := [.lit (.bool false)], args := [d], vars := [g1] }
  | _ => none }
def FnExactFeOkWrongFalsely : Prop := fnExactFeOkRow.holds Tryd.pinned (OpenSpec.ofChange fnExactFeOkWrong)

/-- 'laws.FnExactFeAdd': WHATEVER THE INPUT: true; the input reads as it did. -/
def fnExactFeAddSpec : ChangeSpec := { name := "fnExactFeAdd", vars := ["loop.example/g00412/impl.fieldPrime"], fn := fun _ => fun
  | [d1, d2, g1] => { results := [.lit (.bool true)], args := [d1, d2], vars := [g1] }
  | _ => none }
def fnExactFeAddRow : OpenClaim := { program := "ytpchdfdeomhakaadoor", sum := "ab2e930c2d882ae051fcd940eae06fa4f63df74df0b6bb22c035d91a3c167fa9", func := "loop.example/g00412/laws.FnExactFeAdd", spec := "fnExactFeAdd", unfollowed := true, recurses := true, named := ["loop.example/g00412/impl.fieldPrime"], apart := false, laid := [("loop.example/g00412/impl.fieldPrime", laid_loop_example_g00412_impl_fieldPrime)] }
def FnExactFeAddSaid : Prop := fnExactFeAddRow.holds Tryd.pinned (OpenSpec.ofChange fnExactFeAddSpec)

/-- ITS FALSE NEIGHBOUR: 'it returns false'. Refute it at one input. -/
def fnExactFeAddWrong : ChangeSpec := { name := "fnExactFeAdd", vars := ["loop.example/g00412/impl.fieldPrime"], fn := fun _ => fun
  | [d1, d2, g1] => { results := [.lit (.bool false)], args := [d1, d2], vars := [g1] }
  | _ => none }
def FnExactFeAddWrongFalsely : Prop := fnExactFeAddRow.holds Tryd.pinned (OpenSpec.ofChange fnExactFeAddWrong)

/-- 'laws.FnExactFeSub': WHATEVER THE INPUT: true; the input reads as it did. -/
def fnExactFeSubSpec : ChangeSpec := { name := "fnExactFeSub", vars := ["loop.example/g00412/impl.fieldPrime"], fn := fun _ => fun
  | [d1, d2, g1] => { results := [.lit (.bool true)], args := [d1, d2], vars := [g1] }
  | _ => none }
def fnExactFeSubRow : OpenClaim := { program := "ytpchdfdeomhakaadoor", sum := "ab2e930c2d882ae051fcd940eae06fa4f63df74df0b6bb22c035d91a3c167fa9", func := "loop.example/g00412/laws.FnExactFeSub", spec := "fnExactFeSub", unfollowed := true, recurses := true, named := ["loop.example/g00412/impl.fieldPrime"], apart := false, laid := [("loop.example/g00412/impl.fieldPrime", laid_loop_example_g00412_impl_fieldPrime)] }
def FnExactFeSubSaid : Prop := fnExactFeSubRow.holds Tryd.pinned (OpenSpec.ofChange fnExactFeSubSpec)

/-- ITS FALSE NEIGHBOUR: 'it returns false'. Refute it at one input. -/
def fnExactFeSubWrong : ChangeSpec := { name := "fnExactFeSub", vars := ["loop.example/g00412/impl.fieldPrime"], fn := fun _ => fun
  | [d1, d2, g1] => { results := [.lit (.bool false)], args := [d1, d2], vars := [g1] }
  | _ => none }
def FnExactFeSubWrongFalsely : Prop := fnExactFeSubRow.holds Tryd.pinned (OpenSpec.ofChange fnExactFeSubWrong)

/-- 'laws.FnExactFeMul': WHATEVER THE INPUT: true; the input reads as it did. -/
def fnExactFeMulSpec : ChangeSpec := { name := "fnExactFeMul", vars := ["loop.example/g00412/impl.fieldPrime"], fn := fun _ => fun
  | [d1, d2, g1] => { results := [.lit (.bool true)], args := [d1, d2], vars := [g1] }
  | _ => none }
def fnExactFeMulRow : OpenClaim := { program := "ytpchdfdeomhakaadoor", sum := "ab2e930c2d882ae051fcd940eae06fa4f63df74df0b6bb22c035d91a3c167fa9", func := "loop.example/g00412/laws.FnExactFeMul", spec := "fnExactFeMul", unfollowed := true, recurses := true, named := ["loop.example/g00412/impl.fieldPrime"], apart := false, laid := [("loop.example/g00412/impl.fieldPrime", laid_loop_example_g00412_impl_fieldPrime)] }
def FnExactFeMulSaid : Prop := fnExactFeMulRow.holds Tryd.pinned (OpenSpec.ofChange fnExactFeMulSpec)

/-- ITS FALSE NEIGHBOUR: 'it returns false'. Refute it at one input. -/
def fnExactFeMulWrong : ChangeSpec := { name := "fnExactFeMul", vars := ["loop.example/g00412/impl.fieldPrime"], fn := fun _ => fun
  | [d1, d2, g1] => { results := [.lit (.bool false)], args := [d1, d2], vars := [g1] }
  | _ => none }
def FnExactFeMulWrongFalsely : Prop := fnExactFeMulRow.holds Tryd.pinned (OpenSpec.ofChange fnExactFeMulWrong)

/-- 'laws.FnExactFeInv': WHATEVER THE INPUT: true; the input reads as it did. -/
def fnExactFeInvSpec : ChangeSpec := { name := "fnExactFeInv", vars := ["loop.example/g00412/impl.fieldPrime"], fn := fun _ => fun
  | [d, g1] => { results := [.lit (.bool true)], args := [d], vars := [g1] }
  | _ => none }
def fnExactFeInvRow : OpenClaim := { program := "ytpchdfdeomhakaadoor", sum := "ab2e930c2d882ae051fcd940eae06fa4f63df74df0b6bb22c035d91a3c167fa9", func := "loop.example/g00412/laws.FnExactFeInv", spec := "fnExactFeInv", unfollowed := true, recurses := true, named := ["loop.example/g00412/impl.fieldPrime"], apart := false, laid := [("loop.example/g00412/impl.fieldPrime", laid_loop_example_g00412_impl_fieldPrime)] }
def FnExactFeInvSaid : Prop := fnExactFeInvRow.holds Tryd.pinned (OpenSpec.ofChange fnExactFeInvSpec)

/-- ITS FALSE NEIGHBOUR: 'it returns false'. Refute it at one input. -/
def fnExactFeInvWrong : ChangeSpec := { name := "fnExactFeInv", vars := ["loop.example/g00412/impl.fieldPrime"], fn := fun _ => fun
  | [d, g1] => { results := [.lit (.bool false)], args := [d], vars := [g1] }
  | _ => none }
def FnExactFeInvWrongFalsely : Prop := fnExactFeInvRow.holds Tryd.pinned (OpenSpec.ofChange fnExactFeInvWrong)

/-- 'laws.FnExactFeRoot': WHATEVER THE INPUT: true; the input reads as it did. -/
def fnExactFeRootSpec : ChangeSpec := { name := "fnExactFeRoot", vars := ["loop.example/g00412/impl.fieldPrime", "loop.example/g00412/impl.rootOfMinusOne"], fn := fun _ => fun
  | [d, g1, g2] => { results := [.lit (.bool true)], args := [d], vars := [g1, g2] }
  | _ => none }
def fnExactFeRootRow : OpenClaim := { program := "ytpchdfdeomhakaadoor", sum := "ab2e930c2d882ae051fcd940eae06fa4f63df74df0b6bb22c035d91a3c167fa9", func := "loop.example/g00412/laws.FnExactFeRoot", spec := "fnExactFeRoot", unfollowed := true, recurses := true, named := ["loop.example/g00412/impl.fieldPrime", "loop.example/g00412/impl.rootOfMinusOne"], apart := false, laid := [("loop.example/g00412/impl.fieldPrime", laid_loop_example_g00412_impl_fieldPrime), ("loop.example/g00412/impl.rootOfMinusOne", laid_loop_example_g00412_impl_rootOfMinusOne)] }
def FnExactFeRootSaid : Prop := fnExactFeRootRow.holds Tryd.pinned (OpenSpec.ofChange fnExactFeRootSpec)

/-- ITS FALSE NEIGHBOUR: 'it returns false'. Refute it at one input. -/
def fnExactFeRootWrong : ChangeSpec := { name := "fnExactFeRoot", vars := ["loop.example/g00412/impl.fieldPrime", "loop.example/g00412/impl.rootOfMinusOne"], fn := fun _ => fun
  | [d, g1, g2] => { results := [.lit (.bool false)], args := [d], vars := [g1, g2] }
  | _ => none }
def FnExactFeRootWrongFalsely : Prop := fnExactFeRootRow.holds Tryd.pinned (OpenSpec.ofChange fnExactFeRootWrong)

/-- 'laws.FnExactFeBytes': WHATEVER THE INPUT: true; the input reads as it did. -/
def fnExactFeBytesSpec : ChangeSpec := { name := "fnExactFeBytes", vars := ["loop.example/g00412/impl.fieldPrime"], fn := fun _ => fun
  | [d, g1] => { results := [.lit (.bool true)], args := [d], vars := [g1] }
  | _ => none }
def fnExactFeBytesRow : OpenClaim := { program := "ytpchdfdeomhakaadoor", sum := "ab2e930c2d882ae051fcd940eae06fa4f63df74df0b6bb22c035d91a3c167fa9", func := "loop.example/g00412/laws.FnExactFeBytes", spec := "fnExactFeBytes", named := ["loop.example/g00412/impl.fieldPrime"], apart := false, laid := [("loop.example/g00412/impl.fieldPrime", laid_loop_example_g00412_impl_fieldPrime)] }
def FnExactFeBytesSaid : Prop := fnExactFeBytesRow.holds Tryd.pinned (OpenSpec.ofChange fnExactFeBytesSpec)

/-- ITS FALSE NEIGHBOUR: 'it returns false'. Refute it at one input. -/
def fnExactFeBytesWrong : ChangeSpec := { name := "fnExactFeBytes", vars := ["loop.example/g00412/impl.fieldPrime"], fn := fun _ => fun
  | [d, g1] => { results := [.lit (.bool false)], args := [d], vars := [g1] }
  | _ => none }
def FnExactFeBytesWrongFalsely : Prop := fnExactFeBytesRow.holds Tryd.pinned (OpenSpec.ofChange fnExactFeBytesWrong)

/-- 'laws.FnExactFeRead': WHATEVER THE INPUT: true; the input reads as it did. -/
def fnExactFeReadSpec : ChangeSpec := { name := "fnExactFeRead", vars := ["loop.example/g00412/impl.fieldPrime"], fn := fun _ => fun
  | [d, g1] => { results := [.lit (.bool true)], args := [d], vars := [g1] }
  | _ => none }
def fnExactFeReadRow : OpenClaim := { program := "ytpchdfdeomhakaadoor", sum := "ab2e930c2d882ae051fcd940eae06fa4f63df74df0b6bb22c035d91a3c167fa9", func := "loop.example/g00412/laws.FnExactFeRead", spec := "fnExactFeRead", named := ["loop.example/g00412/impl.fieldPrime"], apart := false, laid := [("loop.example/g00412/impl.fieldPrime", laid_loop_example_g00412_impl_fieldPrime)] }
def FnExactFeReadSaid : Prop := fnExactFeReadRow.holds Tryd.pinned (OpenSpec.ofChange fnExactFeReadSpec)

/-- ITS FALSE NEIGHBOUR: 'it returns false'. Refute it at one input. -/
def fnExactFeReadWrong : ChangeSpec := { name := "fnExactFeRead", vars := ["loop.example/g00412/impl.fieldPrime"], fn := fun _ => fun
  | [d, g1] => { results := [.lit (.bool false)], args := [d], vars := [g1] }
  | _ => none }
def FnExactFeReadWrongFalsely : Prop := fnExactFeReadRow.holds Tryd.pinned (OpenSpec.ofChange fnExactFeReadWrong)

/- THE SECOND FORM. 'bulk': how many values and letters a reading holds, each counted each time it is reached (what is shared counts as often as it is met; a slice's spare places count too). A statement '..UptoSaid' is the law's where the arguments, and the package variables that the reading takes, are together of bulk at most 1048576: NARROWER than '..Said'. Prove '..Said' where nothing that the law and all that it calls make is longer than what came in: it says more and counts as full. Else prove '..UptoSaid'. A law counts once. -/
mutual
def uptoBulk {H : Type} : DataW H → Nat
  | .lit (.string bytes) => bytes.length + 1
  | .lit _ => 1
  | .nil => 1
  | .ptr d => uptoBulk d + 1
  | .slice elems spare => uptoBulkAll elems + uptoBulkAll spare + 1
  | .agg parts => uptoBulkAll parts + 1
  | .iface _ d => uptoBulk d + 1
  | .map entries => uptoBulkEntries entries + 1
  | .held _ => 1
def uptoBulkAll {H : Type} : List (DataW H) → Nat
  | [] => 0
  | d :: r => uptoBulk d + uptoBulkAll r
def uptoBulkEntries {H : Type} : List (Lit × DataW H) → Nat
  | [] => 0
  | x :: r => uptoBulkEntry x + uptoBulkEntries r
def uptoBulkEntry {H : Type} : Lit × DataW H → Nat
  | (.string bytes, d) => bytes.length + uptoBulk d + 1
  | (_, d) => uptoBulk d + 1
 end
def uptoSmall : (H : Type) → List (DataW H) → Bool := fun _ ds => decide (uptoBulkAll ds ≤ 1048576)
def OpenSpec.upto (s : _root_.Go.ChangeSpec) : _root_.Go.OpenSpec := { _root_.Go.OpenSpec.ofChange s with cond := some uptoSmall }

/-- 'laws.FnFields', WHERE WHAT IT READS IS OF BULK AT MOST 1048576: true; the input reads as it did. -/
def fnFieldsUptoRow : OpenClaim := { program := "ytpchdfdeomhakaadoor", sum := "ab2e930c2d882ae051fcd940eae06fa4f63df74df0b6bb22c035d91a3c167fa9", func := "loop.example/g00412/laws.FnFields", spec := "fnFields", unfollowed := true, recurses := true, named := ["loop.example/g00412/impl.fieldPrime"], apart := false, laid := [("loop.example/g00412/impl.fieldPrime", laid_loop_example_g00412_impl_fieldPrime)], narrowed := true }
def FnFieldsUptoSaid : Prop := fnFieldsUptoRow.holds Tryd.pinned (OpenSpec.upto fnFieldsSpec)

/-- 'laws.FnInverses', WHERE WHAT IT READS IS OF BULK AT MOST 1048576: true; the input reads as it did. -/
def fnInversesUptoRow : OpenClaim := { program := "ytpchdfdeomhakaadoor", sum := "ab2e930c2d882ae051fcd940eae06fa4f63df74df0b6bb22c035d91a3c167fa9", func := "loop.example/g00412/laws.FnInverses", spec := "fnInverses", unfollowed := true, recurses := true, named := ["loop.example/g00412/impl.fieldPrime", "loop.example/g00412/impl.rootOfMinusOne"], apart := false, laid := [("loop.example/g00412/impl.fieldPrime", laid_loop_example_g00412_impl_fieldPrime), ("loop.example/g00412/impl.rootOfMinusOne", laid_loop_example_g00412_impl_rootOfMinusOne)], narrowed := true }
def FnInversesUptoSaid : Prop := fnInversesUptoRow.holds Tryd.pinned (OpenSpec.upto fnInversesSpec)

/-- 'laws.FnFeBytes', WHERE WHAT IT READS IS OF BULK AT MOST 1048576: true; the input reads as it did. -/
def fnFeBytesUptoRow : OpenClaim := { program := "ytpchdfdeomhakaadoor", sum := "ab2e930c2d882ae051fcd940eae06fa4f63df74df0b6bb22c035d91a3c167fa9", func := "loop.example/g00412/laws.FnFeBytes", spec := "fnFeBytes", unfollowed := true, recurses := true, named := ["loop.example/g00412/impl.fieldPrime"], apart := false, laid := [("loop.example/g00412/impl.fieldPrime", laid_loop_example_g00412_impl_fieldPrime)], narrowed := true }
def FnFeBytesUptoSaid : Prop := fnFeBytesUptoRow.holds Tryd.pinned (OpenSpec.upto fnFeBytesSpec)

/-- 'laws.FnExactFeOk', WHERE WHAT IT READS IS OF BULK AT MOST 1048576: true; the input reads as it did. -/
def fnExactFeOkUptoRow : OpenClaim := { program := "ytpchdfdeomhakaadoor", sum := "ab2e930c2d882ae051fcd940eae06fa4f63df74df0b6bb22c035d91a3c167fa9", func := "loop.example/g00412/laws.FnExactFeOk", spec := "fnExactFeOk", named := ["loop.example/g00412/impl.fieldPrime"], apart := false, laid := [("loop.example/g00412/impl.fieldPrime", laid_loop_example_g00412_impl_fieldPrime)], narrowed := true }
def FnExactFeOkUptoSaid : Prop := fnExactFeOkUptoRow.holds Tryd.pinned (OpenSpec.upto fnExactFeOkSpec)

/-- 'laws.FnExactFeAdd', WHERE WHAT IT READS IS OF BULK AT MOST 1048576: true; the input reads as it did. -/
def fnExactFeAddUptoRow : OpenClaim := { program := "ytpchdfdeomhakaadoor", sum := "ab2e930c2d882ae051fcd940eae06fa4f63df74df0b6bb22c035d91a3c167fa9", func := "loop.example/g00412/laws.FnExactFeAdd", spec := "fnExactFeAdd", unfollowed := true, recurses := true, named := ["loop.example/g00412/impl.fieldPrime"], apart := false, laid := [("loop.example/g00412/impl.fieldPrime", laid_loop_example_g00412_impl_fieldPrime)], narrowed := true }
def FnExactFeAddUptoSaid : Prop := fnExactFeAddUptoRow.holds Tryd.pinned (OpenSpec.upto fnExactFeAddSpec)

/-- 'laws.FnExactFeSub', WHERE WHAT IT READS IS OF BULK AT MOST 1048576: true; the input reads as it did. -/
def fnExactFeSubUptoRow : OpenClaim := { program := "ytpchdfdeomhakaadoor", sum := "ab2e930c2d882ae051fcd940eae06fa4f63df74df0b6bb22c035d91a3c167fa9", func := "loop.example/g00412/laws.FnExactFeSub", spec := "fnExactFeSub", unfollowed := true, recurses := true, named := ["loop.example/g00412/impl.fieldPrime"], apart := false, laid := [("loop.example/g00412/impl.fieldPrime", laid_loop_example_g00412_impl_fieldPrime)], narrowed := true }
def FnExactFeSubUptoSaid : Prop := fnExactFeSubUptoRow.holds Tryd.pinned (OpenSpec.upto fnExactFeSubSpec)

/-- 'laws.FnExactFeMul', WHERE WHAT IT READS IS OF BULK AT MOST 1048576: true; the input reads as it did. -/
def fnExactFeMulUptoRow : OpenClaim := { program := "ytpchdfdeomhakaadoor", sum := "ab2e930c2d882ae051fcd940eae06fa4f63df74df0b6bb22c035d91a3c167fa9", func := "loop.example/g00412/laws.FnExactFeMul", spec := "fnExactFeMul", unfollowed := true, recurses := true, named := ["loop.example/g00412/impl.fieldPrime"], apart := false, laid := [("loop.example/g00412/impl.fieldPrime", laid_loop_example_g00412_impl_fieldPrime)], narrowed := true }
def FnExactFeMulUptoSaid : Prop := fnExactFeMulUptoRow.holds Tryd.pinned (OpenSpec.upto fnExactFeMulSpec)

/-- 'laws.FnExactFeInv', WHERE WHAT IT READS IS OF BULK AT MOST 1048576: true; the input reads as it did. -/
def fnExactFeInvUptoRow : OpenClaim := { program := "ytpchdfdeomhakaadoor", sum := "ab2e930c2d882ae051fcd940eae06fa4f63df74df0b6bb22c035d91a3c167fa9", func := "loop.example/g00412/laws.FnExactFeInv", spec := "fnExactFeInv", unfollowed := true, recurses := true, named := ["loop.example/g00412/impl.fieldPrime"], apart := false, laid := [("loop.example/g00412/impl.fieldPrime", laid_loop_example_g00412_impl_fieldPrime)], narrowed := true }
def FnExactFeInvUptoSaid : Prop := fnExactFeInvUptoRow.holds Tryd.pinned (OpenSpec.upto fnExactFeInvSpec)

/-- 'laws.FnExactFeRoot', WHERE WHAT IT READS IS OF BULK AT MOST 1048576: true; the input reads as it did. -/
def fnExactFeRootUptoRow : OpenClaim := { program := "ytpchdfdeomhakaadoor", sum := "ab2e930c2d882ae051fcd940eae06fa4f63df74df0b6bb22c035d91a3c167fa9", func := "loop.example/g00412/laws.FnExactFeRoot", spec := "fnExactFeRoot", unfollowed := true, recurses := true, named := ["loop.example/g00412/impl.fieldPrime", "loop.example/g00412/impl.rootOfMinusOne"], apart := false, laid := [("loop.example/g00412/impl.fieldPrime", laid_loop_example_g00412_impl_fieldPrime), ("loop.example/g00412/impl.rootOfMinusOne", laid_loop_example_g00412_impl_rootOfMinusOne)], narrowed := true }
def FnExactFeRootUptoSaid : Prop := fnExactFeRootUptoRow.holds Tryd.pinned (OpenSpec.upto fnExactFeRootSpec)

/-- 'laws.FnExactFeBytes', WHERE WHAT IT READS IS OF BULK AT MOST 1048576: true; the input reads as it did. -/
def fnExactFeBytesUptoRow : OpenClaim := { program := "ytpchdfdeomhakaadoor", sum := "ab2e930c2d882ae051fcd940eae06fa4f63df74df0b6bb22c035d91a3c167fa9", func := "loop.example/g00412/laws.FnExactFeBytes", spec := "fnExactFeBytes", named := ["loop.example/g00412/impl.fieldPrime"], apart := false, laid := [("loop.example/g00412/impl.fieldPrime", laid_loop_example_g00412_impl_fieldPrime)], narrowed := true }
def FnExactFeBytesUptoSaid : Prop := fnExactFeBytesUptoRow.holds Tryd.pinned (OpenSpec.upto fnExactFeBytesSpec)

/-- 'laws.FnExactFeRead', WHERE WHAT IT READS IS OF BULK AT MOST 1048576: true; the input reads as it did. -/
def fnExactFeReadUptoRow : OpenClaim := { program := "ytpchdfdeomhakaadoor", sum := "ab2e930c2d882ae051fcd940eae06fa4f63df74df0b6bb22c035d91a3c167fa9", func := "loop.example/g00412/laws.FnExactFeRead", spec := "fnExactFeRead", named := ["loop.example/g00412/impl.fieldPrime"], apart := false, laid := [("loop.example/g00412/impl.fieldPrime", laid_loop_example_g00412_impl_fieldPrime)], narrowed := true }
def FnExactFeReadUptoSaid : Prop := fnExactFeReadUptoRow.holds Tryd.pinned (OpenSpec.upto fnExactFeReadSpec)

end Rows
end Go.Proofs.YtpchdfdeomhakaaDoor
