/-
  NARROWER THAN 'FOR EVERY INPUT', by the rows' own cells (each row's printed sentence says how): FnPoints: laid · FnMults: laid · FnPtBytes: laid · FnExactPtOk: laid · FnExactPtBase: laid · FnExactPtAdd: laid · FnExactPtNeg: laid · FnExactPtMul: laid · FnExactPtBytes: laid · FnExactPtRead: laid · FnExactPtTwice: laid.
  DERIVED. THE GIVEN ROWS OF THIS SEAT. 11 by the template 'for every input the law returns true; each argument reads behind the call as it read before'; 0 by the template 'total and deterministic' (their statements: YtoblilngppjmhaaDoorTotals.lean).
  GIVEN WITH THE SEED: the statements are not yours to turn. If you find one false, say at which input.
  Laid BY PROGRAM, IN A SANDBOX (cutbox-rows.mjs): the forced cells as the released guide's own fill.sh prints them over the translation ea62fb6358f98e50… (all of the seat's roots in one cut). By AI agents, Wed Nov 11 2026. No macro, syntax, notation, axiom, sorry.
-/
import Derived.Test.YtoblilngppjmhaaDoorChecked
import GoSem.Claim
import GoSem.ClaimJoined
import GoSem.ClaimMapViews
import Derived.JoinedTies
import Derived.KernelRfl
namespace Go.Proofs.YtoblilngppjmhaaDoor
/- THE CELL 'sum', in the pinned program and in every row, IS THE sha256 OF THE DUMP (.gsa) THAT YtoblilngppjmhaaDoorProg.lean LOADS. Nothing in Lean hashes anything: it is a label: what it is worth is what the hold of that sum in a sandbox is worth. -/
noncomputable def Tryd.pinned : Pinned := { name := "ytoblilngppjmhaadoor", sum := "ea62fb6358f98e5034c2250623349535a2dde909c639af9b1dcbf2c5fe77dbb0", checked := Tryd.checked }
namespace Rows
def none {H : Type} : Left H := { results := [], args := [] }

/- WHAT THE LISTED PACKAGE-LEVEL VARIABLES READ AS WHEN THE CALL BEGINS. Each datum BY PROGRAM (the guide's laid-datum.mjs) off the statement by which the dump's own 'gosem.cut.vars' lays the variable. In a bare row this is a premise. The card (YtoblilngppjmhaaDoorCards.lean) ties it to the program's text. -/
def laid_loop_example_g00412_impl_fieldPrime {H : Type} : DataW H := .agg [.lit (.int .i64 65517), .lit (.int .i64 65535), .lit (.int .i64 65535), .lit (.int .i64 65535), .lit (.int .i64 65535), .lit (.int .i64 65535), .lit (.int .i64 65535), .lit (.int .i64 65535), .lit (.int .i64 65535), .lit (.int .i64 65535), .lit (.int .i64 65535), .lit (.int .i64 65535), .lit (.int .i64 65535), .lit (.int .i64 65535), .lit (.int .i64 65535), .lit (.int .i64 32767)]
def laid_loop_example_g00412_impl_curveD {H : Type} : DataW H := .agg [.lit (.int .i64 30883), .lit (.int .i64 4953), .lit (.int .i64 19914), .lit (.int .i64 30187), .lit (.int .i64 55467), .lit (.int .i64 16705), .lit (.int .i64 2637), .lit (.int .i64 112), .lit (.int .i64 59544), .lit (.int .i64 30585), .lit (.int .i64 16505), .lit (.int .i64 36039), .lit (.int .i64 65139), .lit (.int .i64 11119), .lit (.int .i64 27886), .lit (.int .i64 20995)]
def laid_loop_example_g00412_impl_groupOrder {H : Type} : DataW H := .agg [.lit (.int .i64 54253), .lit (.int .i64 23797), .lit (.int .i64 25370), .lit (.int .i64 22546), .lit (.int .i64 40150), .lit (.int .i64 41719), .lit (.int .i64 63966), .lit (.int .i64 5342), .lit (.int .i64 0), .lit (.int .i64 0), .lit (.int .i64 0), .lit (.int .i64 0), .lit (.int .i64 0), .lit (.int .i64 0), .lit (.int .i64 0), .lit (.int .i64 4096)]
def laid_loop_example_g00412_impl_curveBaseX {H : Type} : DataW H := .agg [.lit (.int .i64 54554), .lit (.int .i64 36645), .lit (.int .i64 11616), .lit (.int .i64 51542), .lit (.int .i64 42930), .lit (.int .i64 38181), .lit (.int .i64 51040), .lit (.int .i64 26924), .lit (.int .i64 56412), .lit (.int .i64 64982), .lit (.int .i64 57905), .lit (.int .i64 49316), .lit (.int .i64 21502), .lit (.int .i64 52590), .lit (.int .i64 14035), .lit (.int .i64 8553)]
def laid_loop_example_g00412_impl_curveBaseY {H : Type} : DataW H := .agg [.lit (.int .i64 26200), .lit (.int .i64 26214), .lit (.int .i64 26214), .lit (.int .i64 26214), .lit (.int .i64 26214), .lit (.int .i64 26214), .lit (.int .i64 26214), .lit (.int .i64 26214), .lit (.int .i64 26214), .lit (.int .i64 26214), .lit (.int .i64 26214), .lit (.int .i64 26214), .lit (.int .i64 26214), .lit (.int .i64 26214), .lit (.int .i64 26214), .lit (.int .i64 26214)]
def laid_loop_example_g00412_impl_rootOfMinusOne {H : Type} : DataW H := .agg [.lit (.int .i64 41136), .lit (.int .i64 18958), .lit (.int .i64 6951), .lit (.int .i64 50414), .lit (.int .i64 58488), .lit (.int .i64 44335), .lit (.int .i64 6150), .lit (.int .i64 12099), .lit (.int .i64 55207), .lit (.int .i64 15867), .lit (.int .i64 153), .lit (.int .i64 11085), .lit (.int .i64 57099), .lit (.int .i64 20417), .lit (.int .i64 9344), .lit (.int .i64 11139)]

/-- 'laws.FnPoints': WHATEVER THE INPUT: true; the input reads as it did. -/
def fnPointsSpec : ChangeSpec := { name := "fnPoints", vars := ["loop.example/g00412/impl.fieldPrime", "loop.example/g00412/impl.curveD"], fn := fun _ => fun
  | [d, g1, g2] => { results := [.lit (.bool true)], args := [d], vars := [g1, g2] }
  | _ => none }
def fnPointsRow : OpenClaim := { program := "ytoblilngppjmhaadoor", sum := "ea62fb6358f98e5034c2250623349535a2dde909c639af9b1dcbf2c5fe77dbb0", func := "loop.example/g00412/laws.FnPoints", spec := "fnPoints", unfollowed := true, recurses := true, named := ["loop.example/g00412/impl.fieldPrime", "loop.example/g00412/impl.curveD"], apart := false, laid := [("loop.example/g00412/impl.fieldPrime", laid_loop_example_g00412_impl_fieldPrime), ("loop.example/g00412/impl.curveD", laid_loop_example_g00412_impl_curveD)] }
def FnPointsSaid : Prop := fnPointsRow.holds Tryd.pinned (OpenSpec.ofChange fnPointsSpec)

/-- ITS FALSE NEIGHBOUR: 'it returns false'. Refute it at one input. -/
def fnPointsWrong : ChangeSpec := { name := "fnPoints", vars := ["loop.example/g00412/impl.fieldPrime", "loop.example/g00412/impl.curveD"], fn := fun _ => fun
  | [d, g1, g2] => { results := [.lit (.bool false)], args := [d], vars := [g1, g2] }
  | _ => none }
def FnPointsWrongFalsely : Prop := fnPointsRow.holds Tryd.pinned (OpenSpec.ofChange fnPointsWrong)

/-- 'laws.FnMults': WHATEVER THE INPUT: true; the input reads as it did. -/
def fnMultsSpec : ChangeSpec := { name := "fnMults", vars := ["loop.example/g00412/impl.fieldPrime", "loop.example/g00412/impl.curveD", "loop.example/g00412/impl.groupOrder", "loop.example/g00412/impl.curveBaseX", "loop.example/g00412/impl.curveBaseY"], fn := fun _ => fun
  | [d, g1, g2, g3, g4, g5] => { results := [.lit (.bool true)], args := [d], vars := [g1, g2, g3, g4, g5] }
  | _ => none }
def fnMultsRow : OpenClaim := { program := "ytoblilngppjmhaadoor", sum := "ea62fb6358f98e5034c2250623349535a2dde909c639af9b1dcbf2c5fe77dbb0", func := "loop.example/g00412/laws.FnMults", spec := "fnMults", unfollowed := true, recurses := true, named := ["loop.example/g00412/impl.fieldPrime", "loop.example/g00412/impl.curveD", "loop.example/g00412/impl.groupOrder", "loop.example/g00412/impl.curveBaseX", "loop.example/g00412/impl.curveBaseY"], apart := false, laid := [("loop.example/g00412/impl.fieldPrime", laid_loop_example_g00412_impl_fieldPrime), ("loop.example/g00412/impl.groupOrder", laid_loop_example_g00412_impl_groupOrder), ("loop.example/g00412/impl.curveD", laid_loop_example_g00412_impl_curveD), ("loop.example/g00412/impl.curveBaseX", laid_loop_example_g00412_impl_curveBaseX), ("loop.example/g00412/impl.curveBaseY", laid_loop_example_g00412_impl_curveBaseY)] }
def FnMultsSaid : Prop := fnMultsRow.holds Tryd.pinned (OpenSpec.ofChange fnMultsSpec)

/-- ITS FALSE NEIGHBOUR: 'it returns false'. Refute it at one input. -/
def fnMultsWrong : ChangeSpec := { name := "fnMults", vars := ["loop.example/g00412/impl.fieldPrime", "loop.example/g00412/impl.curveD", "loop.example/g00412/impl.groupOrder", "loop.example/g00412/impl.curveBaseX", "loop.example/g00412/impl.curveBaseY"], fn := fun _ => fun
  | [d, g1, g2, g3, g4, g5] => { results := [.lit (.bool false)], args := [d], vars := [g1, g2, g3, g4, g5] }
  | _ => none }
def FnMultsWrongFalsely : Prop := fnMultsRow.holds Tryd.pinned (OpenSpec.ofChange fnMultsWrong)

/-- 'laws.FnPtBytes': WHATEVER THE INPUT: true; the input reads as it did. -/
def fnPtBytesSpec : ChangeSpec := { name := "fnPtBytes", vars := ["loop.example/g00412/impl.fieldPrime", "loop.example/g00412/impl.curveD", "loop.example/g00412/impl.rootOfMinusOne", "loop.example/g00412/impl.curveBaseX", "loop.example/g00412/impl.curveBaseY"], fn := fun _ => fun
  | [d, g1, g2, g3, g4, g5] => { results := [.lit (.bool true)], args := [d], vars := [g1, g2, g3, g4, g5] }
  | _ => none }
def fnPtBytesRow : OpenClaim := { program := "ytoblilngppjmhaadoor", sum := "ea62fb6358f98e5034c2250623349535a2dde909c639af9b1dcbf2c5fe77dbb0", func := "loop.example/g00412/laws.FnPtBytes", spec := "fnPtBytes", unfollowed := true, recurses := true, named := ["loop.example/g00412/impl.fieldPrime", "loop.example/g00412/impl.curveD", "loop.example/g00412/impl.rootOfMinusOne", "loop.example/g00412/impl.curveBaseX", "loop.example/g00412/impl.curveBaseY"], apart := false, laid := [("loop.example/g00412/impl.fieldPrime", laid_loop_example_g00412_impl_fieldPrime), ("loop.example/g00412/impl.rootOfMinusOne", laid_loop_example_g00412_impl_rootOfMinusOne), ("loop.example/g00412/impl.curveD", laid_loop_example_g00412_impl_curveD), ("loop.example/g00412/impl.curveBaseX", laid_loop_example_g00412_impl_curveBaseX), ("loop.example/g00412/impl.curveBaseY", laid_loop_example_g00412_impl_curveBaseY)] }
def FnPtBytesSaid : Prop := fnPtBytesRow.holds Tryd.pinned (OpenSpec.ofChange fnPtBytesSpec)

/-- ITS FALSE NEIGHBOUR: 'it returns false'. Refute it at one input. -/
def fnPtBytesWrong : ChangeSpec := { name := "fnPtBytes", vars := ["loop.example/g00412/impl.fieldPrime", "loop.example/g00412/impl.curveD", "loop.example/g00412/impl.rootOfMinusOne", "loop.example/g00412/impl.curveBaseX", "loop.example/g00412/impl.curveBaseY"], fn := fun _ => fun
  | [d, g1, g2, g3, g4, g5] => { results := [.lit (.bool false)], args := [d], vars := [g1, g2, g3, g4, g5] }
  | _ => none }
def FnPtBytesWrongFalsely : Prop := fnPtBytesRow.holds Tryd.pinned (OpenSpec.ofChange fnPtBytesWrong)

/-- 'laws.FnExactPtOk': WHATEVER THE INPUT: true; the input reads as it did. -/
def fnExactPtOkSpec : ChangeSpec := { name := "fnExactPtOk", vars := ["loop.example/g00412/impl.fieldPrime", "loop.example/g00412/impl.curveD"], fn := fun _ => fun
  | [d, g1, g2] => { results := [.lit (.bool true)], args := [d], vars := [g1, g2] }
  | _ => none }
def fnExactPtOkRow : OpenClaim := { program := "ytoblilngppjmhaadoor", sum := "ea62fb6358f98e5034c2250623349535a2dde909c639af9b1dcbf2c5fe77dbb0", func := "loop.example/g00412/laws.FnExactPtOk", spec := "fnExactPtOk", named := ["loop.example/g00412/impl.fieldPrime", "loop.example/g00412/impl.curveD"], apart := false, laid := [("loop.example/g00412/impl.fieldPrime", laid_loop_example_g00412_impl_fieldPrime), ("loop.example/g00412/impl.curveD", laid_loop_example_g00412_impl_curveD)] }
def FnExactPtOkSaid : Prop := fnExactPtOkRow.holds Tryd.pinned (OpenSpec.ofChange fnExactPtOkSpec)

/-- ITS FALSE NEIGHBOUR: 'it returns false'. Refute it at one input. -/
def fnExactPtOkWrong : ChangeSpec := { name := "fnExactPtOk", vars := ["loop.example/g00412/impl.fieldPrime", "loop.example/g00412/impl.curveD"], fn := fun _ => fun
  | [d, g1, g2] => { results := [.lit (.bool false)], args := [d], vars := [g1, g2] }
  | _ => none }
def FnExactPtOkWrongFalsely : Prop := fnExactPtOkRow.holds Tryd.pinned (OpenSpec.ofChange fnExactPtOkWrong)

/-- 'laws.FnExactPtBase': WHATEVER THE INPUT: true; the input reads as it did. -/
def fnExactPtBaseSpec : ChangeSpec := { name := "fnExactPtBase", vars := ["loop.example/g00412/impl.curveBaseX", "loop.example/g00412/impl.curveBaseY"], fn := fun _ => fun
  | [g1, g2] => { results := [.lit (.bool true)], args := [], vars := [g1, g2] }
  | _ => none }
def fnExactPtBaseRow : OpenClaim := { program := "ytoblilngppjmhaadoor", sum := "ea62fb6358f98e5034c2250623349535a2dde909c639af9b1dcbf2c5fe77dbb0", func := "loop.example/g00412/laws.FnExactPtBase", spec := "fnExactPtBase", named := ["loop.example/g00412/impl.curveBaseX", "loop.example/g00412/impl.curveBaseY"], apart := false, laid := [("loop.example/g00412/impl.curveBaseX", laid_loop_example_g00412_impl_curveBaseX), ("loop.example/g00412/impl.curveBaseY", laid_loop_example_g00412_impl_curveBaseY)] }
def FnExactPtBaseSaid : Prop := fnExactPtBaseRow.holds Tryd.pinned (OpenSpec.ofChange fnExactPtBaseSpec)

/-- ITS FALSE NEIGHBOUR: 'it returns false'. Refute it at one input. -/
def fnExactPtBaseWrong : ChangeSpec := { name := "fnExactPtBase", vars := ["loop.example/g00412/impl.curveBaseX", "loop.example/g00412/impl.curveBaseY"], fn := fun _ => fun
  | [g1, g2] => { results := [.lit (.bool false)], args := [], vars := [g1, g2] }
  | _ => none }
def FnExactPtBaseWrongFalsely : Prop := fnExactPtBaseRow.holds Tryd.pinned (OpenSpec.ofChange fnExactPtBaseWrong)

/-- 'laws.FnExactPtAdd': WHATEVER THE INPUT: true; the input reads as it did. -/
def fnExactPtAddSpec : ChangeSpec := { name := "fnExactPtAdd", vars := ["loop.example/g00412/impl.fieldPrime", "loop.example/g00412/impl.curveD"], fn := fun _ => fun
  | [d1, d2, g1, g2] => { results := [.lit (.bool true)], args := [d1, d2], vars := [g1, g2] }
  | _ => none }
def fnExactPtAddRow : OpenClaim := { program := "ytoblilngppjmhaadoor", sum := "ea62fb6358f98e5034c2250623349535a2dde909c639af9b1dcbf2c5fe77dbb0", func := "loop.example/g00412/laws.FnExactPtAdd", spec := "fnExactPtAdd", unfollowed := true, recurses := true, named := ["loop.example/g00412/impl.fieldPrime", "loop.example/g00412/impl.curveD"], apart := false, laid := [("loop.example/g00412/impl.fieldPrime", laid_loop_example_g00412_impl_fieldPrime), ("loop.example/g00412/impl.curveD", laid_loop_example_g00412_impl_curveD)] }
def FnExactPtAddSaid : Prop := fnExactPtAddRow.holds Tryd.pinned (OpenSpec.ofChange fnExactPtAddSpec)

/-- ITS FALSE NEIGHBOUR: 'it returns false'. Refute it at one input. -/
def fnExactPtAddWrong : ChangeSpec := { name := "fnExactPtAdd", vars := ["loop.example/g00412/impl.fieldPrime", "loop.example/g00412/impl.curveD"], fn := fun _ => fun
  | [d1, d2, g1, g2] => { results := [.lit (.bool false)], args := [d1, d2], vars := [g1, g2] }
  | _ => none }
def FnExactPtAddWrongFalsely : Prop := fnExactPtAddRow.holds Tryd.pinned (OpenSpec.ofChange fnExactPtAddWrong)

/-- 'laws.FnExactPtNeg': WHATEVER THE INPUT: true; the input reads as it did. -/
def fnExactPtNegSpec : ChangeSpec := { name := "fnExactPtNeg", vars := ["loop.example/g00412/impl.fieldPrime", "loop.example/g00412/impl.curveD"], fn := fun _ => fun
  | [d, g1, g2] => { results := [.lit (.bool true)], args := [d], vars := [g1, g2] }
  | _ => none }
def fnExactPtNegRow : OpenClaim := { program := "ytoblilngppjmhaadoor", sum := "ea62fb6358f98e5034c2250623349535a2dde909c639af9b1dcbf2c5fe77dbb0", func := "loop.example/g00412/laws.FnExactPtNeg", spec := "fnExactPtNeg", named := ["loop.example/g00412/impl.fieldPrime", "loop.example/g00412/impl.curveD"], apart := false, laid := [("loop.example/g00412/impl.fieldPrime", laid_loop_example_g00412_impl_fieldPrime), ("loop.example/g00412/impl.curveD", laid_loop_example_g00412_impl_curveD)] }
def FnExactPtNegSaid : Prop := fnExactPtNegRow.holds Tryd.pinned (OpenSpec.ofChange fnExactPtNegSpec)

/-- ITS FALSE NEIGHBOUR: 'it returns false'. Refute it at one input. -/
def fnExactPtNegWrong : ChangeSpec := { name := "fnExactPtNeg", vars := ["loop.example/g00412/impl.fieldPrime", "loop.example/g00412/impl.curveD"], fn := fun _ => fun
  | [d, g1, g2] => { results := [.lit (.bool false)], args := [d], vars := [g1, g2] }
  | _ => none }
def FnExactPtNegWrongFalsely : Prop := fnExactPtNegRow.holds Tryd.pinned (OpenSpec.ofChange fnExactPtNegWrong)

/-- 'laws.FnExactPtMul': WHATEVER THE INPUT: true; the input reads as it did. -/
def fnExactPtMulSpec : ChangeSpec := { name := "fnExactPtMul", vars := ["loop.example/g00412/impl.fieldPrime", "loop.example/g00412/impl.curveD", "loop.example/g00412/impl.groupOrder"], fn := fun _ => fun
  | [d1, d2, g1, g2, g3] => { results := [.lit (.bool true)], args := [d1, d2], vars := [g1, g2, g3] }
  | _ => none }
def fnExactPtMulRow : OpenClaim := { program := "ytoblilngppjmhaadoor", sum := "ea62fb6358f98e5034c2250623349535a2dde909c639af9b1dcbf2c5fe77dbb0", func := "loop.example/g00412/laws.FnExactPtMul", spec := "fnExactPtMul", unfollowed := true, recurses := true, named := ["loop.example/g00412/impl.fieldPrime", "loop.example/g00412/impl.curveD", "loop.example/g00412/impl.groupOrder"], apart := false, laid := [("loop.example/g00412/impl.fieldPrime", laid_loop_example_g00412_impl_fieldPrime), ("loop.example/g00412/impl.groupOrder", laid_loop_example_g00412_impl_groupOrder), ("loop.example/g00412/impl.curveD", laid_loop_example_g00412_impl_curveD)] }
def FnExactPtMulSaid : Prop := fnExactPtMulRow.holds Tryd.pinned (OpenSpec.ofChange fnExactPtMulSpec)

/-- ITS FALSE NEIGHBOUR: 'it returns false'. Refute it at one input. -/
def fnExactPtMulWrong : ChangeSpec := { name := "fnExactPtMul", vars := ["loop.example/g00412/impl.fieldPrime", "loop.example/g00412/impl.curveD", "loop.example/g00412/impl.groupOrder"], fn := fun _ => fun
  | [d1, d2, g1, g2, g3] => { results := [.lit (.bool false)], args := [d1, d2], vars := [g1, g2, g3] }
  | _ => none }
def FnExactPtMulWrongFalsely : Prop := fnExactPtMulRow.holds Tryd.pinned (OpenSpec.ofChange fnExactPtMulWrong)

/-- 'laws.FnExactPtBytes': WHATEVER THE INPUT: true; the input reads as it did. -/
def fnExactPtBytesSpec : ChangeSpec := { name := "fnExactPtBytes", vars := ["loop.example/g00412/impl.fieldPrime", "loop.example/g00412/impl.curveD"], fn := fun _ => fun
  | [d, g1, g2] => { results := [.lit (.bool true)], args := [d], vars := [g1, g2] }
  | _ => none }
def fnExactPtBytesRow : OpenClaim := { program := "ytoblilngppjmhaadoor", sum := "ea62fb6358f98e5034c2250623349535a2dde909c639af9b1dcbf2c5fe77dbb0", func := "loop.example/g00412/laws.FnExactPtBytes", spec := "fnExactPtBytes", named := ["loop.example/g00412/impl.fieldPrime", "loop.example/g00412/impl.curveD"], apart := false, laid := [("loop.example/g00412/impl.fieldPrime", laid_loop_example_g00412_impl_fieldPrime), ("loop.example/g00412/impl.curveD", laid_loop_example_g00412_impl_curveD)] }
def FnExactPtBytesSaid : Prop := fnExactPtBytesRow.holds Tryd.pinned (OpenSpec.ofChange fnExactPtBytesSpec)

/-- ITS FALSE NEIGHBOUR: 'it returns false'. Refute it at one input. -/
def fnExactPtBytesWrong : ChangeSpec := { name := "fnExactPtBytes", vars := ["loop.example/g00412/impl.fieldPrime", "loop.example/g00412/impl.curveD"], fn := fun _ => fun
  | [d, g1, g2] => { results := [.lit (.bool false)], args := [d], vars := [g1, g2] }
  | _ => none }
def FnExactPtBytesWrongFalsely : Prop := fnExactPtBytesRow.holds Tryd.pinned (OpenSpec.ofChange fnExactPtBytesWrong)

/-- 'laws.FnExactPtRead': WHATEVER THE INPUT: true; the input reads as it did. -/
def fnExactPtReadSpec : ChangeSpec := { name := "fnExactPtRead", vars := ["loop.example/g00412/impl.fieldPrime", "loop.example/g00412/impl.curveD", "loop.example/g00412/impl.rootOfMinusOne"], fn := fun _ => fun
  | [d, g1, g2, g3] => { results := [.lit (.bool true)], args := [d], vars := [g1, g2, g3] }
  | _ => none }
def fnExactPtReadRow : OpenClaim := { program := "ytoblilngppjmhaadoor", sum := "ea62fb6358f98e5034c2250623349535a2dde909c639af9b1dcbf2c5fe77dbb0", func := "loop.example/g00412/laws.FnExactPtRead", spec := "fnExactPtRead", unfollowed := true, recurses := true, named := ["loop.example/g00412/impl.fieldPrime", "loop.example/g00412/impl.curveD", "loop.example/g00412/impl.rootOfMinusOne"], apart := false, laid := [("loop.example/g00412/impl.fieldPrime", laid_loop_example_g00412_impl_fieldPrime), ("loop.example/g00412/impl.rootOfMinusOne", laid_loop_example_g00412_impl_rootOfMinusOne), ("loop.example/g00412/impl.curveD", laid_loop_example_g00412_impl_curveD)] }
def FnExactPtReadSaid : Prop := fnExactPtReadRow.holds Tryd.pinned (OpenSpec.ofChange fnExactPtReadSpec)

/-- ITS FALSE NEIGHBOUR: 'it returns false'. Refute it at one input. -/
def fnExactPtReadWrong : ChangeSpec := { name := "fnExactPtRead", vars := ["loop.example/g00412/impl.fieldPrime", "loop.example/g00412/impl.curveD", "loop.example/g00412/impl.rootOfMinusOne"], fn := fun _ => fun
  | [d, g1, g2, g3] => { results := [.lit (.bool false)], args := [d], vars := [g1, g2, g3] }
  | _ => none }
def FnExactPtReadWrongFalsely : Prop := fnExactPtReadRow.holds Tryd.pinned (OpenSpec.ofChange fnExactPtReadWrong)

/-- 'laws.FnExactPtTwice': WHATEVER THE INPUT: true; the input reads as it did. -/
def fnExactPtTwiceSpec : ChangeSpec := { name := "fnExactPtTwice", vars := ["loop.example/g00412/impl.fieldPrime", "loop.example/g00412/impl.curveD"], fn := fun _ => fun
  | [d, g1, g2] => { results := [.lit (.bool true)], args := [d], vars := [g1, g2] }
  | _ => none }
def fnExactPtTwiceRow : OpenClaim := { program := "ytoblilngppjmhaadoor", sum := "ea62fb6358f98e5034c2250623349535a2dde909c639af9b1dcbf2c5fe77dbb0", func := "loop.example/g00412/laws.FnExactPtTwice", spec := "fnExactPtTwice", unfollowed := true, recurses := true, named := ["loop.example/g00412/impl.fieldPrime", "loop.example/g00412/impl.curveD"], apart := false, laid := [("loop.example/g00412/impl.fieldPrime", laid_loop_example_g00412_impl_fieldPrime), ("loop.example/g00412/impl.curveD", laid_loop_example_g00412_impl_curveD)] }
def FnExactPtTwiceSaid : Prop := fnExactPtTwiceRow.holds Tryd.pinned (OpenSpec.ofChange fnExactPtTwiceSpec)

/-- ITS FALSE NEIGHBOUR: 'it returns false'. Refute it at one input. -/
def fnExactPtTwiceWrong : ChangeSpec := { name := "fnExactPtTwice", vars := ["loop.example/g00412/impl.fieldPrime", "loop.example/g00412/impl.curveD"], fn := fun _ => fun
  | [d, g1, g2] => { results := [.lit (.bool false)], args := [d], vars := [g1, g2] }
  | _ => none }
def FnExactPtTwiceWrongFalsely : Prop := fnExactPtTwiceRow.holds Tryd.pinned (OpenSpec.ofChange fnExactPtTwiceWrong)

/- THE SECOND FORM. 'bulk': how many values and letters a reading holds, each counted each time it is reached (what is shared counts as often as it is met; a slice's spare places count too). A statement '..UptoSaid' is the law's where the arguments, and the package variables that the reading takes, are together of bulk at most 1048576: NARROWER than '..Said'. Prove '..Said' where nothing that the law and all that it calls make is longer than what came in: it says more and counts as full. Else prove '..UptoSaid'. A law counts once. -/
mutual
def uptoBulk {H : Type} : DataW H → Nat
  | .lit (.string bytes) => bytes.length + 1
  | .lit _ => 1
  | .nil => 1
  | .ptr d => uptoBulk d + 1
  | .slice elems spare => uptoBulkAll elems + uptoBulkAll spare + 1
  | .agg parts => uptoBulkAll parts + 1
  | .iface _ d => uptoBulk d + 1
  | .map entries => uptoBulkEntries entries + 1
  | .held _ => 1
def uptoBulkAll {H : Type} : List (DataW H) → Nat
  | [] => 0
  | d :: r => uptoBulk d + uptoBulkAll r
def uptoBulkEntries {H : Type} : List (Lit × DataW H) → Nat
  | [] => 0
  | x :: r => uptoBulkEntry x + uptoBulkEntries r
def uptoBulkEntry {H : Type} : Lit × DataW H → Nat
  | (.string bytes, d) => bytes.length + uptoBulk d + 1
  | (_, d) => uptoBulk d + 1
 end
def uptoSmall : (H : Type) → List (DataW H) → Bool := fun _ ds => decide (uptoBulkAll ds ≤ 1048576)
def OpenSpec.upto (s : _root_.Go.ChangeSpec) : _root_.Go.OpenSpec := { _root_.Go.OpenSpec.ofChange s with cond := some uptoSmall }

/-- 'laws.FnPoints', WHERE WHAT IT READS IS OF BULK AT MOST 1048576: true; the input reads as it did. -/
def fnPointsUptoRow : OpenClaim := { program := "ytoblilngppjmhaadoor", sum := "ea62fb6358f98e5034c2250623349535a2dde909c639af9b1dcbf2c5fe77dbb0", func := "loop.example/g00412/laws.FnPoints", spec := "fnPoints", unfollowed := true, recurses := true, named := ["loop.example/g00412/impl.fieldPrime", "loop.example/g00412/impl.curveD"], apart := false, laid := [("loop.example/g00412/impl.fieldPrime", laid_loop_example_g00412_impl_fieldPrime), ("loop.example/g00412/impl.curveD", laid_loop_example_g00412_impl_curveD)], narrowed := true }
def FnPointsUptoSaid : Prop := fnPointsUptoRow.holds Tryd.pinned (OpenSpec.upto fnPointsSpec)

/-- 'laws.FnMults', WHERE WHAT IT READS IS OF BULK AT MOST 1048576: true; the input reads as it did. -/
def fnMultsUptoRow : OpenClaim := { program := "ytoblilngppjmhaadoor", sum := "ea62fb6358f98e5034c2250623349535a2dde909c639af9b1dcbf2c5fe77dbb0", func := "loop.example/g00412/laws.FnMults", spec := "fnMults", unfollowed := true, recurses := true, named := ["loop.example/g00412/impl.fieldPrime", "loop.example/g00412/impl.curveD", "loop.example/g00412/impl.groupOrder", "loop.example/g00412/impl.curveBaseX", "loop.example/g00412/impl.curveBaseY"], apart := false, laid := [("loop.example/g00412/impl.fieldPrime", laid_loop_example_g00412_impl_fieldPrime), ("loop.example/g00412/impl.groupOrder", laid_loop_example_g00412_impl_groupOrder), ("loop.example/g00412/impl.curveD", laid_loop_example_g00412_impl_curveD), ("loop.example/g00412/impl.curveBaseX", laid_loop_example_g00412_impl_curveBaseX), ("loop.example/g00412/impl.curveBaseY", laid_loop_example_g00412_impl_curveBaseY)], narrowed := true }
def FnMultsUptoSaid : Prop := fnMultsUptoRow.holds Tryd.pinned (OpenSpec.upto fnMultsSpec)

/-- 'laws.FnPtBytes', WHERE WHAT IT READS IS OF BULK AT MOST 1048576: true; the input reads as it did. -/
def fnPtBytesUptoRow : OpenClaim := { program := "ytoblilngppjmhaadoor", sum := "ea62fb6358f98e5034c2250623349535a2dde909c639af9b1dcbf2c5fe77dbb0", func := "loop.example/g00412/laws.FnPtBytes", spec := "fnPtBytes", unfollowed := true, recurses := true, named := ["loop.example/g00412/impl.fieldPrime", "loop.example/g00412/impl.curveD", "loop.example/g00412/impl.rootOfMinusOne", "loop.example/g00412/impl.curveBaseX", "loop.example/g00412/impl.curveBaseY"], apart := false, laid := [("loop.example/g00412/impl.fieldPrime", laid_loop_example_g00412_impl_fieldPrime), ("loop.example/g00412/impl.rootOfMinusOne", laid_loop_example_g00412_impl_rootOfMinusOne), ("loop.example/g00412/impl.curveD", laid_loop_example_g00412_impl_curveD), ("loop.example/g00412/impl.curveBaseX", laid_loop_example_g00412_impl_curveBaseX), ("loop.example/g00412/impl.curveBaseY", laid_loop_example_g00412_impl_curveBaseY)], narrowed := true }
def FnPtBytesUptoSaid : Prop := fnPtBytesUptoRow.holds Tryd.pinned (OpenSpec.upto fnPtBytesSpec)

/-- 'laws.FnExactPtOk', WHERE WHAT IT READS IS OF BULK AT MOST 1048576: true; the input reads as it did. -/
def fnExactPtOkUptoRow : OpenClaim := { program := "ytoblilngppjmhaadoor", sum := "ea62fb6358f98e5034c2250623349535a2dde909c639af9b1dcbf2c5fe77dbb0", func := "loop.example/g00412/laws.FnExactPtOk", spec := "fnExactPtOk", named := ["loop.example/g00412/impl.fieldPrime", "loop.example/g00412/impl.curveD"], apart := false, laid := [("loop.example/g00412/impl.fieldPrime", laid_loop_example_g00412_impl_fieldPrime), ("loop.example/g00412/impl.curveD", laid_loop_example_g00412_impl_curveD)], narrowed := true }
def FnExactPtOkUptoSaid : Prop := fnExactPtOkUptoRow.holds Tryd.pinned (OpenSpec.upto fnExactPtOkSpec)

/-- 'laws.FnExactPtBase', WHERE WHAT IT READS IS OF BULK AT MOST 1048576: true; the input reads as it did. -/
def fnExactPtBaseUptoRow : OpenClaim := { program := "ytoblilngppjmhaadoor", sum := "ea62fb6358f98e5034c2250623349535a2dde909c639af9b1dcbf2c5fe77dbb0", func := "loop.example/g00412/laws.FnExactPtBase", spec := "fnExactPtBase", named := ["loop.example/g00412/impl.curveBaseX", "loop.example/g00412/impl.curveBaseY"], apart := false, laid := [("loop.example/g00412/impl.curveBaseX", laid_loop_example_g00412_impl_curveBaseX), ("loop.example/g00412/impl.curveBaseY", laid_loop_example_g00412_impl_curveBaseY)], narrowed := true }
def FnExactPtBaseUptoSaid : Prop := fnExactPtBaseUptoRow.holds Tryd.pinned (OpenSpec.upto fnExactPtBaseSpec)

/-- 'laws.FnExactPtAdd', WHERE WHAT IT READS IS OF BULK AT MOST 1048576: true; the input reads as it did. -/
def fnExactPtAddUptoRow : OpenClaim := { program := "ytoblilngppjmhaadoor", sum := "ea62fb6358f98e5034c2250623349535a2dde909c639af9b1dcbf2c5fe77dbb0", func := "loop.example/g00412/laws.FnExactPtAdd", spec := "fnExactPtAdd", unfollowed := true, recurses := true, named := ["loop.example/g00412/impl.fieldPrime", "loop.example/g00412/impl.curveD"], apart := false, laid := [("loop.example/g00412/impl.fieldPrime", laid_loop_example_g00412_impl_fieldPrime), ("loop.example/g00412/impl.curveD", laid_loop_example_g00412_impl_curveD)], narrowed := true }
def FnExactPtAddUptoSaid : Prop := fnExactPtAddUptoRow.holds Tryd.pinned (OpenSpec.upto fnExactPtAddSpec)

/-- 'laws.FnExactPtNeg', WHERE WHAT IT READS IS OF BULK AT MOST 1048576: true; the input reads as it did. -/
def fnExactPtNegUptoRow : OpenClaim := { program := "ytoblilngppjmhaadoor", sum := "ea62fb6358f98e5034c2250623349535a2dde909c639af9b1dcbf2c5fe77dbb0", func := "loop.example/g00412/laws.FnExactPtNeg", spec := "fnExactPtNeg", named := ["loop.example/g00412/impl.fieldPrime", "loop.example/g00412/impl.curveD"], apart := false, laid := [("loop.example/g00412/impl.fieldPrime", laid_loop_example_g00412_impl_fieldPrime), ("loop.example/g00412/impl.curveD", laid_loop_example_g00412_impl_curveD)], narrowed := true }
def FnExactPtNegUptoSaid : Prop := fnExactPtNegUptoRow.holds Tryd.pinned (OpenSpec.upto fnExactPtNegSpec)

/-- 'laws.FnExactPtMul', WHERE WHAT IT READS IS OF BULK AT MOST 1048576: true; the input reads as it did. -/
def fnExactPtMulUptoRow : OpenClaim := { program := "ytoblilngppjmhaadoor", sum := "ea62fb6358f98e5034c2250623349535a2dde909c639af9b1dcbf2c5fe77dbb0", func := "loop.example/g00412/laws.FnExactPtMul", spec := "fnExactPtMul", unfollowed := true, recurses := true, named := ["loop.example/g00412/impl.fieldPrime", "loop.example/g00412/impl.curveD", "loop.example/g00412/impl.groupOrder"], apart := false, laid := [("loop.example/g00412/impl.fieldPrime", laid_loop_example_g00412_impl_fieldPrime), ("loop.example/g00412/impl.groupOrder", laid_loop_example_g00412_impl_groupOrder), ("loop.example/g00412/impl.curveD", laid_loop_example_g00412_impl_curveD)], narrowed := true }
def FnExactPtMulUptoSaid : Prop := fnExactPtMulUptoRow.holds Tryd.pinned (OpenSpec.upto fnExactPtMulSpec)

/-- 'laws.FnExactPtBytes', WHERE WHAT IT READS IS OF BULK AT MOST 1048576: true; the input reads as it did. -/
def fnExactPtBytesUptoRow : OpenClaim := { program := "ytoblilngppjmhaadoor", sum := "ea62fb6358f98e5034c2250623349535a2dde909c639af9b1dcbf2c5fe77dbb0", func := "loop.example/g00412/laws.FnExactPtBytes", spec := "fnExactPtBytes", named := ["loop.example/g00412/impl.fieldPrime", "loop.example/g00412/impl.curveD"], apart := false, laid := [("loop.example/g00412/impl.fieldPrime", laid_loop_example_g00412_impl_fieldPrime), ("loop.example/g00412/impl.curveD", laid_loop_example_g00412_impl_curveD)], narrowed := true }
def FnExactPtBytesUptoSaid : Prop := fnExactPtBytesUptoRow.holds Tryd.pinned (OpenSpec.upto fnExactPtBytesSpec)

/-- 'laws.FnExactPtRead', WHERE WHAT IT READS IS OF BULK AT MOST 1048576: true; the input reads as it did. -/
def fnExactPtReadUptoRow : OpenClaim := { program := "ytoblilngppjmhaadoor", sum := "ea62fb6358f98e5034c2250623349535a2dde909c639af9b1dcbf2c5fe77dbb0", func := "loop.example/g00412/laws.FnExactPtRead", spec := "fnExactPtRead", unfollowed := true, recurses := true, named := ["loop.example/g00412/impl.fieldPrime", "loop.example/g00412/impl.curveD", "loop.example/g00412/impl.rootOfMinusOne"], apart := false, laid := [("loop.example/g00412/impl.fieldPrime", laid_loop_example_g00412_impl_fieldPrime), ("loop.example/g00412/impl.rootOfMinusOne", laid_loop_example_g00412_impl_rootOfMinusOne), ("loop.example/g00412/impl.curveD", laid_loop_example_g00412_impl_curveD)], narrowed := true }
def FnExactPtReadUptoSaid : Prop := fnExactPtReadUptoRow.holds Tryd.pinned (OpenSpec.upto fnExactPtReadSpec)

/-- 'laws.FnExactPtTwice', WHERE WHAT IT READS IS OF BULK AT MOST 1048576: true; the input reads as it did. -/
def fnExactPtTwiceUptoRow : OpenClaim := { program := "ytoblilngppjmhaadoor", sum := "ea62fb6358f98e5034c2250623349535a2dde909c639af9b1dcbf2c5fe77dbb0", func := "loop.example/g00412/laws.FnExactPtTwice", spec := "fnExactPtTwice", unfollowed := true, recurses := true, named := ["loop.example/g00412/impl.fieldPrime", "loop.example/g00412/impl.curveD"], apart := false, laid := [("loop.example/g00412/impl.fieldPrime", laid_loop_example_g00412_impl_fieldPrime), ("loop.example/g00412/impl.curveD", laid_loop_example_g00412_impl_curveD)], narrowed := true }
def FnExactPtTwiceUptoSaid : Prop := fnExactPtTwiceUptoRow.holds Tryd.pinned (OpenSpec.upto fnExactPtTwiceSpec)

end Rows
end Go.Proofs.YtoblilngppjmhaaDoor
