/-
  NARROWER THAN 'FOR EVERY INPUT', by the rows' own cells (each row's printed sentence says how): FnScalars: laid · FnScRead: laid · FnExactScOk: laid · FnExactScRead: laid · FnExactScWide: laid · FnExactScAdd: laid · FnExactScMul: laid · FnExactScBytes: laid.
  DERIVED. THE GIVEN ROWS OF THIS SEAT. 8 by the template 'for every input the law returns true; each argument reads behind the call as it read before'; 0 by the template 'total and deterministic' (their statements: YtlafcjoccbinaaaDoorTotals.lean).
  GIVEN WITH THE SEED: the statements are not yours to turn. If you find one false, say at which input.
  Laid BY PROGRAM, IN A SANDBOX (cutbox-rows.mjs): the forced cells as the released guide's own fill.sh prints them over the translation bf043994f5520184… (all of the seat's roots in one cut). By AI agents, Wed Nov 11 2026. No macro, syntax, notation, axiom, sorry.
-/
import Derived.Test.YtlafcjoccbinaaaDoorChecked
import GoSem.Claim
import GoSem.ClaimJoined
import GoSem.ClaimMapViews
import Derived.JoinedTies
import Derived.KernelRfl
namespace Go.Proofs.YtlafcjoccbinaaaDoor
/- THE CELL 'sum', in the pinned program and in every row, IS THE sha256 OF THE DUMP (.gsa) THAT YtlafcjoccbinaaaDoorProg.lean LOADS. Nothing in Lean hashes anything: it is a label: what it is worth is what the hold of that sum in a sandbox is worth. -/
noncomputable def Tryd.pinned : Pinned := { name := "ytlafcjoccbinaaadoor", sum := "bf043994f5520184cfa573ec1c9b66ecd9caf974cce459cb74a3a84dccec0354", checked := Tryd.checked }
namespace Rows
def none {H : Type} : Left H := { results := [], args := [] }

/- WHAT THE LISTED PACKAGE-LEVEL VARIABLES READ AS WHEN THE CALL BEGINS. Each datum BY PROGRAM (the guide's laid-datum.mjs) off the statement by which the dump's own 'gosem.cut.vars' lays the variable. In a bare row this is a premise. The card (YtlafcjoccbinaaaDoorCards.lean) ties it to the program's text. -/
def laid_loop_example_g00412_impl_groupOrder {H : Type} : DataW H := .agg [.lit (.int .i64 54253), .lit (.int .i64 23797), .lit (.int .i64 25370), .lit (.int .i64 22546), .lit (.int .i64 40150), .lit (.int .i64 41719), .lit (.int .i64 63966), .lit (.int .i64 5342), .lit (.int .i64 0), .lit (.int .i64 0), .lit (.int .i64 0), .lit (.int .i64 0), .lit (.int .i64 0), .lit (.int .i64 0), .lit (.int .i64 0), .lit (.int .i64 4096)]

/-- 'laws.FnScalars': WHATEVER THE INPUT: true; the input reads as it did. -/
def fnScalarsSpec : ChangeSpec := { name := "fnScalars", vars := ["loop.example/g00412/impl.groupOrder"], fn := fun _ => fun
  | [d, g1] => { results := [.lit (.bool true)], args := [d], vars := [g1] }
  | _ => none }
def fnScalarsRow : OpenClaim := { program := "ytlafcjoccbinaaadoor", sum := "bf043994f5520184cfa573ec1c9b66ecd9caf974cce459cb74a3a84dccec0354", func := "loop.example/g00412/laws.FnScalars", spec := "fnScalars", unfollowed := true, recurses := true, named := ["loop.example/g00412/impl.groupOrder"], apart := false, laid := [("loop.example/g00412/impl.groupOrder", laid_loop_example_g00412_impl_groupOrder)] }
def FnScalarsSaid : Prop := fnScalarsRow.holds Tryd.pinned (OpenSpec.ofChange fnScalarsSpec)

/-- ITS FALSE NEIGHBOUR: 'it returns false'. Refute it at one input. -/
def fnScalarsWrong : ChangeSpec := { name := "fnScalars", vars := ["loop.example/g00412/impl.groupOrder"], fn := fun _ => fun
  | [d, g1] => { results := [.lit (.bool false)], args := [d], vars := [g1] }
  | _ => none }
def FnScalarsWrongFalsely : Prop := fnScalarsRow.holds Tryd.pinned (OpenSpec.ofChange fnScalarsWrong)

/-- 'laws.FnScRead': WHATEVER THE INPUT: true; the input reads as it did. -/
def fnScReadSpec : ChangeSpec := { name := "fnScRead", vars := ["loop.example/g00412/impl.groupOrder"], fn := fun _ => fun
  | [d, g1] => { results := [.lit (.bool true)], args := [d], vars := [g1] }
  | _ => none }
def fnScReadRow : OpenClaim := { program := "ytlafcjoccbinaaadoor", sum := "bf043994f5520184cfa573ec1c9b66ecd9caf974cce459cb74a3a84dccec0354", func := "loop.example/g00412/laws.FnScRead", spec := "fnScRead", unfollowed := true, recurses := true, named := ["loop.example/g00412/impl.groupOrder"], apart := false, laid := [("loop.example/g00412/impl.groupOrder", laid_loop_example_g00412_impl_groupOrder)] }
def FnScReadSaid : Prop := fnScReadRow.holds Tryd.pinned (OpenSpec.ofChange fnScReadSpec)

/-- ITS FALSE NEIGHBOUR: 'it returns false'. Refute it at one input. -/
def fnScReadWrong : ChangeSpec := { name := "fnScRead", vars := ["loop.example/g00412/impl.groupOrder"], fn := fun _ => fun
  | [d, g1] => { results := [.lit (.bool false)], args := [d], vars := [g1] }
  | _ => none }
def FnScReadWrongFalsely : Prop := fnScReadRow.holds Tryd.pinned (OpenSpec.ofChange fnScReadWrong)

/-- 'laws.FnExactScOk': WHATEVER THE INPUT: true; the input reads as it did. -/
def fnExactScOkSpec : ChangeSpec := { name := "fnExactScOk", vars := ["loop.example/g00412/impl.groupOrder"], fn := fun _ => fun
  | [d, g1] => { results := [.lit (.bool true)], args := [d], vars := [g1] }
  | _ => none }
def fnExactScOkRow : OpenClaim := { program := "ytlafcjoccbinaaadoor", sum := "bf043994f5520184cfa573ec1c9b66ecd9caf974cce459cb74a3a84dccec0354", func := "loop.example/g00412/laws.FnExactScOk", spec := "fnExactScOk", named := ["loop.example/g00412/impl.groupOrder"], apart := false, laid := [("loop.example/g00412/impl.groupOrder", laid_loop_example_g00412_impl_groupOrder)] }
def FnExactScOkSaid : Prop := fnExactScOkRow.holds Tryd.pinned (OpenSpec.ofChange fnExactScOkSpec)

/-- ITS FALSE NEIGHBOUR: 'it returns false'. Refute it at one input. -/
def fnExactScOkWrong : ChangeSpec := { name := "fnExactScOk", vars := ["loop.example/g00412/impl.groupOrder"], fn := fun _ => fun
  | [d, g1] => { results := [.lit (.bool false)], args := [d], vars := [g1] }
  | _ => none }
def FnExactScOkWrongFalsely : Prop := fnExactScOkRow.holds Tryd.pinned (OpenSpec.ofChange fnExactScOkWrong)

/-- 'laws.FnExactScRead': WHATEVER THE INPUT: true; the input reads as it did. -/
def fnExactScReadSpec : ChangeSpec := { name := "fnExactScRead", vars := ["loop.example/g00412/impl.groupOrder"], fn := fun _ => fun
  | [d, g1] => { results := [.lit (.bool true)], args := [d], vars := [g1] }
  | _ => none }
def fnExactScReadRow : OpenClaim := { program := "ytlafcjoccbinaaadoor", sum := "bf043994f5520184cfa573ec1c9b66ecd9caf974cce459cb74a3a84dccec0354", func := "loop.example/g00412/laws.FnExactScRead", spec := "fnExactScRead", named := ["loop.example/g00412/impl.groupOrder"], apart := false, laid := [("loop.example/g00412/impl.groupOrder", laid_loop_example_g00412_impl_groupOrder)] }
def FnExactScReadSaid : Prop := fnExactScReadRow.holds Tryd.pinned (OpenSpec.ofChange fnExactScReadSpec)

/-- ITS FALSE NEIGHBOUR: 'it returns false'. Refute it at one input. -/
def fnExactScReadWrong : ChangeSpec := { name := "fnExactScRead", vars := ["loop.example/g00412/impl.groupOrder"], fn := fun _ => fun
  | [d, g1] => { results := [.lit (.bool false)], args := [d], vars := [g1] }
  | _ => none }
def FnExactScReadWrongFalsely : Prop := fnExactScReadRow.holds Tryd.pinned (OpenSpec.ofChange fnExactScReadWrong)

/-- 'laws.FnExactScWide': WHATEVER THE INPUT: true; the input reads as it did. -/
def fnExactScWideSpec : ChangeSpec := { name := "fnExactScWide", vars := ["loop.example/g00412/impl.groupOrder"], fn := fun _ => fun
  | [d, g1] => { results := [.lit (.bool true)], args := [d], vars := [g1] }
  | _ => none }
def fnExactScWideRow : OpenClaim := { program := "ytlafcjoccbinaaadoor", sum := "bf043994f5520184cfa573ec1c9b66ecd9caf974cce459cb74a3a84dccec0354", func := "loop.example/g00412/laws.FnExactScWide", spec := "fnExactScWide", unfollowed := true, recurses := true, named := ["loop.example/g00412/impl.groupOrder"], apart := false, laid := [("loop.example/g00412/impl.groupOrder", laid_loop_example_g00412_impl_groupOrder)] }
def FnExactScWideSaid : Prop := fnExactScWideRow.holds Tryd.pinned (OpenSpec.ofChange fnExactScWideSpec)

/-- ITS FALSE NEIGHBOUR: 'it returns false'. Refute it at one input. -/
def fnExactScWideWrong : ChangeSpec := { name := "fnExactScWide", vars := ["loop.example/g00412/impl.groupOrder"], fn := fun _ => fun
  | [d, g1] => { results := [.lit (.bool false)], args := [d], vars := [g1] }
  | _ => none }
def FnExactScWideWrongFalsely : Prop := fnExactScWideRow.holds Tryd.pinned (OpenSpec.ofChange fnExactScWideWrong)

/-- 'laws.FnExactScAdd': WHATEVER THE INPUT: true; the input reads as it did. -/
def fnExactScAddSpec : ChangeSpec := { name := "fnExactScAdd", vars := ["loop.example/g00412/impl.groupOrder"], fn := fun _ => fun
  | [d1, d2, g1] => { results := [.lit (.bool true)], args := [d1, d2], vars := [g1] }
  | _ => none }
def fnExactScAddRow : OpenClaim := { program := "ytlafcjoccbinaaadoor", sum := "bf043994f5520184cfa573ec1c9b66ecd9caf974cce459cb74a3a84dccec0354", func := "loop.example/g00412/laws.FnExactScAdd", spec := "fnExactScAdd", named := ["loop.example/g00412/impl.groupOrder"], apart := false, laid := [("loop.example/g00412/impl.groupOrder", laid_loop_example_g00412_impl_groupOrder)] }
def FnExactScAddSaid : Prop := fnExactScAddRow.holds Tryd.pinned (OpenSpec.ofChange fnExactScAddSpec)

/-- ITS FALSE NEIGHBOUR: 'it returns false'. Refute it at one input. -/
def fnExactScAddWrong : ChangeSpec := { name := "fnExactScAdd", vars := ["loop.example/g00412/impl.groupOrder"], fn := fun _ => fun
  | [d1, d2, g1] => { results := [.lit (.bool false)], args := [d1, d2], vars := [g1] }
  | _ => none }
def FnExactScAddWrongFalsely : Prop := fnExactScAddRow.holds Tryd.pinned (OpenSpec.ofChange fnExactScAddWrong)

/-- 'laws.FnExactScMul': WHATEVER THE INPUT: true; the input reads as it did. -/
def fnExactScMulSpec : ChangeSpec := { name := "fnExactScMul", vars := ["loop.example/g00412/impl.groupOrder"], fn := fun _ => fun
  | [d1, d2, g1] => { results := [.lit (.bool true)], args := [d1, d2], vars := [g1] }
  | _ => none }
def fnExactScMulRow : OpenClaim := { program := "ytlafcjoccbinaaadoor", sum := "bf043994f5520184cfa573ec1c9b66ecd9caf974cce459cb74a3a84dccec0354", func := "loop.example/g00412/laws.FnExactScMul", spec := "fnExactScMul", unfollowed := true, recurses := true, named := ["loop.example/g00412/impl.groupOrder"], apart := false, laid := [("loop.example/g00412/impl.groupOrder", laid_loop_example_g00412_impl_groupOrder)] }
def FnExactScMulSaid : Prop := fnExactScMulRow.holds Tryd.pinned (OpenSpec.ofChange fnExactScMulSpec)

/-- ITS FALSE NEIGHBOUR: 'it returns false'. Refute it at one input. -/
def fnExactScMulWrong : ChangeSpec := { name := "fnExactScMul", vars := ["loop.example/g00412/impl.groupOrder"], fn := fun _ => fun
  | [d1, d2, g1] => { results := [.lit (.bool false)], args := [d1, d2], vars := [g1] }
  | _ => none }
def FnExactScMulWrongFalsely : Prop := fnExactScMulRow.holds Tryd.pinned (OpenSpec.ofChange fnExactScMulWrong)

/-- 'laws.FnExactScBytes': WHATEVER THE INPUT: true; the input reads as it did. -/
def fnExactScBytesSpec : ChangeSpec := { name := "fnExactScBytes", vars := ["loop.example/g00412/impl.groupOrder"], fn := fun _ => fun
  | [d, g1] => { results := [.lit (.bool true)], args := [d], vars := [g1] }
  | _ => none }
def fnExactScBytesRow : OpenClaim := { program := "ytlafcjoccbinaaadoor", sum := "bf043994f5520184cfa573ec1c9b66ecd9caf974cce459cb74a3a84dccec0354", func := "loop.example/g00412/laws.FnExactScBytes", spec := "fnExactScBytes", named := ["loop.example/g00412/impl.groupOrder"], apart := false, laid := [("loop.example/g00412/impl.groupOrder", laid_loop_example_g00412_impl_groupOrder)] }
def FnExactScBytesSaid : Prop := fnExactScBytesRow.holds Tryd.pinned (OpenSpec.ofChange fnExactScBytesSpec)

/-- ITS FALSE NEIGHBOUR: 'it returns false'. Refute it at one input. -/
def fnExactScBytesWrong : ChangeSpec := { name := "fnExactScBytes", vars := ["loop.example/g00412/impl.groupOrder"], fn := fun _ => fun
  | [d, g1] => { results := [.lit (.bool false)], args := [d], vars := [g1] }
  | _ => none }
def FnExactScBytesWrongFalsely : Prop := fnExactScBytesRow.holds Tryd.pinned (OpenSpec.ofChange fnExactScBytesWrong)

/- THE SECOND FORM. 'bulk': how many values and letters a reading holds, each counted each time it is reached (what is shared counts as often as it is met; a slice's spare places count too). A statement '..UptoSaid' is the law's where the arguments, and the package variables that the reading takes, are together of bulk at most 1048576: NARROWER than '..Said'. Prove '..Said' where nothing that the law and all that it calls make is longer than what came in: it says more and counts as full. Else prove '..UptoSaid'. A law counts once. -/
mutual
def uptoBulk {H : Type} : DataW H → Nat
  | .lit (.string bytes) => bytes.length + 1
  | .lit _ => 1
  | .nil => 1
  | .ptr d => uptoBulk d + 1
  | .slice elems spare => uptoBulkAll elems + uptoBulkAll spare + 1
  | .agg parts => uptoBulkAll parts + 1
  | .iface _ d => uptoBulk d + 1
  | .map entries => uptoBulkEntries entries + 1
  | .held _ => 1
def uptoBulkAll {H : Type} : List (DataW H) → Nat
  | [] => 0
  | d :: r => uptoBulk d + uptoBulkAll r
def uptoBulkEntries {H : Type} : List (Lit × DataW H) → Nat
  | [] => 0
  | x :: r => uptoBulkEntry x + uptoBulkEntries r
def uptoBulkEntry {H : Type} : Lit × DataW H → Nat
  | (.string bytes, d) => bytes.length + uptoBulk d + 1
  | (_, d) => uptoBulk d + 1
 end
def uptoSmall : (H : Type) → List (DataW H) → Bool := fun _ ds => decide (uptoBulkAll ds ≤ 1048576)
def OpenSpec.upto (s : _root_.Go.ChangeSpec) : _root_.Go.OpenSpec := { _root_.Go.OpenSpec.ofChange s with cond := some uptoSmall }

/-- 'laws.FnScalars', WHERE WHAT IT READS IS OF BULK AT MOST 1048576: true; the input reads as it did. -/
def fnScalarsUptoRow : OpenClaim := { program := "ytlafcjoccbinaaadoor", sum := "bf043994f5520184cfa573ec1c9b66ecd9caf974cce459cb74a3a84dccec0354", func := "loop.example/g00412/laws.FnScalars", spec := "fnScalars", unfollowed := true, recurses := true, named := ["loop.example/g00412/impl.groupOrder"], apart := false, laid := [("loop.example/g00412/impl.groupOrder", laid_loop_example_g00412_impl_groupOrder)], narrowed := true }
def FnScalarsUptoSaid : Prop := fnScalarsUptoRow.holds Tryd.pinned (OpenSpec.upto fnScalarsSpec)

/-- 'laws.FnScRead', WHERE WHAT IT READS IS OF BULK AT MOST 1048576: true; the input reads as it did. -/
def fnScReadUptoRow : OpenClaim := { program := "ytlafcjoccbinaaadoor", sum := "bf043994f5520184cfa573ec1c9b66ecd9caf974cce459cb74a3a84dccec0354", func := "loop.example/g00412/laws.FnScRead", spec := "fnScRead", unfollowed := true, recurses := true, named := ["loop.example/g00412/impl.groupOrder"], apart := false, laid := [("loop.example/g00412/impl.groupOrder", laid_loop_example_g00412_impl_groupOrder)], narrowed := true }
def FnScReadUptoSaid : Prop := fnScReadUptoRow.holds Tryd.pinned (OpenSpec.upto fnScReadSpec)

/-- 'laws.FnExactScOk', WHERE WHAT IT READS IS OF BULK AT MOST 1048576: true; the input reads as it did. -/
def fnExactScOkUptoRow : OpenClaim := { program := "ytlafcjoccbinaaadoor", sum := "bf043994f5520184cfa573ec1c9b66ecd9caf974cce459cb74a3a84dccec0354", func := "loop.example/g00412/laws.FnExactScOk", spec := "fnExactScOk", named := ["loop.example/g00412/impl.groupOrder"], apart := false, laid := [("loop.example/g00412/impl.groupOrder", laid_loop_example_g00412_impl_groupOrder)], narrowed := true }
def FnExactScOkUptoSaid : Prop := fnExactScOkUptoRow.holds Tryd.pinned (OpenSpec.upto fnExactScOkSpec)

/-- 'laws.FnExactScRead', WHERE WHAT IT READS IS OF BULK AT MOST 1048576: true; the input reads as it did. -/
def fnExactScReadUptoRow : OpenClaim := { program := "ytlafcjoccbinaaadoor", sum := "bf043994f5520184cfa573ec1c9b66ecd9caf974cce459cb74a3a84dccec0354", func := "loop.example/g00412/laws.FnExactScRead", spec := "fnExactScRead", named := ["loop.example/g00412/impl.groupOrder"], apart := false, laid := [("loop.example/g00412/impl.groupOrder", laid_loop_example_g00412_impl_groupOrder)], narrowed := true }
def FnExactScReadUptoSaid : Prop := fnExactScReadUptoRow.holds Tryd.pinned (OpenSpec.upto fnExactScReadSpec)

/-- 'laws.FnExactScWide', WHERE WHAT IT READS IS OF BULK AT MOST 1048576: true; the input reads as it did. -/
def fnExactScWideUptoRow : OpenClaim := { program := "ytlafcjoccbinaaadoor", sum := "bf043994f5520184cfa573ec1c9b66ecd9caf974cce459cb74a3a84dccec0354", func := "loop.example/g00412/laws.FnExactScWide", spec := "fnExactScWide", unfollowed := true, recurses := true, named := ["loop.example/g00412/impl.groupOrder"], apart := false, laid := [("loop.example/g00412/impl.groupOrder", laid_loop_example_g00412_impl_groupOrder)], narrowed := true }
def FnExactScWideUptoSaid : Prop := fnExactScWideUptoRow.holds Tryd.pinned (OpenSpec.upto fnExactScWideSpec)

/-- 'laws.FnExactScAdd', WHERE WHAT IT READS IS OF BULK AT MOST 1048576: true; the input reads as it did. -/
def fnExactScAddUptoRow : OpenClaim := { program := "ytlafcjoccbinaaadoor", sum := "bf043994f5520184cfa573ec1c9b66ecd9caf974cce459cb74a3a84dccec0354", func := "loop.example/g00412/laws.FnExactScAdd", spec := "fnExactScAdd", named := ["loop.example/g00412/impl.groupOrder"], apart := false, laid := [("loop.example/g00412/impl.groupOrder", laid_loop_example_g00412_impl_groupOrder)], narrowed := true }
def FnExactScAddUptoSaid : Prop := fnExactScAddUptoRow.holds Tryd.pinned (OpenSpec.upto fnExactScAddSpec)

/-- 'laws.FnExactScMul', WHERE WHAT IT READS IS OF BULK AT MOST 1048576: true; the input reads as it did. -/
def fnExactScMulUptoRow : OpenClaim := { program := "ytlafcjoccbinaaadoor", sum := "bf043994f5520184cfa573ec1c9b66ecd9caf974cce459cb74a3a84dccec0354", func := "loop.example/g00412/laws.FnExactScMul", spec := "fnExactScMul", unfollowed := true, recurses := true, named := ["loop.example/g00412/impl.groupOrder"], apart := false, laid := [("loop.example/g00412/impl.groupOrder", laid_loop_example_g00412_impl_groupOrder)], narrowed := true }
def FnExactScMulUptoSaid : Prop := fnExactScMulUptoRow.holds Tryd.pinned (OpenSpec.upto fnExactScMulSpec)

/-- 'laws.FnExactScBytes', WHERE WHAT IT READS IS OF BULK AT MOST 1048576: true; the input reads as it did. -/
def fnExactScBytesUptoRow : OpenClaim := { program := "ytlafcjoccbinaaadoor", sum := "bf043994f5520184cfa573ec1c9b66ecd9caf974cce459cb74a3a84dccec0354", func := "loop.example/g00412/laws.FnExactScBytes", spec := "fnExactScBytes", named := ["loop.example/g00412/impl.groupOrder"], apart := false, laid := [("loop.example/g00412/impl.groupOrder", laid_loop_example_g00412_impl_groupOrder)], narrowed := true }
def FnExactScBytesUptoSaid : Prop := fnExactScBytesUptoRow.holds Tryd.pinned (OpenSpec.upto fnExactScBytesSpec)

end Rows
end Go.Proofs.YtlafcjoccbinaaaDoor
