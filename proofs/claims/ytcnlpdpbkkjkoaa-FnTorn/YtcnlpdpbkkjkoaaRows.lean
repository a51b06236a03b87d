/-
  No cell of these rows narrows 'for every input' (looked for: loops, veiled, ifaces, maps, wideKeys, modest, calm, conditions, laid).
  DERIVED. THE GIVEN ROWS OF THIS SEAT. 12 by the template 'for every input the law returns true; each argument reads behind the call as it read before'; 0 by the template 'total and deterministic' (their statements: YtcnlpdpbkkjkoaaTotals.lean).
  GIVEN WITH THE SEED: the statements are not yours to turn. If you find one false, say at which input.
  Laid BY PROGRAM, IN A SANDBOX (cutbox-rows.mjs): the forced cells as the released guide's own fill.sh prints them over the translation 78e834d47d139a17… (all of the seat's roots in one cut). By AI agents, Wed Nov 11 2026. No macro, syntax, notation, axiom, sorry.
-/
import Derived.Test.YtcnlpdpbkkjkoaaChecked
import GoSem.Claim
import GoSem.ClaimJoined
import GoSem.ClaimMapViews
import Derived.JoinedTies
import Derived.KernelRfl
namespace Go.Proofs.Ytcnlpdpbkkjkoaa
/- THE CELL 'sum', in the pinned program and in every row, IS THE sha256 OF THE DUMP (.gsa) THAT YtcnlpdpbkkjkoaaProg.lean LOADS. Nothing in Lean hashes anything: it is a label: what it is worth is what the hold of that sum in a sandbox is worth. -/
noncomputable def Try.pinned : Pinned := { name := "ytcnlpdpbkkjkoaa", sum := "78e834d47d139a17ec4958489da707e4065ee475e9f239b655b500c054a4a287", checked := Try.checked }
namespace Rows
def none {H : Type} : Left H := { results := [], args := [] }

/-- 'laws.FnFlashes': WHATEVER THE INPUT: true; the input reads as it did. -/
def fnFlashesSpec : ChangeSpec := { name := "fnFlashes", fn := fun _ => fun
  | [d] => { results := [.lit (.bool true)], args := [d] }
  | _ => none }
def fnFlashesRow : OpenClaim := { program := "ytcnlpdpbkkjkoaa", sum := "78e834d47d139a17ec4958489da707e4065ee475e9f239b655b500c054a4a287", func := "loop.example/g00412/laws.FnFlashes", spec := "fnFlashes", inPlace := ["internal/bytealg.MakeNoZero"], unfollowed := true, recurses := true, apart := false }
def FnFlashesSaid : Prop := fnFlashesRow.holds Try.pinned (OpenSpec.ofChange fnFlashesSpec)

/-- ITS FALSE NEIGHBOUR: 'it returns false'. Refute it at one input. -/
def fnFlashesWrong : ChangeSpec := { name := "fnFlashes", fn := fun _ => fun
  | [d] => { results := [.lit (.bool false)], args := [d] }
  | _ => none }
def FnFlashesWrongFalsely : Prop := fnFlashesRow.holds Try.pinned (OpenSpec.ofChange fnFlashesWrong)

/-- 'laws.FnTorn': WHATEVER THE INPUT: true; the input reads as it did. -/
def fnTornSpec : ChangeSpec := { name := "fnTorn", fn := fun _ => fun
  | [d] => { results := [.lit (.bool true)], args := [d] }
  | _ => none }
def fnTornRow : OpenClaim := { program := "ytcnlpdpbkkjkoaa", sum := "78e834d47d139a17ec4958489da707e4065ee475e9f239b655b500c054a4a287", func := "loop.example/g00412/laws.FnTorn", spec := "fnTorn", inPlace := ["internal/bytealg.MakeNoZero"], unfollowed := true, recurses := true, apart := false }
def FnTornSaid : Prop := fnTornRow.holds Try.pinned (OpenSpec.ofChange fnTornSpec)

/-- ITS FALSE NEIGHBOUR: 'it returns false'. Refute it at one input. -/
def fnTornWrong : ChangeSpec := { name := "fnTorn", fn := fun _ => fun
  | [d] => { results := [.lit (.bool false)], args := [d] }
  | _ => none }
def FnTornWrongFalsely : Prop := fnTornRow.holds Try.pinned (OpenSpec.ofChange fnTornWrong)

/-- 'laws.FnExactFlashOk': WHATEVER THE INPUT: true; the input reads as it did. -/
def fnExactFlashOkSpec : ChangeSpec := { name := "fnExactFlashOk", fn := fun _ => fun
  | [d] => { results := [.lit (.bool true)], args := [d] }
  | _ => none }
def fnExactFlashOkRow : OpenClaim := { program := "ytcnlpdpbkkjkoaa", sum := "78e834d47d139a17ec4958489da707e4065ee475e9f239b655b500c054a4a287", func := "loop.example/g00412/laws.FnExactFlashOk", spec := "fnExactFlashOk", unfollowed := true, recurses := true, apart := false }
def FnExactFlashOkSaid : Prop := fnExactFlashOkRow.holds Try.pinned (OpenSpec.ofChange fnExactFlashOkSpec)

/-- ITS FALSE NEIGHBOUR: 'it returns false'. Refute it at one input. -/
def fnExactFlashOkWrong : ChangeSpec := { name := "fnExactFlashOk", fn := fun _ => fun
  | [d] => { results := [.lit (.bool false)], args := [d] }
  | _ => none }
def FnExactFlashOkWrongFalsely : Prop := fnExactFlashOkRow.holds Try.pinned (OpenSpec.ofChange fnExactFlashOkWrong)

/-- 'laws.FnExactFlashNew': WHATEVER THE INPUT: true; the input reads as it did. -/
def fnExactFlashNewSpec : ChangeSpec := { name := "fnExactFlashNew", fn := fun _ => fun
  | [] => { results := [.lit (.bool true)], args := [] }
  | _ => none }
def fnExactFlashNewRow : OpenClaim := { program := "ytcnlpdpbkkjkoaa", sum := "78e834d47d139a17ec4958489da707e4065ee475e9f239b655b500c054a4a287", func := "loop.example/g00412/laws.FnExactFlashNew", spec := "fnExactFlashNew", inPlace := ["internal/bytealg.MakeNoZero"], apart := false }
def FnExactFlashNewSaid : Prop := fnExactFlashNewRow.holds Try.pinned (OpenSpec.ofChange fnExactFlashNewSpec)

/-- ITS FALSE NEIGHBOUR: 'it returns false'. Refute it at one input. -/
def fnExactFlashNewWrong : ChangeSpec := { name := "fnExactFlashNew", fn := fun _ => fun
  | [] => { results := [.lit (.bool false)], args := [] }
  | _ => none }
def FnExactFlashNewWrongFalsely : Prop := fnExactFlashNewRow.holds Try.pinned (OpenSpec.ofChange fnExactFlashNewWrong)

/-- 'laws.FnExactBlank': WHATEVER THE INPUT: true; the input reads as it did. -/
def fnExactBlankSpec : ChangeSpec := { name := "fnExactBlank", fn := fun _ => fun
  | [d1, d2, d3] => { results := [.lit (.bool true)], args := [d1, d2, d3] }
  | _ => none }
def fnExactBlankRow : OpenClaim := { program := "ytcnlpdpbkkjkoaa", sum := "78e834d47d139a17ec4958489da707e4065ee475e9f239b655b500c054a4a287", func := "loop.example/g00412/laws.FnExactBlank", spec := "fnExactBlank", unfollowed := true, recurses := true, apart := false }
def FnExactBlankSaid : Prop := fnExactBlankRow.holds Try.pinned (OpenSpec.ofChange fnExactBlankSpec)

/-- ITS FALSE NEIGHBOUR: 'it returns false'. Refute it at one input. -/
def fnExactBlankWrong : ChangeSpec := { name := "fnExactBlank", fn := fun _ => fun
  | [d1, d2, d3] => { results := [.lit (.bool false)], args := [d1, d2, d3] }
  | _ => none }
def FnExactBlankWrongFalsely : Prop := fnExactBlankRow.holds Try.pinned (OpenSpec.ofChange fnExactBlankWrong)

/-- 'laws.FnExactReadAt': WHATEVER THE INPUT: true; the input reads as it did. -/
def fnExactReadAtSpec : ChangeSpec := { name := "fnExactReadAt", fn := fun _ => fun
  | [d1, d2, d3] => { results := [.lit (.bool true)], args := [d1, d2, d3] }
  | _ => none }
def fnExactReadAtRow : OpenClaim := { program := "ytcnlpdpbkkjkoaa", sum := "78e834d47d139a17ec4958489da707e4065ee475e9f239b655b500c054a4a287", func := "loop.example/g00412/laws.FnExactReadAt", spec := "fnExactReadAt", unfollowed := true, recurses := true, apart := false }
def FnExactReadAtSaid : Prop := fnExactReadAtRow.holds Try.pinned (OpenSpec.ofChange fnExactReadAtSpec)

/-- ITS FALSE NEIGHBOUR: 'it returns false'. Refute it at one input. -/
def fnExactReadAtWrong : ChangeSpec := { name := "fnExactReadAt", fn := fun _ => fun
  | [d1, d2, d3] => { results := [.lit (.bool false)], args := [d1, d2, d3] }
  | _ => none }
def FnExactReadAtWrongFalsely : Prop := fnExactReadAtRow.holds Try.pinned (OpenSpec.ofChange fnExactReadAtWrong)

/-- 'laws.FnExactProgram': WHATEVER THE INPUT: true; the input reads as it did. -/
def fnExactProgramSpec : ChangeSpec := { name := "fnExactProgram", fn := fun _ => fun
  | [d1, d2, d3] => { results := [.lit (.bool true)], args := [d1, d2, d3] }
  | _ => none }
def fnExactProgramRow : OpenClaim := { program := "ytcnlpdpbkkjkoaa", sum := "78e834d47d139a17ec4958489da707e4065ee475e9f239b655b500c054a4a287", func := "loop.example/g00412/laws.FnExactProgram", spec := "fnExactProgram", unfollowed := true, recurses := true, apart := false }
def FnExactProgramSaid : Prop := fnExactProgramRow.holds Try.pinned (OpenSpec.ofChange fnExactProgramSpec)

/-- ITS FALSE NEIGHBOUR: 'it returns false'. Refute it at one input. -/
def fnExactProgramWrong : ChangeSpec := { name := "fnExactProgram", fn := fun _ => fun
  | [d1, d2, d3] => { results := [.lit (.bool false)], args := [d1, d2, d3] }
  | _ => none }
def FnExactProgramWrongFalsely : Prop := fnExactProgramRow.holds Try.pinned (OpenSpec.ofChange fnExactProgramWrong)

/-- 'laws.FnExactErase': WHATEVER THE INPUT: true; the input reads as it did. -/
def fnExactEraseSpec : ChangeSpec := { name := "fnExactErase", fn := fun _ => fun
  | [d1, d2] => { results := [.lit (.bool true)], args := [d1, d2] }
  | _ => none }
def fnExactEraseRow : OpenClaim := { program := "ytcnlpdpbkkjkoaa", sum := "78e834d47d139a17ec4958489da707e4065ee475e9f239b655b500c054a4a287", func := "loop.example/g00412/laws.FnExactErase", spec := "fnExactErase", inPlace := ["internal/bytealg.MakeNoZero"], unfollowed := true, recurses := true, apart := false }
def FnExactEraseSaid : Prop := fnExactEraseRow.holds Try.pinned (OpenSpec.ofChange fnExactEraseSpec)

/-- ITS FALSE NEIGHBOUR: 'it returns false'. Refute it at one input. -/
def fnExactEraseWrong : ChangeSpec := { name := "fnExactErase", fn := fun _ => fun
  | [d1, d2] => { results := [.lit (.bool false)], args := [d1, d2] }
  | _ => none }
def FnExactEraseWrongFalsely : Prop := fnExactEraseRow.holds Try.pinned (OpenSpec.ofChange fnExactEraseWrong)

/-- 'laws.FnExactTornProgram': WHATEVER THE INPUT: true; the input reads as it did. -/
def fnExactTornProgramSpec : ChangeSpec := { name := "fnExactTornProgram", fn := fun _ => fun
  | [d1, d2, d3, d4] => { results := [.lit (.bool true)], args := [d1, d2, d3, d4] }
  | _ => none }
def fnExactTornProgramRow : OpenClaim := { program := "ytcnlpdpbkkjkoaa", sum := "78e834d47d139a17ec4958489da707e4065ee475e9f239b655b500c054a4a287", func := "loop.example/g00412/laws.FnExactTornProgram", spec := "fnExactTornProgram", unfollowed := true, recurses := true, apart := false }
def FnExactTornProgramSaid : Prop := fnExactTornProgramRow.holds Try.pinned (OpenSpec.ofChange fnExactTornProgramSpec)

/-- ITS FALSE NEIGHBOUR: 'it returns false'. Refute it at one input. -/
def fnExactTornProgramWrong : ChangeSpec := { name := "fnExactTornProgram", fn := fun _ => fun
  | [d1, d2, d3, d4] => { results := [.lit (.bool false)], args := [d1, d2, d3, d4] }
  | _ => none }
def FnExactTornProgramWrongFalsely : Prop := fnExactTornProgramRow.holds Try.pinned (OpenSpec.ofChange fnExactTornProgramWrong)

/-- 'laws.FnExactTornErase': WHATEVER THE INPUT: true; the input reads as it did. -/
def fnExactTornEraseSpec : ChangeSpec := { name := "fnExactTornErase", fn := fun _ => fun
  | [d1, d2, d3] => { results := [.lit (.bool true)], args := [d1, d2, d3] }
  | _ => none }
def fnExactTornEraseRow : OpenClaim := { program := "ytcnlpdpbkkjkoaa", sum := "78e834d47d139a17ec4958489da707e4065ee475e9f239b655b500c054a4a287", func := "loop.example/g00412/laws.FnExactTornErase", spec := "fnExactTornErase", inPlace := ["internal/bytealg.MakeNoZero"], unfollowed := true, recurses := true, apart := false }
def FnExactTornEraseSaid : Prop := fnExactTornEraseRow.holds Try.pinned (OpenSpec.ofChange fnExactTornEraseSpec)

/-- ITS FALSE NEIGHBOUR: 'it returns false'. Refute it at one input. -/
def fnExactTornEraseWrong : ChangeSpec := { name := "fnExactTornErase", fn := fun _ => fun
  | [d1, d2, d3] => { results := [.lit (.bool false)], args := [d1, d2, d3] }
  | _ => none }
def FnExactTornEraseWrongFalsely : Prop := fnExactTornEraseRow.holds Try.pinned (OpenSpec.ofChange fnExactTornEraseWrong)

/-- 'laws.FnExactWearMost': WHATEVER THE INPUT: true; the input reads as it did. -/
def fnExactWearMostSpec : ChangeSpec := { name := "fnExactWearMost", fn := fun _ => fun
  | [d] => { results := [.lit (.bool true)], args := [d] }
  | _ => none }
def fnExactWearMostRow : OpenClaim := { program := "ytcnlpdpbkkjkoaa", sum := "78e834d47d139a17ec4958489da707e4065ee475e9f239b655b500c054a4a287", func := "loop.example/g00412/laws.FnExactWearMost", spec := "fnExactWearMost", unfollowed := true, recurses := true, apart := false }
def FnExactWearMostSaid : Prop := fnExactWearMostRow.holds Try.pinned (OpenSpec.ofChange fnExactWearMostSpec)

/-- ITS FALSE NEIGHBOUR: 'it returns false'. Refute it at one input. -/
def fnExactWearMostWrong : ChangeSpec := { name := "fnExactWearMost", fn := fun _ => fun
  | [d] => { results := [.lit (.bool false)], args := [d] }
  | _ => none }
def FnExactWearMostWrongFalsely : Prop := fnExactWearMostRow.holds Try.pinned (OpenSpec.ofChange fnExactWearMostWrong)

/-- 'laws.FnExactDiffers': WHATEVER THE INPUT: true; the input reads as it did. -/
def fnExactDiffersSpec : ChangeSpec := { name := "fnExactDiffers", fn := fun _ => fun
  | [d1, d2] => { results := [.lit (.bool true)], args := [d1, d2] }
  | _ => none }
def fnExactDiffersRow : OpenClaim := { program := "ytcnlpdpbkkjkoaa", sum := "78e834d47d139a17ec4958489da707e4065ee475e9f239b655b500c054a4a287", func := "loop.example/g00412/laws.FnExactDiffers", spec := "fnExactDiffers", unfollowed := true, recurses := true, apart := false }
def FnExactDiffersSaid : Prop := fnExactDiffersRow.holds Try.pinned (OpenSpec.ofChange fnExactDiffersSpec)

/-- ITS FALSE NEIGHBOUR: 'it returns false'. Refute it at one input. -/
def fnExactDiffersWrong : ChangeSpec := { name := "fnExactDiffers", fn := fun _ => fun
  | [d1, d2] => { results := [.lit (.bool false)], args := [d1, d2] }
  | _ => none }
def FnExactDiffersWrongFalsely : Prop := fnExactDiffersRow.holds Try.pinned (OpenSpec.ofChange fnExactDiffersWrong)

/- THE SECOND FORM. 'bulk': how many values and letters a reading holds, each counted each time it is reached (what is shared counts as often as it is met; a slice's spare places count too). A statement '..UptoSaid' is the law's where the arguments, and the package variables that the reading takes, are together of bulk at most 1048576: NARROWER than '..Said'. Prove '..Said' where nothing that the law and all that it calls make is longer than what came in: it says more and counts as full. Else prove '..UptoSaid'. A law counts once. -/
mutual
def uptoBulk {H : Type} : DataW H → Nat
  | .lit (.string bytes) => bytes.length + 1
  | .lit _ => 1
  | .nil => 1
  | .ptr d => uptoBulk d + 1
  | .slice elems spare => uptoBulkAll elems + uptoBulkAll spare + 1
  | .agg parts => uptoBulkAll parts + 1
  | .iface _ d => uptoBulk d + 1
  | .map entries => uptoBulkEntries entries + 1
  | .held _ => 1
def uptoBulkAll {H : Type} : List (DataW H) → Nat
  | [] => 0
  | d :: r => uptoBulk d + uptoBulkAll r
def uptoBulkEntries {H : Type} : List (Lit × DataW H) → Nat
  | [] => 0
  | x :: r => uptoBulkEntry x + uptoBulkEntries r
def uptoBulkEntry {H : Type} : Lit × DataW H → Nat
  | (.string bytes, d) => bytes.length + uptoBulk d + 1
  | (_, d) => uptoBulk d + 1
 end
def uptoSmall : (H : Type) → List (DataW H) → Bool := fun _ ds => decide (uptoBulkAll ds ≤ 1048576)
def OpenSpec.upto (s : _root_.Go.ChangeSpec) : _root_.Go.OpenSpec := { _root_.Go.OpenSpec.ofChange s with cond := some uptoSmall }

/-- 'laws.FnFlashes', WHERE WHAT IT READS IS OF BULK AT MOST 1048576: true; the input reads as it did. -/
def fnFlashesUptoRow : OpenClaim := { program := "ytcnlpdpbkkjkoaa", sum := "78e834d47d139a17ec4958489da707e4065ee475e9f239b655b500c054a4a287", func := "loop.example/g00412/laws.FnFlashes", spec := "fnFlashes", inPlace := ["internal/bytealg.MakeNoZero"], unfollowed := true, recurses := true, apart := false, narrowed := true }
def FnFlashesUptoSaid : Prop := fnFlashesUptoRow.holds Try.pinned (OpenSpec.upto fnFlashesSpec)

/-- 'laws.FnTorn', WHERE WHAT IT READS IS OF BULK AT MOST 1048576: true; the input reads as it did. -/
def fnTornUptoRow : OpenClaim := { program := "ytcnlpdpbkkjkoaa", sum := "78e834d47d139a17ec4958489da707e4065ee475e9f239b655b500c054a4a287", func := "loop.example/g00412/laws.FnTorn", spec := "fnTorn", inPlace := ["internal/bytealg.MakeNoZero"], unfollowed := true, recurses := true, apart := false, narrowed := true }
def FnTornUptoSaid : Prop := fnTornUptoRow.holds Try.pinned (OpenSpec.upto fnTornSpec)

/-- 'laws.FnExactFlashOk', WHERE WHAT IT READS IS OF BULK AT MOST 1048576: true; the input reads as it did. -/
def fnExactFlashOkUptoRow : OpenClaim := { program := "ytcnlpdpbkkjkoaa", sum := "78e834d47d139a17ec4958489da707e4065ee475e9f239b655b500c054a4a287", func := "loop.example/g00412/laws.FnExactFlashOk", spec := "fnExactFlashOk", unfollowed := true, recurses := true, apart := false, narrowed := true }
def FnExactFlashOkUptoSaid : Prop := fnExactFlashOkUptoRow.holds Try.pinned (OpenSpec.upto fnExactFlashOkSpec)

/-- 'laws.FnExactFlashNew', WHERE WHAT IT READS IS OF BULK AT MOST 1048576: true; the input reads as it did. -/
def fnExactFlashNewUptoRow : OpenClaim := { program := "ytcnlpdpbkkjkoaa", sum := "78e834d47d139a17ec4958489da707e4065ee475e9f239b655b500c054a4a287", func := "loop.example/g00412/laws.FnExactFlashNew", spec := "fnExactFlashNew", inPlace := ["internal/bytealg.MakeNoZero"], apart := false, narrowed := true }
def FnExactFlashNewUptoSaid : Prop := fnExactFlashNewUptoRow.holds Try.pinned (OpenSpec.upto fnExactFlashNewSpec)

/-- 'laws.FnExactBlank', WHERE WHAT IT READS IS OF BULK AT MOST 1048576: true; the input reads as it did. -/
def fnExactBlankUptoRow : OpenClaim := { program := "ytcnlpdpbkkjkoaa", sum := "78e834d47d139a17ec4958489da707e4065ee475e9f239b655b500c054a4a287", func := "loop.example/g00412/laws.FnExactBlank", spec := "fnExactBlank", unfollowed := true, recurses := true, apart := false, narrowed := true }
def FnExactBlankUptoSaid : Prop := fnExactBlankUptoRow.holds Try.pinned (OpenSpec.upto fnExactBlankSpec)

/-- 'laws.FnExactReadAt', WHERE WHAT IT READS IS OF BULK AT MOST 1048576: true; the input reads as it did. -/
def fnExactReadAtUptoRow : OpenClaim := { program := "ytcnlpdpbkkjkoaa", sum := "78e834d47d139a17ec4958489da707e4065ee475e9f239b655b500c054a4a287", func := "loop.example/g00412/laws.FnExactReadAt", spec := "fnExactReadAt", unfollowed := true, recurses := true, apart := false, narrowed := true }
def FnExactReadAtUptoSaid : Prop := fnExactReadAtUptoRow.holds Try.pinned (OpenSpec.upto fnExactReadAtSpec)

/-- 'laws.FnExactProgram', WHERE WHAT IT READS IS OF BULK AT MOST 1048576: true; the input reads as it did. -/
def fnExactProgramUptoRow : OpenClaim := { program := "ytcnlpdpbkkjkoaa", sum := "78e834d47d139a17ec4958489da707e4065ee475e9f239b655b500c054a4a287", func := "loop.example/g00412/laws.FnExactProgram", spec := "fnExactProgram", unfollowed := true, recurses := true, apart := false, narrowed := true }
def FnExactProgramUptoSaid : Prop := fnExactProgramUptoRow.holds Try.pinned (OpenSpec.upto fnExactProgramSpec)

/-- 'laws.FnExactErase', WHERE WHAT IT READS IS OF BULK AT MOST 1048576: true; the input reads as it did. -/
def fnExactEraseUptoRow : OpenClaim := { program := "ytcnlpdpbkkjkoaa", sum := "78e834d47d139a17ec4958489da707e4065ee475e9f239b655b500c054a4a287", func := "loop.example/g00412/laws.FnExactErase", spec := "fnExactErase", inPlace := ["internal/bytealg.MakeNoZero"], unfollowed := true, recurses := true, apart := false, narrowed := true }
def FnExactEraseUptoSaid : Prop := fnExactEraseUptoRow.holds Try.pinned (OpenSpec.upto fnExactEraseSpec)

/-- 'laws.FnExactTornProgram', WHERE WHAT IT READS IS OF BULK AT MOST 1048576: true; the input reads as it did. -/
def fnExactTornProgramUptoRow : OpenClaim := { program := "ytcnlpdpbkkjkoaa", sum := "78e834d47d139a17ec4958489da707e4065ee475e9f239b655b500c054a4a287", func := "loop.example/g00412/laws.FnExactTornProgram", spec := "fnExactTornProgram", unfollowed := true, recurses := true, apart := false, narrowed := true }
def FnExactTornProgramUptoSaid : Prop := fnExactTornProgramUptoRow.holds Try.pinned (OpenSpec.upto fnExactTornProgramSpec)

/-- 'laws.FnExactTornErase', WHERE WHAT IT READS IS OF BULK AT MOST 1048576: true; the input reads as it did. -/
def fnExactTornEraseUptoRow : OpenClaim := { program := "ytcnlpdpbkkjkoaa", sum := "78e834d47d139a17ec4958489da707e4065ee475e9f239b655b500c054a4a287", func := "loop.example/g00412/laws.FnExactTornErase", spec := "fnExactTornErase", inPlace := ["internal/bytealg.MakeNoZero"], unfollowed := true, recurses := true, apart := false, narrowed := true }
def FnExactTornEraseUptoSaid : Prop := fnExactTornEraseUptoRow.holds Try.pinned (OpenSpec.upto fnExactTornEraseSpec)

/-- 'laws.FnExactWearMost', WHERE WHAT IT READS IS OF BULK AT MOST 1048576: true; the input reads as it did. -/
def fnExactWearMostUptoRow : OpenClaim := { program := "ytcnlpdpbkkjkoaa", sum := "78e834d47d139a17ec4958489da707e4065ee475e9f239b655b500c054a4a287", func := "loop.example/g00412/laws.FnExactWearMost", spec := "fnExactWearMost", unfollowed := true, recurses := true, apart := false, narrowed := true }
def FnExactWearMostUptoSaid : Prop := fnExactWearMostUptoRow.holds Try.pinned (OpenSpec.upto fnExactWearMostSpec)

/-- 'laws.FnExactDiffers', WHERE WHAT IT READS IS OF BULK AT MOST 1048576: true; the input reads as it did. -/
def fnExactDiffersUptoRow : OpenClaim := { program := "ytcnlpdpbkkjkoaa", sum := "78e834d47d139a17ec4958489da707e4065ee475e9f239b655b500c054a4a287", func := "loop.example/g00412/laws.FnExactDiffers", spec := "fnExactDiffers", unfollowed := true, recurses := true, apart := false, narrowed := true }
def FnExactDiffersUptoSaid : Prop := fnExactDiffersUptoRow.holds Try.pinned (OpenSpec.upto fnExactDiffersSpec)

end Rows
end Go.Proofs.Ytcnlpdpbkkjkoaa
