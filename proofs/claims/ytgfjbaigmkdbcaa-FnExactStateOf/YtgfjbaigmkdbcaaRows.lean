/-
  No cell of these rows narrows 'for every input' (looked for: loops, veiled, ifaces, maps, wideKeys, modest, calm, conditions, laid).
  DERIVED. THE GIVEN ROWS OF THIS SEAT. 12 by the template 'for every input the law returns true; each argument reads behind the call as it read before'; 0 by the template 'total and deterministic' (their statements: YtgfjbaigmkdbcaaTotals.lean).
  GIVEN WITH THE SEED: the statements are not yours to turn. If you find one false, say at which input.
  Laid BY PROGRAM, IN A SANDBOX (cutbox-rows.mjs): the forced cells as the released guide's own fill.sh prints them over the translation 060516f78d2e8d38… (all of the seat's roots in one cut). By AI agents, Wed Nov 11 2026. No macro, syntax, notation, axiom, sorry.
-/
import Derived.Test.YtgfjbaigmkdbcaaChecked
import GoSem.Claim
import GoSem.ClaimJoined
import GoSem.ClaimMapViews
import Derived.JoinedTies
import Derived.KernelRfl
namespace Go.Proofs.Ytgfjbaigmkdbcaa
/- THE CELL 'sum', in the pinned program and in every row, IS THE sha256 OF THE DUMP (.gsa) THAT YtgfjbaigmkdbcaaProg.lean LOADS. Nothing in Lean hashes anything: it is a label: what it is worth is what the hold of that sum in a sandbox is worth. -/
noncomputable def Try.pinned : Pinned := { name := "ytgfjbaigmkdbcaa", sum := "060516f78d2e8d381e5363459af2eff6374d26d7d6d296e9fc3a2dc0ed76d61f", checked := Try.checked }
namespace Rows
def none {H : Type} : Left H := { results := [], args := [] }

/-- 'laws.FnExactBundleOk': WHATEVER THE INPUT: true; the input reads as it did. -/
def fnExactBundleOkSpec : ChangeSpec := { name := "fnExactBundleOk", fn := fun _ => fun
  | [d] => { results := [.lit (.bool true)], args := [d] }
  | _ => none }
def fnExactBundleOkRow : OpenClaim := { program := "ytgfjbaigmkdbcaa", sum := "060516f78d2e8d381e5363459af2eff6374d26d7d6d296e9fc3a2dc0ed76d61f", func := "loop.example/g00412/laws.FnExactBundleOk", spec := "fnExactBundleOk", unfollowed := true, recurses := true, apart := false }
def FnExactBundleOkSaid : Prop := fnExactBundleOkRow.holds Try.pinned (OpenSpec.ofChange fnExactBundleOkSpec)

/-- ITS FALSE NEIGHBOUR: 'it returns false'. Refute it at one input. -/
def fnExactBundleOkWrong : ChangeSpec := { name := "fnExactBundleOk", fn := fun _ => fun
  | [d] => { results := [.lit (.bool false)], args := [d] }
  | _ => none }
def FnExactBundleOkWrongFalsely : Prop := fnExactBundleOkRow.holds Try.pinned (OpenSpec.ofChange fnExactBundleOkWrong)

/-- 'laws.FnExactBundleBytes': WHATEVER THE INPUT: true; the input reads as it did. -/
def fnExactBundleBytesSpec : ChangeSpec := { name := "fnExactBundleBytes", fn := fun _ => fun
  | [d] => { results := [.lit (.bool true)], args := [d] }
  | _ => none }
def fnExactBundleBytesRow : OpenClaim := { program := "ytgfjbaigmkdbcaa", sum := "060516f78d2e8d381e5363459af2eff6374d26d7d6d296e9fc3a2dc0ed76d61f", func := "loop.example/g00412/laws.FnExactBundleBytes", spec := "fnExactBundleBytes", unfollowed := true, recurses := true, apart := false }
def FnExactBundleBytesSaid : Prop := fnExactBundleBytesRow.holds Try.pinned (OpenSpec.ofChange fnExactBundleBytesSpec)

/-- ITS FALSE NEIGHBOUR: 'it returns false'. Refute it at one input. -/
def fnExactBundleBytesWrong : ChangeSpec := { name := "fnExactBundleBytes", fn := fun _ => fun
  | [d] => { results := [.lit (.bool false)], args := [d] }
  | _ => none }
def FnExactBundleBytesWrongFalsely : Prop := fnExactBundleBytesRow.holds Try.pinned (OpenSpec.ofChange fnExactBundleBytesWrong)

/-- 'laws.FnExactMeets': WHATEVER THE INPUT: true; the input reads as it did. -/
def fnExactMeetsSpec : ChangeSpec := { name := "fnExactMeets", fn := fun _ => fun
  | [d] => { results := [.lit (.bool true)], args := [d] }
  | _ => none }
def fnExactMeetsRow : OpenClaim := { program := "ytgfjbaigmkdbcaa", sum := "060516f78d2e8d381e5363459af2eff6374d26d7d6d296e9fc3a2dc0ed76d61f", func := "loop.example/g00412/laws.FnExactMeets", spec := "fnExactMeets", unfollowed := true, recurses := true, apart := false }
def FnExactMeetsSaid : Prop := fnExactMeetsRow.holds Try.pinned (OpenSpec.ofChange fnExactMeetsSpec)

/-- ITS FALSE NEIGHBOUR: 'it returns false'. Refute it at one input. -/
def fnExactMeetsWrong : ChangeSpec := { name := "fnExactMeets", fn := fun _ => fun
  | [d] => { results := [.lit (.bool false)], args := [d] }
  | _ => none }
def FnExactMeetsWrongFalsely : Prop := fnExactMeetsRow.holds Try.pinned (OpenSpec.ofChange fnExactMeetsWrong)

/-- 'laws.FnExactKeysOk': WHATEVER THE INPUT: true; the input reads as it did. -/
def fnExactKeysOkSpec : ChangeSpec := { name := "fnExactKeysOk", fn := fun _ => fun
  | [d] => { results := [.lit (.bool true)], args := [d] }
  | _ => none }
def fnExactKeysOkRow : OpenClaim := { program := "ytgfjbaigmkdbcaa", sum := "060516f78d2e8d381e5363459af2eff6374d26d7d6d296e9fc3a2dc0ed76d61f", func := "loop.example/g00412/laws.FnExactKeysOk", spec := "fnExactKeysOk", unfollowed := true, recurses := true, apart := false }
def FnExactKeysOkSaid : Prop := fnExactKeysOkRow.holds Try.pinned (OpenSpec.ofChange fnExactKeysOkSpec)

/-- ITS FALSE NEIGHBOUR: 'it returns false'. Refute it at one input. -/
def fnExactKeysOkWrong : ChangeSpec := { name := "fnExactKeysOk", fn := fun _ => fun
  | [d] => { results := [.lit (.bool false)], args := [d] }
  | _ => none }
def FnExactKeysOkWrongFalsely : Prop := fnExactKeysOkRow.holds Try.pinned (OpenSpec.ofChange fnExactKeysOkWrong)

/-- 'laws.FnExactKeyFor': WHATEVER THE INPUT: true; the input reads as it did. -/
def fnExactKeyForSpec : ChangeSpec := { name := "fnExactKeyFor", fn := fun _ => fun
  | [d1, d2] => { results := [.lit (.bool true)], args := [d1, d2] }
  | _ => none }
def fnExactKeyForRow : OpenClaim := { program := "ytgfjbaigmkdbcaa", sum := "060516f78d2e8d381e5363459af2eff6374d26d7d6d296e9fc3a2dc0ed76d61f", func := "loop.example/g00412/laws.FnExactKeyFor", spec := "fnExactKeyFor", unfollowed := true, recurses := true, apart := false }
def FnExactKeyForSaid : Prop := fnExactKeyForRow.holds Try.pinned (OpenSpec.ofChange fnExactKeyForSpec)

/-- ITS FALSE NEIGHBOUR: 'it returns false'. Refute it at one input. -/
def fnExactKeyForWrong : ChangeSpec := { name := "fnExactKeyFor", fn := fun _ => fun
  | [d1, d2] => { results := [.lit (.bool false)], args := [d1, d2] }
  | _ => none }
def FnExactKeyForWrongFalsely : Prop := fnExactKeyForRow.holds Try.pinned (OpenSpec.ofChange fnExactKeyForWrong)

/-- 'laws.FnExactLacks': WHATEVER THE INPUT: true; the input reads as it did. -/
def fnExactLacksSpec : ChangeSpec := { name := "fnExactLacks", fn := fun _ => fun
  | [d] => { results := [.lit (.bool true)], args := [d] }
  | _ => none }
def fnExactLacksRow : OpenClaim := { program := "ytgfjbaigmkdbcaa", sum := "060516f78d2e8d381e5363459af2eff6374d26d7d6d296e9fc3a2dc0ed76d61f", func := "loop.example/g00412/laws.FnExactLacks", spec := "fnExactLacks", unfollowed := true, recurses := true, apart := false }
def FnExactLacksSaid : Prop := fnExactLacksRow.holds Try.pinned (OpenSpec.ofChange fnExactLacksSpec)

/-- ITS FALSE NEIGHBOUR: 'it returns false'. Refute it at one input. -/
def fnExactLacksWrong : ChangeSpec := { name := "fnExactLacks", fn := fun _ => fun
  | [d] => { results := [.lit (.bool false)], args := [d] }
  | _ => none }
def FnExactLacksWrongFalsely : Prop := fnExactLacksRow.holds Try.pinned (OpenSpec.ofChange fnExactLacksWrong)

/-- 'laws.FnExactScan': WHATEVER THE INPUT: true; the input reads as it did. -/
def fnExactScanSpec : ChangeSpec := { name := "fnExactScan", fn := fun _ => fun
  | [d] => { results := [.lit (.bool true)], args := [d] }
  | _ => none }
def fnExactScanRow : OpenClaim := { program := "ytgfjbaigmkdbcaa", sum := "060516f78d2e8d381e5363459af2eff6374d26d7d6d296e9fc3a2dc0ed76d61f", func := "loop.example/g00412/laws.FnExactScan", spec := "fnExactScan", unfollowed := true, recurses := true, apart := false }
def FnExactScanSaid : Prop := fnExactScanRow.holds Try.pinned (OpenSpec.ofChange fnExactScanSpec)

/-- ITS FALSE NEIGHBOUR: 'it returns false'. Refute it at one input. -/
def fnExactScanWrong : ChangeSpec := { name := "fnExactScan", fn := fun _ => fun
  | [d] => { results := [.lit (.bool false)], args := [d] }
  | _ => none }
def FnExactScanWrongFalsely : Prop := fnExactScanRow.holds Try.pinned (OpenSpec.ofChange fnExactScanWrong)

/-- 'laws.FnExactDeviceOk': WHATEVER THE INPUT: true; the input reads as it did. -/
def fnExactDeviceOkSpec : ChangeSpec := { name := "fnExactDeviceOk", fn := fun _ => fun
  | [d] => { results := [.lit (.bool true)], args := [d] }
  | _ => none }
def fnExactDeviceOkRow : OpenClaim := { program := "ytgfjbaigmkdbcaa", sum := "060516f78d2e8d381e5363459af2eff6374d26d7d6d296e9fc3a2dc0ed76d61f", func := "loop.example/g00412/laws.FnExactDeviceOk", spec := "fnExactDeviceOk", unfollowed := true, recurses := true, apart := false }
def FnExactDeviceOkSaid : Prop := fnExactDeviceOkRow.holds Try.pinned (OpenSpec.ofChange fnExactDeviceOkSpec)

/-- ITS FALSE NEIGHBOUR: 'it returns false'. Refute it at one input. -/
def fnExactDeviceOkWrong : ChangeSpec := { name := "fnExactDeviceOk", fn := fun _ => fun
  | [d] => { results := [.lit (.bool false)], args := [d] }
  | _ => none }
def FnExactDeviceOkWrongFalsely : Prop := fnExactDeviceOkRow.holds Try.pinned (OpenSpec.ofChange fnExactDeviceOkWrong)

/-- 'laws.FnExactCutOk': WHATEVER THE INPUT: true; the input reads as it did. -/
def fnExactCutOkSpec : ChangeSpec := { name := "fnExactCutOk", fn := fun _ => fun
  | [d] => { results := [.lit (.bool true)], args := [d] }
  | _ => none }
def fnExactCutOkRow : OpenClaim := { program := "ytgfjbaigmkdbcaa", sum := "060516f78d2e8d381e5363459af2eff6374d26d7d6d296e9fc3a2dc0ed76d61f", func := "loop.example/g00412/laws.FnExactCutOk", spec := "fnExactCutOk", apart := false }
def FnExactCutOkSaid : Prop := fnExactCutOkRow.holds Try.pinned (OpenSpec.ofChange fnExactCutOkSpec)

/-- ITS FALSE NEIGHBOUR: 'it returns false'. Refute it at one input. -/
def fnExactCutOkWrong : ChangeSpec := { name := "fnExactCutOk", fn := fun _ => fun
  | [d] => { results := [.lit (.bool false)], args := [d] }
  | _ => none }
def FnExactCutOkWrongFalsely : Prop := fnExactCutOkRow.holds Try.pinned (OpenSpec.ofChange fnExactCutOkWrong)

/-- 'laws.FnExactStateOf': WHATEVER THE INPUT: true; the input reads as it did. -/
def fnExactStateOfSpec : ChangeSpec := { name := "fnExactStateOf", fn := fun _ => fun
  | [d] => { results := [.lit (.bool true)], args := [d] }
  | _ => none }
def fnExactStateOfRow : OpenClaim := { program := "ytgfjbaigmkdbcaa", sum := "060516f78d2e8d381e5363459af2eff6374d26d7d6d296e9fc3a2dc0ed76d61f", func := "loop.example/g00412/laws.FnExactStateOf", spec := "fnExactStateOf", unfollowed := true, recurses := true, apart := false }
def FnExactStateOfSaid : Prop := fnExactStateOfRow.holds Try.pinned (OpenSpec.ofChange fnExactStateOfSpec)

/-- ITS FALSE NEIGHBOUR: 'it returns false'. Refute it at one input. -/
def fnExactStateOfWrong : ChangeSpec := { name := "fnExactStateOf", fn := fun _ => fun
  | [d] => { results := [.lit (.bool false)], args := [d] }
  | _ => none }
def FnExactStateOfWrongFalsely : Prop := fnExactStateOfRow.holds Try.pinned (OpenSpec.ofChange fnExactStateOfWrong)

/-- 'laws.FnExactActionOk': WHATEVER THE INPUT: true; the input reads as it did. -/
def fnExactActionOkSpec : ChangeSpec := { name := "fnExactActionOk", fn := fun _ => fun
  | [d] => { results := [.lit (.bool true)], args := [d] }
  | _ => none }
def fnExactActionOkRow : OpenClaim := { program := "ytgfjbaigmkdbcaa", sum := "060516f78d2e8d381e5363459af2eff6374d26d7d6d296e9fc3a2dc0ed76d61f", func := "loop.example/g00412/laws.FnExactActionOk", spec := "fnExactActionOk", apart := false }
def FnExactActionOkSaid : Prop := fnExactActionOkRow.holds Try.pinned (OpenSpec.ofChange fnExactActionOkSpec)

/-- ITS FALSE NEIGHBOUR: 'it returns false'. Refute it at one input. -/
def fnExactActionOkWrong : ChangeSpec := { name := "fnExactActionOk", fn := fun _ => fun
  | [d] => { results := [.lit (.bool false)], args := [d] }
  | _ => none }
def FnExactActionOkWrongFalsely : Prop := fnExactActionOkRow.holds Try.pinned (OpenSpec.ofChange fnExactActionOkWrong)

/-- 'laws.FnExactHanded': WHATEVER THE INPUT: true; the input reads as it did. -/
def fnExactHandedSpec : ChangeSpec := { name := "fnExactHanded", fn := fun _ => fun
  | [d] => { results := [.lit (.bool true)], args := [d] }
  | _ => none }
def fnExactHandedRow : OpenClaim := { program := "ytgfjbaigmkdbcaa", sum := "060516f78d2e8d381e5363459af2eff6374d26d7d6d296e9fc3a2dc0ed76d61f", func := "loop.example/g00412/laws.FnExactHanded", spec := "fnExactHanded", apart := false }
def FnExactHandedSaid : Prop := fnExactHandedRow.holds Try.pinned (OpenSpec.ofChange fnExactHandedSpec)

/-- ITS FALSE NEIGHBOUR: 'it returns false'. Refute it at one input. -/
def fnExactHandedWrong : ChangeSpec := { name := "fnExactHanded", fn := fun _ => fun
  | [d] => { results := [.lit (.bool false)], args := [d] }
  | _ => none }
def FnExactHandedWrongFalsely : Prop := fnExactHandedRow.holds Try.pinned (OpenSpec.ofChange fnExactHandedWrong)

/- THE SECOND FORM. 'bulk': how many values and letters a reading holds, each counted each time it is reached (what is shared counts as often as it is met; a slice's spare places count too). A statement '..UptoSaid' is the law's where the arguments, and the package variables that the reading takes, are together of bulk at most 1048576: NARROWER than '..Said'. Prove '..Said' where nothing that the law and all that it calls make is longer than what came in: it says more and counts as full. Else prove '..UptoSaid'. A law counts once. -/
mutual
def uptoBulk {H : Type} : DataW H → Nat
  | .lit (.string bytes) => bytes.length + 1
  | .lit _ => 1
  | .nil => 1
  | .ptr d => uptoBulk d + 1
  | .slice elems spare => uptoBulkAll elems + uptoBulkAll spare + 1
  | .agg parts => uptoBulkAll parts + 1
  | .iface _ d => uptoBulk d + 1
  | .map entries => uptoBulkEntries entries + 1
  | .held _ => 1
def uptoBulkAll {H : Type} : List (DataW H) → Nat
  | [] => 0
  | d :: r => uptoBulk d + uptoBulkAll r
def uptoBulkEntries {H : Type} : List (Lit × DataW H) → Nat
  | [] => 0
  | x :: r => uptoBulkEntry x + uptoBulkEntries r
def uptoBulkEntry {H : Type} : Lit × DataW H → Nat
  | (.string bytes, d) => bytes.length + uptoBulk d + 1
  | (_, d) => uptoBulk d + 1
 end
def uptoSmall : (H : Type) → List (DataW H) → Bool := fun _ ds => decide (uptoBulkAll ds ≤ 1048576)
def OpenSpec.upto (s : _root_.Go.ChangeSpec) : _root_.Go.OpenSpec := { _root_.Go.OpenSpec.ofChange s with cond := some uptoSmall }

/-- 'laws.FnExactBundleOk', WHERE WHAT IT READS IS OF BULK AT MOST 1048576: true; the input reads as it did. -/
def fnExactBundleOkUptoRow : OpenClaim := { program := "ytgfjbaigmkdbcaa", sum := "060516f78d2e8d381e5363459af2eff6374d26d7d6d296e9fc3a2dc0ed76d61f", func := "loop.example/g00412/laws.FnExactBundleOk", spec := "fnExactBundleOk", unfollowed := true, recurses := true, apart := false, narrowed := true }
def FnExactBundleOkUptoSaid : Prop := fnExactBundleOkUptoRow.holds Try.pinned (OpenSpec.upto fnExactBundleOkSpec)

/-- 'laws.FnExactBundleBytes', WHERE WHAT IT READS IS OF BULK AT MOST 1048576: true; the input reads as it did. -/
def fnExactBundleBytesUptoRow : OpenClaim := { program := "ytgfjbaigmkdbcaa", sum := "060516f78d2e8d381e5363459af2eff6374d26d7d6d296e9fc3a2dc0ed76d61f", func := "loop.example/g00412/laws.FnExactBundleBytes", spec := "fnExactBundleBytes", unfollowed := true, recurses := true, apart := false, narrowed := true }
def FnExactBundleBytesUptoSaid : Prop := fnExactBundleBytesUptoRow.holds Try.pinned (OpenSpec.upto fnExactBundleBytesSpec)

/-- 'laws.FnExactMeets', WHERE WHAT IT READS IS OF BULK AT MOST 1048576: true; the input reads as it did. -/
def fnExactMeetsUptoRow : OpenClaim := { program := "ytgfjbaigmkdbcaa", sum := "060516f78d2e8d381e5363459af2eff6374d26d7d6d296e9fc3a2dc0ed76d61f", func := "loop.example/g00412/laws.FnExactMeets", spec := "fnExactMeets", unfollowed := true, recurses := true, apart := false, narrowed := true }
def FnExactMeetsUptoSaid : Prop := fnExactMeetsUptoRow.holds Try.pinned (OpenSpec.upto fnExactMeetsSpec)

/-- 'laws.FnExactKeysOk', WHERE WHAT IT READS IS OF BULK AT MOST 1048576: true; the input reads as it did. -/
def fnExactKeysOkUptoRow : OpenClaim := { program := "ytgfjbaigmkdbcaa", sum := "060516f78d2e8d381e5363459af2eff6374d26d7d6d296e9fc3a2dc0ed76d61f", func := "loop.example/g00412/laws.FnExactKeysOk", spec := "fnExactKeysOk", unfollowed := true, recurses := true, apart := false, narrowed := true }
def FnExactKeysOkUptoSaid : Prop := fnExactKeysOkUptoRow.holds Try.pinned (OpenSpec.upto fnExactKeysOkSpec)

/-- 'laws.FnExactKeyFor', WHERE WHAT IT READS IS OF BULK AT MOST 1048576: true; the input reads as it did. -/
def fnExactKeyForUptoRow : OpenClaim := { program := "ytgfjbaigmkdbcaa", sum := "060516f78d2e8d381e5363459af2eff6374d26d7d6d296e9fc3a2dc0ed76d61f", func := "loop.example/g00412/laws.FnExactKeyFor", spec := "fnExactKeyFor", unfollowed := true, recurses := true, apart := false, narrowed := true }
def FnExactKeyForUptoSaid : Prop := fnExactKeyForUptoRow.holds Try.pinned (OpenSpec.upto fnExactKeyForSpec)

/-- 'laws.FnExactLacks', WHERE WHAT IT READS IS OF BULK AT MOST 1048576: true; the input reads as it did. -/
def fnExactLacksUptoRow : OpenClaim := { program := "ytgfjbaigmkdbcaa", sum := "060516f78d2e8d381e5363459af2eff6374d26d7d6d296e9fc3a2dc0ed76d61f", func := "loop.example/g00412/laws.FnExactLacks", spec := "fnExactLacks", unfollowed := true, recurses := true, apart := false, narrowed := true }
def FnExactLacksUptoSaid : Prop := fnExactLacksUptoRow.holds Try.pinned (OpenSpec.upto fnExactLacksSpec)

/-- 'laws.FnExactScan', WHERE WHAT IT READS IS OF BULK AT MOST 1048576: true; the input reads as it did. -/
def fnExactScanUptoRow : OpenClaim := { program := "ytgfjbaigmkdbcaa", sum := "060516f78d2e8d381e5363459af2eff6374d26d7d6d296e9fc3a2dc0ed76d61f", func := "loop.example/g00412/laws.FnExactScan", spec := "fnExactScan", unfollowed := true, recurses := true, apart := false, narrowed := true }
def FnExactScanUptoSaid : Prop := fnExactScanUptoRow.holds Try.pinned (OpenSpec.upto fnExactScanSpec)

/-- 'laws.FnExactDeviceOk', WHERE WHAT IT READS IS OF BULK AT MOST 1048576: true; the input reads as it did. -/
def fnExactDeviceOkUptoRow : OpenClaim := { program := "ytgfjbaigmkdbcaa", sum := "060516f78d2e8d381e5363459af2eff6374d26d7d6d296e9fc3a2dc0ed76d61f", func := "loop.example/g00412/laws.FnExactDeviceOk", spec := "fnExactDeviceOk", unfollowed := true, recurses := true, apart := false, narrowed := true }
def FnExactDeviceOkUptoSaid : Prop := fnExactDeviceOkUptoRow.holds Try.pinned (OpenSpec.upto fnExactDeviceOkSpec)

/-- 'laws.FnExactCutOk', WHERE WHAT IT READS IS OF BULK AT MOST 1048576: true; the input reads as it did. -/
def fnExactCutOkUptoRow : OpenClaim := { program := "ytgfjbaigmkdbcaa", sum := "060516f78d2e8d381e5363459af2eff6374d26d7d6d296e9fc3a2dc0ed76d61f", func := "loop.example/g00412/laws.FnExactCutOk", spec := "fnExactCutOk", apart := false, narrowed := true }
def FnExactCutOkUptoSaid : Prop := fnExactCutOkUptoRow.holds Try.pinned (OpenSpec.upto fnExactCutOkSpec)

/-- 'laws.FnExactStateOf', WHERE WHAT IT READS IS OF BULK AT MOST 1048576: true; the input reads as it did. -/
def fnExactStateOfUptoRow : OpenClaim := { program := "ytgfjbaigmkdbcaa", sum := "060516f78d2e8d381e5363459af2eff6374d26d7d6d296e9fc3a2dc0ed76d61f", func := "loop.example/g00412/laws.FnExactStateOf", spec := "fnExactStateOf", unfollowed := true, recurses := true, apart := false, narrowed := true }
def FnExactStateOfUptoSaid : Prop := fnExactStateOfUptoRow.holds Try.pinned (OpenSpec.upto fnExactStateOfSpec)

/-- 'laws.FnExactActionOk', WHERE WHAT IT READS IS OF BULK AT MOST 1048576: true; the input reads as it did. -/
def fnExactActionOkUptoRow : OpenClaim := { program := "ytgfjbaigmkdbcaa", sum := "060516f78d2e8d381e5363459af2eff6374d26d7d6d296e9fc3a2dc0ed76d61f", func := "loop.example/g00412/laws.FnExactActionOk", spec := "fnExactActionOk", apart := false, narrowed := true }
def FnExactActionOkUptoSaid : Prop := fnExactActionOkUptoRow.holds Try.pinned (OpenSpec.upto fnExactActionOkSpec)

/-- 'laws.FnExactHanded', WHERE WHAT IT READS IS OF BULK AT MOST 1048576: true; the input reads as it did. -/
def fnExactHandedUptoRow : OpenClaim := { program := "ytgfjbaigmkdbcaa", sum := "060516f78d2e8d381e5363459af2eff6374d26d7d6d296e9fc3a2dc0ed76d61f", func := "loop.example/g00412/laws.FnExactHanded", spec := "fnExactHanded", apart := false, narrowed := true }
def FnExactHandedUptoSaid : Prop := fnExactHandedUptoRow.holds Try.pinned (OpenSpec.upto fnExactHandedSpec)

end Rows
end Go.Proofs.Ytgfjbaigmkdbcaa
