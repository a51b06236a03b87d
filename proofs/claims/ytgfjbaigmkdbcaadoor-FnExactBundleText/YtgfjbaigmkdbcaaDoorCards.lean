/-
  DERIVED. GIVEN WITH THE SEED: THE CARDS: each row of YtgfjbaigmkdbcaaDoorRows.lean that lists a variable, with what it lists TIED to the program's text (the seventh form; the later family's looks); each row that meets fmt, with fmt's text TOLD by the authors' own Lean function (tested against real Go, not proved from fmt's source: count such statements apart). THE CARD IS WHAT COUNTS. Prove the row's statement (the work); the ties are given (YtgfjbaigmkdbcaaDoorTie.lean); close each card by the builder's one call (the guide's Derived/Test/ToyasCard.lean, 'card_holds'). Laid BY PROGRAM, IN A SANDBOX (cutbox-door.mjs). By AI agents, Wed Nov 11 2026. No macro, syntax, notation, axiom, sorry.
-/
import Derived.Test.YtgfjbaigmkdbcaaDoorRows
import GoSem.ClaimSeven
namespace Go.Proofs.YtgfjbaigmkdbcaaDoor
namespace Rows

/-- THE TIED CARD OF 'laws.FnExactBundleText'. -/
def fnExactBundleTextCard : Claim7 := { stood := { row := fnExactBundleTextRow, standIns := [], harness := (true, "f593ebfe8311659a1917d8845d2c6a6d9d9b209b905fef06caa2600fcfb76510"), looks := false }, kinds := [], alts := [], laidByText := true, laidKinds := [.data, .data, .data], laidTests := true, laidLooks := .later }
def FnExactBundleTextCardSaid : Prop := Claim7.holds Tryd.pinned (.plain (OpenSpec.ofChange fnExactBundleTextSpec)) fnExactBundleTextCard

/-- THE TIED CARD OF 'laws.FnExactRecText'. -/
def fnExactRecTextCard : Claim7 := { stood := { row := fnExactRecTextRow, standIns := [], harness := (true, "f593ebfe8311659a1917d8845d2c6a6d9d9b209b905fef06caa2600fcfb76510"), looks := false }, kinds := [], alts := [], laidByText := true, laidKinds := [.data, .data, .data], laidTests := true, laidLooks := .later }
def FnExactRecTextCardSaid : Prop := Claim7.holds Tryd.pinned (.plain (OpenSpec.ofChange fnExactRecTextSpec)) fnExactRecTextCard

/-- THE TIED CARD OF 'laws.FnExactBootText'. -/
def fnExactBootTextCard : Claim7 := { stood := { row := fnExactBootTextRow, standIns := [], harness := (true, "f593ebfe8311659a1917d8845d2c6a6d9d9b209b905fef06caa2600fcfb76510"), looks := false }, kinds := [], alts := [], laidByText := true, laidKinds := [.data, .data, .data], laidTests := true, laidLooks := .later }
def FnExactBootTextCardSaid : Prop := Claim7.holds Tryd.pinned (.plain (OpenSpec.ofChange fnExactBootTextSpec)) fnExactBootTextCard

/-- THE TIED CARD OF 'laws.FnExactReplyText'. -/
def fnExactReplyTextCard : Claim7 := { stood := { row := fnExactReplyTextRow, standIns := [], harness := (true, "f593ebfe8311659a1917d8845d2c6a6d9d9b209b905fef06caa2600fcfb76510"), looks := false }, kinds := [], alts := [], laidByText := true, laidKinds := [.data, .data, .data], laidTests := true, laidLooks := .later }
def FnExactReplyTextCardSaid : Prop := Claim7.holds Tryd.pinned (.plain (OpenSpec.ofChange fnExactReplyTextSpec)) fnExactReplyTextCard

/-- THE SECOND FORM's CARD OF 'laws.FnExactBundleText'. -/
def fnExactBundleTextUptoCard : Claim7 := { stood := { row := fnExactBundleTextUptoRow, standIns := [], harness := (true, "f593ebfe8311659a1917d8845d2c6a6d9d9b209b905fef06caa2600fcfb76510"), looks := false }, kinds := [], alts := [], laidByText := true, laidKinds := [.data, .data, .data], laidTests := true, laidLooks := .later }
def FnExactBundleTextUptoCardSaid : Prop := Claim7.holds Tryd.pinned (.plain (OpenSpec.upto fnExactBundleTextSpec)) fnExactBundleTextUptoCard

/-- THE SECOND FORM's CARD OF 'laws.FnExactRecText'. -/
def fnExactRecTextUptoCard : Claim7 := { stood := { row := fnExactRecTextUptoRow, standIns := [], harness := (true, "f593ebfe8311659a1917d8845d2c6a6d9d9b209b905fef06caa2600fcfb76510"), looks := false }, kinds := [], alts := [], laidByText := true, laidKinds := [.data, .data, .data], laidTests := true, laidLooks := .later }
def FnExactRecTextUptoCardSaid : Prop := Claim7.holds Tryd.pinned (.plain (OpenSpec.upto fnExactRecTextSpec)) fnExactRecTextUptoCard

/-- THE SECOND FORM's CARD OF 'laws.FnExactBootText'. -/
def fnExactBootTextUptoCard : Claim7 := { stood := { row := fnExactBootTextUptoRow, standIns := [], harness := (true, "f593ebfe8311659a1917d8845d2c6a6d9d9b209b905fef06caa2600fcfb76510"), looks := false }, kinds := [], alts := [], laidByText := true, laidKinds := [.data, .data, .data], laidTests := true, laidLooks := .later }
def FnExactBootTextUptoCardSaid : Prop := Claim7.holds Tryd.pinned (.plain (OpenSpec.upto fnExactBootTextSpec)) fnExactBootTextUptoCard

/-- THE SECOND FORM's CARD OF 'laws.FnExactReplyText'. -/
def fnExactReplyTextUptoCard : Claim7 := { stood := { row := fnExactReplyTextUptoRow, standIns := [], harness := (true, "f593ebfe8311659a1917d8845d2c6a6d9d9b209b905fef06caa2600fcfb76510"), looks := false }, kinds := [], alts := [], laidByText := true, laidKinds := [.data, .data, .data], laidTests := true, laidLooks := .later }
def FnExactReplyTextUptoCardSaid : Prop := Claim7.holds Tryd.pinned (.plain (OpenSpec.upto fnExactReplyTextSpec)) fnExactReplyTextUptoCard
end Rows
end Go.Proofs.YtgfjbaigmkdbcaaDoor
