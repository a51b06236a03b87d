/-
  DERIVED. GIVEN WITH THE SEED: THE CARDS: each row of YtlglkbimnnmhdaaDoorRows.lean that lists a variable, with what it lists TIED to the program's text (the seventh form; the later family's looks); each row that meets fmt, with fmt's text TOLD by the authors' own Lean function (tested against real Go, not proved from fmt's source: count such statements apart). THE CARD IS WHAT COUNTS. Prove the row's statement (the work); the ties are given (YtlglkbimnnmhdaaDoorTie.lean); close each card by the builder's one call (the guide's Derived/Test/ToyasCard.lean, 'card_holds'). Laid BY PROGRAM, IN A SANDBOX (cutbox-door.mjs). By AI agents, Wed Nov 11 2026. No macro, syntax, notation, axiom, sorry.
-/
import Derived.Test.YtlglkbimnnmhdaaDoorRows
import GoSem.ClaimSeven
namespace Go.Proofs.YtlglkbimnnmhdaaDoor
namespace Rows

/-- THE TIED CARD OF 'laws.FnShas'. -/
def fnShasCard : Claim7 := { stood := { row := fnShasRow, standIns := [], harness := (true, "00d5088af83844af40d07dea73e87fddacddfc64739281d54c14ed6f1b2449be"), looks := false }, kinds := [], alts := [], laidByText := true, laidKinds := [.data, .data, .data], laidTests := true, laidLooks := .later }
def FnShasCardSaid : Prop := Claim7.holds Tryd.pinned (.plain (OpenSpec.ofChange fnShasSpec)) fnShasCard

/-- THE TIED CARD OF 'laws.FnBlocks'. -/
def fnBlocksCard : Claim7 := { stood := { row := fnBlocksRow, standIns := [], harness := (true, "00d5088af83844af40d07dea73e87fddacddfc64739281d54c14ed6f1b2449be"), looks := false }, kinds := [], alts := [], laidByText := true, laidKinds := [.data, .data, .data], laidTests := true, laidLooks := .later }
def FnBlocksCardSaid : Prop := Claim7.holds Tryd.pinned (.plain (OpenSpec.ofChange fnBlocksSpec)) fnBlocksCard

/-- THE TIED CARD OF 'laws.FnExactShaNew'. -/
def fnExactShaNewCard : Claim7 := { stood := { row := fnExactShaNewRow, standIns := [], harness := (true, "00d5088af83844af40d07dea73e87fddacddfc64739281d54c14ed6f1b2449be"), looks := false }, kinds := [], alts := [], laidByText := true, laidKinds := [.data], laidTests := true, laidLooks := .later }
def FnExactShaNewCardSaid : Prop := Claim7.holds Tryd.pinned (.plain (OpenSpec.ofChange fnExactShaNewSpec)) fnExactShaNewCard

/-- THE TIED CARD OF 'laws.FnExactShaBlock'. -/
def fnExactShaBlockCard : Claim7 := { stood := { row := fnExactShaBlockRow, standIns := [], harness := (true, "00d5088af83844af40d07dea73e87fddacddfc64739281d54c14ed6f1b2449be"), looks := false }, kinds := [], alts := [], laidByText := true, laidKinds := [.data, .data], laidTests := true, laidLooks := .later }
def FnExactShaBlockCardSaid : Prop := Claim7.holds Tryd.pinned (.plain (OpenSpec.ofChange fnExactShaBlockSpec)) fnExactShaBlockCard

/-- THE TIED CARD OF 'laws.FnExactShaAdd'. -/
def fnExactShaAddCard : Claim7 := { stood := { row := fnExactShaAddRow, standIns := [], harness := (true, "00d5088af83844af40d07dea73e87fddacddfc64739281d54c14ed6f1b2449be"), looks := false }, kinds := [], alts := [], laidByText := true, laidKinds := [.data, .data], laidTests := true, laidLooks := .later }
def FnExactShaAddCardSaid : Prop := Claim7.holds Tryd.pinned (.plain (OpenSpec.ofChange fnExactShaAddSpec)) fnExactShaAddCard

/-- THE TIED CARD OF 'laws.FnExactShaEnd'. -/
def fnExactShaEndCard : Claim7 := { stood := { row := fnExactShaEndRow, standIns := [], harness := (true, "00d5088af83844af40d07dea73e87fddacddfc64739281d54c14ed6f1b2449be"), looks := false }, kinds := [], alts := [], laidByText := true, laidKinds := [.data, .data], laidTests := true, laidLooks := .later }
def FnExactShaEndCardSaid : Prop := Claim7.holds Tryd.pinned (.plain (OpenSpec.ofChange fnExactShaEndSpec)) fnExactShaEndCard

/-- THE TIED CARD OF 'laws.FnExactSha256'. -/
def fnExactSha256Card : Claim7 := { stood := { row := fnExactSha256Row, standIns := [], harness := (true, "00d5088af83844af40d07dea73e87fddacddfc64739281d54c14ed6f1b2449be"), looks := false }, kinds := [], alts := [], laidByText := true, laidKinds := [.data, .data, .data], laidTests := true, laidLooks := .later }
def FnExactSha256CardSaid : Prop := Claim7.holds Tryd.pinned (.plain (OpenSpec.ofChange fnExactSha256Spec)) fnExactSha256Card

/-- THE SECOND FORM's CARD OF 'laws.FnShas'. -/
def fnShasUptoCard : Claim7 := { stood := { row := fnShasUptoRow, standIns := [], harness := (true, "00d5088af83844af40d07dea73e87fddacddfc64739281d54c14ed6f1b2449be"), looks := false }, kinds := [], alts := [], laidByText := true, laidKinds := [.data, .data, .data], laidTests := true, laidLooks := .later }
def FnShasUptoCardSaid : Prop := Claim7.holds Tryd.pinned (.plain (OpenSpec.upto fnShasSpec)) fnShasUptoCard

/-- THE SECOND FORM's CARD OF 'laws.FnBlocks'. -/
def fnBlocksUptoCard : Claim7 := { stood := { row := fnBlocksUptoRow, standIns := [], harness := (true, "00d5088af83844af40d07dea73e87fddacddfc64739281d54c14ed6f1b2449be"), looks := false }, kinds := [], alts := [], laidByText := true, laidKinds := [.data, .data, .data], laidTests := true, laidLooks := .later }
def FnBlocksUptoCardSaid : Prop := Claim7.holds Tryd.pinned (.plain (OpenSpec.upto fnBlocksSpec)) fnBlocksUptoCard

/-- THE SECOND FORM's CARD OF 'laws.FnExactShaNew'. -/
def fnExactShaNewUptoCard : Claim7 := { stood := { row := fnExactShaNewUptoRow, standIns := [], harness := (true, "00d5088af83844af40d07dea73e87fddacddfc64739281d54c14ed6f1b2449be"), looks := false }, kinds := [], alts := [], laidByText := true, laidKinds := [.data], laidTests := true, laidLooks := .later }
def FnExactShaNewUptoCardSaid : Prop := Claim7.holds Tryd.pinned (.plain (OpenSpec.upto fnExactShaNewSpec)) fnExactShaNewUptoCard

/-- THE SECOND FORM's CARD OF 'laws.FnExactShaBlock'. -/
def fnExactShaBlockUptoCard : Claim7 := { stood := { row := fnExactShaBlockUptoRow, standIns := [], harness := (true, "00d5088af83844af40d07dea73e87fddacddfc64739281d54c14ed6f1b2449be"), looks := false }, kinds := [], alts := [], laidByText := true, laidKinds := [.data, .data], laidTests := true, laidLooks := .later }
def FnExactShaBlockUptoCardSaid : Prop := Claim7.holds Tryd.pinned (.plain (OpenSpec.upto fnExactShaBlockSpec)) fnExactShaBlockUptoCard

/-- THE SECOND FORM's CARD OF 'laws.FnExactShaAdd'. -/
def fnExactShaAddUptoCard : Claim7 := { stood := { row := fnExactShaAddUptoRow, standIns := [], harness := (true, "00d5088af83844af40d07dea73e87fddacddfc64739281d54c14ed6f1b2449be"), looks := false }, kinds := [], alts := [], laidByText := true, laidKinds := [.data, .data], laidTests := true, laidLooks := .later }
def FnExactShaAddUptoCardSaid : Prop := Claim7.holds Tryd.pinned (.plain (OpenSpec.upto fnExactShaAddSpec)) fnExactShaAddUptoCard

/-- THE SECOND FORM's CARD OF 'laws.FnExactShaEnd'. -/
def fnExactShaEndUptoCard : Claim7 := { stood := { row := fnExactShaEndUptoRow, standIns := [], harness := (true, "00d5088af83844af40d07dea73e87fddacddfc64739281d54c14ed6f1b2449be"), looks := false }, kinds := [], alts := [], laidByText := true, laidKinds := [.data, .data], laidTests := true, laidLooks := .later }
def FnExactShaEndUptoCardSaid : Prop := Claim7.holds Tryd.pinned (.plain (OpenSpec.upto fnExactShaEndSpec)) fnExactShaEndUptoCard

/-- THE SECOND FORM's CARD OF 'laws.FnExactSha256'. -/
def fnExactSha256UptoCard : Claim7 := { stood := { row := fnExactSha256UptoRow, standIns := [], harness := (true, "00d5088af83844af40d07dea73e87fddacddfc64739281d54c14ed6f1b2449be"), looks := false }, kinds := [], alts := [], laidByText := true, laidKinds := [.data, .data, .data], laidTests := true, laidLooks := .later }
def FnExactSha256UptoCardSaid : Prop := Claim7.holds Tryd.pinned (.plain (OpenSpec.upto fnExactSha256Spec)) fnExactSha256UptoCard
end Rows
end Go.Proofs.YtlglkbimnnmhdaaDoor
