/-
  DERIVED. GIVEN WITH THE SEED: THE CARDS: each row of YtgapfkiceolceaaDoorRows.lean that lists a variable, with what it lists TIED to the program's text (the seventh form; the later family's looks); each row that meets fmt, with fmt's text TOLD by the authors' own Lean function (tested against real Go, not proved from fmt's source: count such statements apart). THE CARD IS WHAT COUNTS. Prove the row's statement (the work); the ties are given (YtgapfkiceolceaaDoorTie.lean); close each card by the builder's one call (the guide's Derived/Test/ToyasCard.lean, 'card_holds'). Laid BY PROGRAM, IN A SANDBOX (cutbox-door.mjs). By AI agents, Wed Nov 11 2026. No macro, syntax, notation, axiom, sorry.
-/
import Derived.Test.YtgapfkiceolceaaDoorRows
import GoSem.ClaimSeven
namespace Go.Proofs.YtgapfkiceolceaaDoor
namespace Rows

/-- THE TIED CARD OF 'laws.FnShas'. -/
def fnShasCard : Claim7 := { stood := { row := fnShasRow, standIns := [], harness := (true, "d6fee7adaf1885222ef98b2c0dbfc2ae19441d6e9364a74a7d10bac0d91b724a"), looks := false }, kinds := [], alts := [], laidByText := true, laidKinds := [.data, .data, .data], laidTests := true, laidLooks := .later }
def FnShasCardSaid : Prop := Claim7.holds Tryd.pinned (.plain (OpenSpec.ofChange fnShasSpec)) fnShasCard

/-- THE TIED CARD OF 'laws.FnBlocks'. -/
def fnBlocksCard : Claim7 := { stood := { row := fnBlocksRow, standIns := [], harness := (true, "d6fee7adaf1885222ef98b2c0dbfc2ae19441d6e9364a74a7d10bac0d91b724a"), looks := false }, kinds := [], alts := [], laidByText := true, laidKinds := [.data, .data, .data], laidTests := true, laidLooks := .later }
def FnBlocksCardSaid : Prop := Claim7.holds Tryd.pinned (.plain (OpenSpec.ofChange fnBlocksSpec)) fnBlocksCard

/-- THE TIED CARD OF 'laws.FnWides'. -/
def fnWidesCard : Claim7 := { stood := { row := fnWidesRow, standIns := [], harness := (true, "d6fee7adaf1885222ef98b2c0dbfc2ae19441d6e9364a74a7d10bac0d91b724a"), looks := false }, kinds := [], alts := [], laidByText := true, laidKinds := [.data, .data, .data, .data, .data, .data], laidTests := true, laidLooks := .later }
def FnWidesCardSaid : Prop := Claim7.holds Tryd.pinned (.plain (OpenSpec.ofChange fnWidesSpec)) fnWidesCard

/-- THE TIED CARD OF 'laws.FnExactShaNew'. -/
def fnExactShaNewCard : Claim7 := { stood := { row := fnExactShaNewRow, standIns := [], harness := (true, "d6fee7adaf1885222ef98b2c0dbfc2ae19441d6e9364a74a7d10bac0d91b724a"), looks := false }, kinds := [], alts := [], laidByText := true, laidKinds := [.data], laidTests := true, laidLooks := .later }
def FnExactShaNewCardSaid : Prop := Claim7.holds Tryd.pinned (.plain (OpenSpec.ofChange fnExactShaNewSpec)) fnExactShaNewCard

/-- THE TIED CARD OF 'laws.FnExactShaBlock'. -/
def fnExactShaBlockCard : Claim7 := { stood := { row := fnExactShaBlockRow, standIns := [], harness := (true, "d6fee7adaf1885222ef98b2c0dbfc2ae19441d6e9364a74a7d10bac0d91b724a"), looks := false }, kinds := [], alts := [], laidByText := true, laidKinds := [.data, .data], laidTests := true, laidLooks := .later }
def FnExactShaBlockCardSaid : Prop := Claim7.holds Tryd.pinned (.plain (OpenSpec.ofChange fnExactShaBlockSpec)) fnExactShaBlockCard

/-- THE TIED CARD OF 'laws.FnExactShaAdd'. -/
def fnExactShaAddCard : Claim7 := { stood := { row := fnExactShaAddRow, standIns := [], harness := (true, "d6fee7adaf1885222ef98b2c0dbfc2ae19441d6e9364a74a7d10bac0d91b724a"), looks := false }, kinds := [], alts := [], laidByText := true, laidKinds := [.data, .data], laidTests := true, laidLooks := .later }
def FnExactShaAddCardSaid : Prop := Claim7.holds Tryd.pinned (.plain (OpenSpec.ofChange fnExactShaAddSpec)) fnExactShaAddCard

/-- THE TIED CARD OF 'laws.FnExactShaEnd'. -/
def fnExactShaEndCard : Claim7 := { stood := { row := fnExactShaEndRow, standIns := [], harness := (true, "d6fee7adaf1885222ef98b2c0dbfc2ae19441d6e9364a74a7d10bac0d91b724a"), looks := false }, kinds := [], alts := [], laidByText := true, laidKinds := [.data, .data], laidTests := true, laidLooks := .later }
def FnExactShaEndCardSaid : Prop := Claim7.holds Tryd.pinned (.plain (OpenSpec.ofChange fnExactShaEndSpec)) fnExactShaEndCard

/-- THE TIED CARD OF 'laws.FnExactSha256'. -/
def fnExactSha256Card : Claim7 := { stood := { row := fnExactSha256Row, standIns := [], harness := (true, "d6fee7adaf1885222ef98b2c0dbfc2ae19441d6e9364a74a7d10bac0d91b724a"), looks := false }, kinds := [], alts := [], laidByText := true, laidKinds := [.data, .data, .data], laidTests := true, laidLooks := .later }
def FnExactSha256CardSaid : Prop := Claim7.holds Tryd.pinned (.plain (OpenSpec.ofChange fnExactSha256Spec)) fnExactSha256Card

/-- THE TIED CARD OF 'laws.FnExactSha512'. -/
def fnExactSha512Card : Claim7 := { stood := { row := fnExactSha512Row, standIns := [], harness := (true, "d6fee7adaf1885222ef98b2c0dbfc2ae19441d6e9364a74a7d10bac0d91b724a"), looks := false }, kinds := [], alts := [], laidByText := true, laidKinds := [.data, .data, .data], laidTests := true, laidLooks := .later }
def FnExactSha512CardSaid : Prop := Claim7.holds Tryd.pinned (.plain (OpenSpec.ofChange fnExactSha512Spec)) fnExactSha512Card

/-- THE TIED CARD OF 'laws.FnExactWide'. -/
def fnExactWideCard : Claim7 := { stood := { row := fnExactWideRow, standIns := [], harness := (true, "d6fee7adaf1885222ef98b2c0dbfc2ae19441d6e9364a74a7d10bac0d91b724a"), looks := false }, kinds := [], alts := [], laidByText := true, laidKinds := [.data, .data], laidTests := true, laidLooks := .later }
def FnExactWideCardSaid : Prop := Claim7.holds Tryd.pinned (.plain (OpenSpec.ofChange fnExactWideSpec)) fnExactWideCard

/-- THE TIED CARD OF 'laws.FnExactRound512'. -/
def fnExactRound512Card : Claim7 := { stood := { row := fnExactRound512Row, standIns := [], harness := (true, "d6fee7adaf1885222ef98b2c0dbfc2ae19441d6e9364a74a7d10bac0d91b724a"), looks := false }, kinds := [], alts := [], laidByText := true, laidKinds := [.data], laidTests := true, laidLooks := .later }
def FnExactRound512CardSaid : Prop := Claim7.holds Tryd.pinned (.plain (OpenSpec.ofChange fnExactRound512Spec)) fnExactRound512Card

/-- THE SECOND FORM's CARD OF 'laws.FnShas'. -/
def fnShasUptoCard : Claim7 := { stood := { row := fnShasUptoRow, standIns := [], harness := (true, "d6fee7adaf1885222ef98b2c0dbfc2ae19441d6e9364a74a7d10bac0d91b724a"), looks := false }, kinds := [], alts := [], laidByText := true, laidKinds := [.data, .data, .data], laidTests := true, laidLooks := .later }
def FnShasUptoCardSaid : Prop := Claim7.holds Tryd.pinned (.plain (OpenSpec.upto fnShasSpec)) fnShasUptoCard

/-- THE SECOND FORM's CARD OF 'laws.FnBlocks'. -/
def fnBlocksUptoCard : Claim7 := { stood := { row := fnBlocksUptoRow, standIns := [], harness := (true, "d6fee7adaf1885222ef98b2c0dbfc2ae19441d6e9364a74a7d10bac0d91b724a"), looks := false }, kinds := [], alts := [], laidByText := true, laidKinds := [.data, .data, .data], laidTests := true, laidLooks := .later }
def FnBlocksUptoCardSaid : Prop := Claim7.holds Tryd.pinned (.plain (OpenSpec.upto fnBlocksSpec)) fnBlocksUptoCard

/-- THE SECOND FORM's CARD OF 'laws.FnWides'. -/
def fnWidesUptoCard : Claim7 := { stood := { row := fnWidesUptoRow, standIns := [], harness := (true, "d6fee7adaf1885222ef98b2c0dbfc2ae19441d6e9364a74a7d10bac0d91b724a"), looks := false }, kinds := [], alts := [], laidByText := true, laidKinds := [.data, .data, .data, .data, .data, .data], laidTests := true, laidLooks := .later }
def FnWidesUptoCardSaid : Prop := Claim7.holds Tryd.pinned (.plain (OpenSpec.upto fnWidesSpec)) fnWidesUptoCard

/-- THE SECOND FORM's CARD OF 'laws.FnExactShaNew'. -/
def fnExactShaNewUptoCard : Claim7 := { stood := { row := fnExactShaNewUptoRow, standIns := [], harness := (true, "d6fee7adaf1885222ef98b2c0dbfc2ae19441d6e9364a74a7d10bac0d91b724a"), looks := false }, kinds := [], alts := [], laidByText := true, laidKinds := [.data], laidTests := true, laidLooks := .later }
def FnExactShaNewUptoCardSaid : Prop := Claim7.holds Tryd.pinned (.plain (OpenSpec.upto fnExactShaNewSpec)) fnExactShaNewUptoCard

/-- THE SECOND FORM's CARD OF 'laws.FnExactShaBlock'. -/
def fnExactShaBlockUptoCard : Claim7 := { stood := { row := fnExactShaBlockUptoRow, standIns := [], harness := (true, "d6fee7adaf1885222ef98b2c0dbfc2ae19441d6e9364a74a7d10bac0d91b724a"), looks := false }, kinds := [], alts := [], laidByText := true, laidKinds := [.data, .data], laidTests := true, laidLooks := .later }
def FnExactShaBlockUptoCardSaid : Prop := Claim7.holds Tryd.pinned (.plain (OpenSpec.upto fnExactShaBlockSpec)) fnExactShaBlockUptoCard

/-- THE SECOND FORM's CARD OF 'laws.FnExactShaAdd'. -/
def fnExactShaAddUptoCard : Claim7 := { stood := { row := fnExactShaAddUptoRow, standIns := [], harness := (true, "d6fee7adaf1885222ef98b2c0dbfc2ae19441d6e9364a74a7d10bac0d91b724a"), looks := false }, kinds := [], alts := [], laidByText := true, laidKinds := [.data, .data], laidTests := true, laidLooks := .later }
def FnExactShaAddUptoCardSaid : Prop := Claim7.holds Tryd.pinned (.plain (OpenSpec.upto fnExactShaAddSpec)) fnExactShaAddUptoCard

/-- THE SECOND FORM's CARD OF 'laws.FnExactShaEnd'. -/
def fnExactShaEndUptoCard : Claim7 := { stood := { row := fnExactShaEndUptoRow, standIns := [], harness := (true, "d6fee7adaf1885222ef98b2c0dbfc2ae19441d6e9364a74a7d10bac0d91b724a"), looks := false }, kinds := [], alts := [], laidByText := true, laidKinds := [.data, .data], laidTests := true, laidLooks := .later }
def FnExactShaEndUptoCardSaid : Prop := Claim7.holds Tryd.pinned (.plain (OpenSpec.upto fnExactShaEndSpec)) fnExactShaEndUptoCard

/-- THE SECOND FORM's CARD OF 'laws.FnExactSha256'. -/
def fnExactSha256UptoCard : Claim7 := { stood := { row := fnExactSha256UptoRow, standIns := [], harness := (true, "d6fee7adaf1885222ef98b2c0dbfc2ae19441d6e9364a74a7d10bac0d91b724a"), looks := false }, kinds := [], alts := [], laidByText := true, laidKinds := [.data, .data, .data], laidTests := true, laidLooks := .later }
def FnExactSha256UptoCardSaid : Prop := Claim7.holds Tryd.pinned (.plain (OpenSpec.upto fnExactSha256Spec)) fnExactSha256UptoCard

/-- THE SECOND FORM's CARD OF 'laws.FnExactSha512'. -/
def fnExactSha512UptoCard : Claim7 := { stood := { row := fnExactSha512UptoRow, standIns := [], harness := (true, "d6fee7adaf1885222ef98b2c0dbfc2ae19441d6e9364a74a7d10bac0d91b724a"), looks := false }, kinds := [], alts := [], laidByText := true, laidKinds := [.data, .data, .data], laidTests := true, laidLooks := .later }
def FnExactSha512UptoCardSaid : Prop := Claim7.holds Tryd.pinned (.plain (OpenSpec.upto fnExactSha512Spec)) fnExactSha512UptoCard

/-- THE SECOND FORM's CARD OF 'laws.FnExactWide'. -/
def fnExactWideUptoCard : Claim7 := { stood := { row := fnExactWideUptoRow, standIns := [], harness := (true, "d6fee7adaf1885222ef98b2c0dbfc2ae19441d6e9364a74a7d10bac0d91b724a"), looks := false }, kinds := [], alts := [], laidByText := true, laidKinds := [.data, .data], laidTests := true, laidLooks := .later }
def FnExactWideUptoCardSaid : Prop := Claim7.holds Tryd.pinned (.plain (OpenSpec.upto fnExactWideSpec)) fnExactWideUptoCard

/-- THE SECOND FORM's CARD OF 'laws.FnExactRound512'. -/
def fnExactRound512UptoCard : Claim7 := { stood := { row := fnExactRound512UptoRow, standIns := [], harness := (true, "d6fee7adaf1885222ef98b2c0dbfc2ae19441d6e9364a74a7d10bac0d91b724a"), looks := false }, kinds := [], alts := [], laidByText := true, laidKinds := [.data], laidTests := true, laidLooks := .later }
def FnExactRound512UptoCardSaid : Prop := Claim7.holds Tryd.pinned (.plain (OpenSpec.upto fnExactRound512Spec)) fnExactRound512UptoCard
end Rows
end Go.Proofs.YtgapfkiceolceaaDoor
