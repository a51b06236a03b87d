/-
  DERIVED. GIVEN WITH THE SEED: THE CARDS: each row of YtoblilngppjmhaaDoorRows.lean that lists a variable, with what it lists TIED to the program's text (the seventh form; the later family's looks); each row that meets fmt, with fmt's text TOLD by the authors' own Lean function (tested against real Go, not proved from fmt's source: count such statements apart). THE CARD IS WHAT COUNTS. Prove the row's statement (the work); the ties are given (YtoblilngppjmhaaDoorTie.lean); close each card by the builder's one call (the guide's Derived/Test/ToyasCard.lean, 'card_holds'). Laid BY PROGRAM, IN A SANDBOX (cutbox-door.mjs). By AI agents, Wed Nov 11 2026. No macro, syntax, notation, axiom, sorry.
-/
import Derived.Test.YtoblilngppjmhaaDoorRows
import GoSem.ClaimSeven
namespace Go.Proofs.YtoblilngppjmhaaDoor
namespace Rows

/-- THE TIED CARD OF 'laws.FnPoints'. -/
def fnPointsCard : Claim7 := { stood := { row := fnPointsRow, standIns := [], harness := (true, "df612d6e27d38eeaf47ab03ad6a34686a387b38f7c86004119e6a9c10ca91ae3"), looks := true }, kinds := [], alts := [], laidByText := true, laidKinds := [.wider, .wider], laidTests := true, laidLooks := .later }
def FnPointsCardSaid : Prop := Claim7.holds Tryd.pinned (.plain (OpenSpec.ofChange fnPointsSpec)) fnPointsCard

/-- THE TIED CARD OF 'laws.FnMults'. -/
def fnMultsCard : Claim7 := { stood := { row := fnMultsRow, standIns := [], harness := (true, "df612d6e27d38eeaf47ab03ad6a34686a387b38f7c86004119e6a9c10ca91ae3"), looks := true }, kinds := [], alts := [], laidByText := true, laidKinds := [.wider, .data, .wider, .data, .data], laidTests := true, laidLooks := .later }
def FnMultsCardSaid : Prop := Claim7.holds Tryd.pinned (.plain (OpenSpec.ofChange fnMultsSpec)) fnMultsCard

/-- THE TIED CARD OF 'laws.FnPtBytes'. -/
def fnPtBytesCard : Claim7 := { stood := { row := fnPtBytesRow, standIns := [], harness := (true, "df612d6e27d38eeaf47ab03ad6a34686a387b38f7c86004119e6a9c10ca91ae3"), looks := true }, kinds := [], alts := [], laidByText := true, laidKinds := [.wider, .data, .wider, .data, .data], laidTests := true, laidLooks := .later }
def FnPtBytesCardSaid : Prop := Claim7.holds Tryd.pinned (.plain (OpenSpec.ofChange fnPtBytesSpec)) fnPtBytesCard

/-- THE TIED CARD OF 'laws.FnExactPtOk'. -/
def fnExactPtOkCard : Claim7 := { stood := { row := fnExactPtOkRow, standIns := [], harness := (true, "df612d6e27d38eeaf47ab03ad6a34686a387b38f7c86004119e6a9c10ca91ae3"), looks := true }, kinds := [], alts := [], laidByText := true, laidKinds := [.wider, .wider], laidTests := true, laidLooks := .later }
def FnExactPtOkCardSaid : Prop := Claim7.holds Tryd.pinned (.plain (OpenSpec.ofChange fnExactPtOkSpec)) fnExactPtOkCard

/-- THE TIED CARD OF 'laws.FnExactPtBase'. -/
def fnExactPtBaseCard : Claim7 := { stood := { row := fnExactPtBaseRow, standIns := [], harness := (true, "df612d6e27d38eeaf47ab03ad6a34686a387b38f7c86004119e6a9c10ca91ae3"), looks := true }, kinds := [], alts := [], laidByText := true, laidKinds := [.data, .data], laidTests := true, laidLooks := .later }
def FnExactPtBaseCardSaid : Prop := Claim7.holds Tryd.pinned (.plain (OpenSpec.ofChange fnExactPtBaseSpec)) fnExactPtBaseCard

/-- THE TIED CARD OF 'laws.FnExactPtAdd'. -/
def fnExactPtAddCard : Claim7 := { stood := { row := fnExactPtAddRow, standIns := [], harness := (true, "df612d6e27d38eeaf47ab03ad6a34686a387b38f7c86004119e6a9c10ca91ae3"), looks := true }, kinds := [], alts := [], laidByText := true, laidKinds := [.wider, .wider], laidTests := true, laidLooks := .later }
def FnExactPtAddCardSaid : Prop := Claim7.holds Tryd.pinned (.plain (OpenSpec.ofChange fnExactPtAddSpec)) fnExactPtAddCard

/-- THE TIED CARD OF 'laws.FnExactPtNeg'. -/
def fnExactPtNegCard : Claim7 := { stood := { row := fnExactPtNegRow, standIns := [], harness := (true, "df612d6e27d38eeaf47ab03ad6a34686a387b38f7c86004119e6a9c10ca91ae3"), looks := true }, kinds := [], alts := [], laidByText := true, laidKinds := [.wider, .wider], laidTests := true, laidLooks := .later }
def FnExactPtNegCardSaid : Prop := Claim7.holds Tryd.pinned (.plain (OpenSpec.ofChange fnExactPtNegSpec)) fnExactPtNegCard

/-- THE TIED CARD OF 'laws.FnExactPtMul'. -/
def fnExactPtMulCard : Claim7 := { stood := { row := fnExactPtMulRow, standIns := [], harness := (true, "df612d6e27d38eeaf47ab03ad6a34686a387b38f7c86004119e6a9c10ca91ae3"), looks := true }, kinds := [], alts := [], laidByText := true, laidKinds := [.wider, .data, .wider], laidTests := true, laidLooks := .later }
def FnExactPtMulCardSaid : Prop := Claim7.holds Tryd.pinned (.plain (OpenSpec.ofChange fnExactPtMulSpec)) fnExactPtMulCard

/-- THE TIED CARD OF 'laws.FnExactPtBytes'. -/
def fnExactPtBytesCard : Claim7 := { stood := { row := fnExactPtBytesRow, standIns := [], harness := (true, "df612d6e27d38eeaf47ab03ad6a34686a387b38f7c86004119e6a9c10ca91ae3"), looks := true }, kinds := [], alts := [], laidByText := true, laidKinds := [.wider, .wider], laidTests := true, laidLooks := .later }
def FnExactPtBytesCardSaid : Prop := Claim7.holds Tryd.pinned (.plain (OpenSpec.ofChange fnExactPtBytesSpec)) fnExactPtBytesCard

/-- THE TIED CARD OF 'laws.FnExactPtRead'. -/
def fnExactPtReadCard : Claim7 := { stood := { row := fnExactPtReadRow, standIns := [], harness := (true, "df612d6e27d38eeaf47ab03ad6a34686a387b38f7c86004119e6a9c10ca91ae3"), looks := true }, kinds := [], alts := [], laidByText := true, laidKinds := [.wider, .data, .wider], laidTests := true, laidLooks := .later }
def FnExactPtReadCardSaid : Prop := Claim7.holds Tryd.pinned (.plain (OpenSpec.ofChange fnExactPtReadSpec)) fnExactPtReadCard

/-- THE TIED CARD OF 'laws.FnExactPtTwice'. -/
def fnExactPtTwiceCard : Claim7 := { stood := { row := fnExactPtTwiceRow, standIns := [], harness := (true, "df612d6e27d38eeaf47ab03ad6a34686a387b38f7c86004119e6a9c10ca91ae3"), looks := true }, kinds := [], alts := [], laidByText := true, laidKinds := [.wider, .wider], laidTests := true, laidLooks := .later }
def FnExactPtTwiceCardSaid : Prop := Claim7.holds Tryd.pinned (.plain (OpenSpec.ofChange fnExactPtTwiceSpec)) fnExactPtTwiceCard

/-- THE SECOND FORM's CARD OF 'laws.FnPoints'. -/
def fnPointsUptoCard : Claim7 := { stood := { row := fnPointsUptoRow, standIns := [], harness := (true, "df612d6e27d38eeaf47ab03ad6a34686a387b38f7c86004119e6a9c10ca91ae3"), looks := true }, kinds := [], alts := [], laidByText := true, laidKinds := [.wider, .wider], laidTests := true, laidLooks := .later }
def FnPointsUptoCardSaid : Prop := Claim7.holds Tryd.pinned (.plain (OpenSpec.upto fnPointsSpec)) fnPointsUptoCard

/-- THE SECOND FORM's CARD OF 'laws.FnMults'. -/
def fnMultsUptoCard : Claim7 := { stood := { row := fnMultsUptoRow, standIns := [], harness := (true, "df612d6e27d38eeaf47ab03ad6a34686a387b38f7c86004119e6a9c10ca91ae3"), looks := true }, kinds := [], alts := [], laidByText := true, laidKinds := [.wider, .data, .wider, .data, .data], laidTests := true, laidLooks := .later }
def FnMultsUptoCardSaid : Prop := Claim7.holds Tryd.pinned (.plain (OpenSpec.upto fnMultsSpec)) fnMultsUptoCard

/-- THE SECOND FORM's CARD OF 'laws.FnPtBytes'. -/
def fnPtBytesUptoCard : Claim7 := { stood := { row := fnPtBytesUptoRow, standIns := [], harness := (true, "df612d6e27d38eeaf47ab03ad6a34686a387b38f7c86004119e6a9c10ca91ae3"), looks := true }, kinds := [], alts := [], laidByText := true, laidKinds := [.wider, .data, .wider, .data, .data], laidTests := true, laidLooks := .later }
def FnPtBytesUptoCardSaid : Prop := Claim7.holds Tryd.pinned (.plain (OpenSpec.upto fnPtBytesSpec)) fnPtBytesUptoCard

/-- THE SECOND FORM's CARD OF 'laws.FnExactPtOk'. -/
def fnExactPtOkUptoCard : Claim7 := { stood := { row := fnExactPtOkUptoRow, standIns := [], harness := (true, "df612d6e27d38eeaf47ab03ad6a34686a387b38f7c86004119e6a9c10ca91ae3"), looks := true }, kinds := [], alts := [], laidByText := true, laidKinds := [.wider, .wider], laidTests := true, laidLooks := .later }
def FnExactPtOkUptoCardSaid : Prop := Claim7.holds Tryd.pinned (.plain (OpenSpec.upto fnExactPtOkSpec)) fnExactPtOkUptoCard

/-- THE SECOND FORM's CARD OF 'laws.FnExactPtBase'. -/
def fnExactPtBaseUptoCard : Claim7 := { stood := { row := fnExactPtBaseUptoRow, standIns := [], harness := (true, "df612d6e27d38eeaf47ab03ad6a34686a387b38f7c86004119e6a9c10ca91ae3"), looks := true }, kinds := [], alts := [], laidByText := true, laidKinds := [.data, .data], laidTests := true, laidLooks := .later }
def FnExactPtBaseUptoCardSaid : Prop := Claim7.holds Tryd.pinned (.plain (OpenSpec.upto fnExactPtBaseSpec)) fnExactPtBaseUptoCard

/-- THE SECOND FORM's CARD OF 'laws.FnExactPtAdd'. -/
def fnExactPtAddUptoCard : Claim7 := { stood := { row := fnExactPtAddUptoRow, standIns := [], harness := (true, "df612d6e27d38eeaf47ab03ad6a34686a387b38f7c86004119e6a9c10ca91ae3"), looks := true }, kinds := [], alts := [], laidByText := true, laidKinds := [.wider, .wider], laidTests := true, laidLooks := .later }
def FnExactPtAddUptoCardSaid : Prop := Claim7.holds Tryd.pinned (.plain (OpenSpec.upto fnExactPtAddSpec)) fnExactPtAddUptoCard

/-- THE SECOND FORM's CARD OF 'laws.FnExactPtNeg'. -/
def fnExactPtNegUptoCard : Claim7 := { stood := { row := fnExactPtNegUptoRow, standIns := [], harness := (true, "df612d6e27d38eeaf47ab03ad6a34686a387b38f7c86004119e6a9c10ca91ae3"), looks := true }, kinds := [], alts := [], laidByText := true, laidKinds := [.wider, .wider], laidTests := true, laidLooks := .later }
def FnExactPtNegUptoCardSaid : Prop := Claim7.holds Tryd.pinned (.plain (OpenSpec.upto fnExactPtNegSpec)) fnExactPtNegUptoCard

/-- THE SECOND FORM's CARD OF 'laws.FnExactPtMul'. -/
def fnExactPtMulUptoCard : Claim7 := { stood := { row := fnExactPtMulUptoRow, standIns := [], harness := (true, "df612d6e27d38eeaf47ab03ad6a34686a387b38f7c86004119e6a9c10ca91ae3"), looks := true }, kinds := [], alts := [], laidByText := true, laidKinds := [.wider, .data, .wider], laidTests := true, laidLooks := .later }
def FnExactPtMulUptoCardSaid : Prop := Claim7.holds Tryd.pinned (.plain (OpenSpec.upto fnExactPtMulSpec)) fnExactPtMulUptoCard

/-- THE SECOND FORM's CARD OF 'laws.FnExactPtBytes'. -/
def fnExactPtBytesUptoCard : Claim7 := { stood := { row := fnExactPtBytesUptoRow, standIns := [], harness := (true, "df612d6e27d38eeaf47ab03ad6a34686a387b38f7c86004119e6a9c10ca91ae3"), looks := true }, kinds := [], alts := [], laidByText := true, laidKinds := [.wider, .wider], laidTests := true, laidLooks := .later }
def FnExactPtBytesUptoCardSaid : Prop := Claim7.holds Tryd.pinned (.plain (OpenSpec.upto fnExactPtBytesSpec)) fnExactPtBytesUptoCard

/-- THE SECOND FORM's CARD OF 'laws.FnExactPtRead'. -/
def fnExactPtReadUptoCard : Claim7 := { stood := { row := fnExactPtReadUptoRow, standIns := [], harness := (true, "df612d6e27d38eeaf47ab03ad6a34686a387b38f7c86004119e6a9c10ca91ae3"), looks := true }, kinds := [], alts := [], laidByText := true, laidKinds := [.wider, .data, .wider], laidTests := true, laidLooks := .later }
def FnExactPtReadUptoCardSaid : Prop := Claim7.holds Tryd.pinned (.plain (OpenSpec.upto fnExactPtReadSpec)) fnExactPtReadUptoCard

/-- THE SECOND FORM's CARD OF 'laws.FnExactPtTwice'. -/
def fnExactPtTwiceUptoCard : Claim7 := { stood := { row := fnExactPtTwiceUptoRow, standIns := [], harness := (true, "df612d6e27d38eeaf47ab03ad6a34686a387b38f7c86004119e6a9c10ca91ae3"), looks := true }, kinds := [], alts := [], laidByText := true, laidKinds := [.wider, .wider], laidTests := true, laidLooks := .later }
def FnExactPtTwiceUptoCardSaid : Prop := Claim7.holds Tryd.pinned (.plain (OpenSpec.upto fnExactPtTwiceSpec)) fnExactPtTwiceUptoCard
end Rows
end Go.Proofs.YtoblilngppjmhaaDoor
