/-
  DERIVED. GIVEN WITH THE SEED: THE CARDS: each row of YtlafcjoccbinaaaDoorRows.lean that lists a variable, with what it lists TIED to the program's text (the seventh form; the later family's looks); each row that meets fmt, with fmt's text TOLD by the authors' own Lean function (tested against real Go, not proved from fmt's source: count such statements apart). THE CARD IS WHAT COUNTS. Prove the row's statement (the work); the ties are given (YtlafcjoccbinaaaDoorTie.lean); close each card by the builder's one call (the guide's Derived/Test/ToyasCard.lean, 'card_holds'). Laid BY PROGRAM, IN A SANDBOX (cutbox-door.mjs). By AI agents, Wed Nov 11 2026. No macro, syntax, notation, axiom, sorry.
-/
import Derived.Test.YtlafcjoccbinaaaDoorRows
import GoSem.ClaimSeven
namespace Go.Proofs.YtlafcjoccbinaaaDoor
namespace Rows

/-- THE TIED CARD OF 'laws.FnScalars'. -/
def fnScalarsCard : Claim7 := { stood := { row := fnScalarsRow, standIns := [], harness := (true, "6c0f244a1759285ae4377ef612b1a1452465ae634b18274b39b23a6565ef5806"), looks := false }, kinds := [], alts := [], laidByText := true, laidKinds := [.data], laidTests := true, laidLooks := .later }
def FnScalarsCardSaid : Prop := Claim7.holds Tryd.pinned (.plain (OpenSpec.ofChange fnScalarsSpec)) fnScalarsCard

/-- THE TIED CARD OF 'laws.FnScRead'. -/
def fnScReadCard : Claim7 := { stood := { row := fnScReadRow, standIns := [], harness := (true, "6c0f244a1759285ae4377ef612b1a1452465ae634b18274b39b23a6565ef5806"), looks := false }, kinds := [], alts := [], laidByText := true, laidKinds := [.data], laidTests := true, laidLooks := .later }
def FnScReadCardSaid : Prop := Claim7.holds Tryd.pinned (.plain (OpenSpec.ofChange fnScReadSpec)) fnScReadCard

/-- THE TIED CARD OF 'laws.FnExactScOk'. -/
def fnExactScOkCard : Claim7 := { stood := { row := fnExactScOkRow, standIns := [], harness := (true, "6c0f244a1759285ae4377ef612b1a1452465ae634b18274b39b23a6565ef5806"), looks := false }, kinds := [], alts := [], laidByText := true, laidKinds := [.data], laidTests := true, laidLooks := .later }
def FnExactScOkCardSaid : Prop := Claim7.holds Tryd.pinned (.plain (OpenSpec.ofChange fnExactScOkSpec)) fnExactScOkCard

/-- THE TIED CARD OF 'laws.FnExactScRead'. -/
def fnExactScReadCard : Claim7 := { stood := { row := fnExactScReadRow, standIns := [], harness := (true, "6c0f244a1759285ae4377ef612b1a1452465ae634b18274b39b23a6565ef5806"), looks := false }, kinds := [], alts := [], laidByText := true, laidKinds := [.data], laidTests := true, laidLooks := .later }
def FnExactScReadCardSaid : Prop := Claim7.holds Tryd.pinned (.plain (OpenSpec.ofChange fnExactScReadSpec)) fnExactScReadCard

/-- THE TIED CARD OF 'laws.FnExactScWide'. -/
def fnExactScWideCard : Claim7 := { stood := { row := fnExactScWideRow, standIns := [], harness := (true, "6c0f244a1759285ae4377ef612b1a1452465ae634b18274b39b23a6565ef5806"), looks := false }, kinds := [], alts := [], laidByText := true, laidKinds := [.data], laidTests := true, laidLooks := .later }
def FnExactScWideCardSaid : Prop := Claim7.holds Tryd.pinned (.plain (OpenSpec.ofChange fnExactScWideSpec)) fnExactScWideCard

/-- THE TIED CARD OF 'laws.FnExactScAdd'. -/
def fnExactScAddCard : Claim7 := { stood := { row := fnExactScAddRow, standIns := [], harness := (true, "6c0f244a1759285ae4377ef612b1a1452465ae634b18274b39b23a6565ef5806"), looks := false }, kinds := [], alts := [], laidByText := true, laidKinds := [.data], laidTests := true, laidLooks := .later }
def FnExactScAddCardSaid : Prop := Claim7.holds Tryd.pinned (.plain (OpenSpec.ofChange fnExactScAddSpec)) fnExactScAddCard

/-- THE TIED CARD OF 'laws.FnExactScMul'. -/
def fnExactScMulCard : Claim7 := { stood := { row := fnExactScMulRow, standIns := [], harness := (true, "6c0f244a1759285ae4377ef612b1a1452465ae634b18274b39b23a6565ef5806"), looks := false }, kinds := [], alts := [], laidByText := true, laidKinds := [.data], laidTests := true, laidLooks := .later }
def FnExactScMulCardSaid : Prop := Claim7.holds Tryd.pinned (.plain (OpenSpec.ofChange fnExactScMulSpec)) fnExactScMulCard

/-- THE TIED CARD OF 'laws.FnExactScBytes'. -/
def fnExactScBytesCard : Claim7 := { stood := { row := fnExactScBytesRow, standIns := [], harness := (true, "6c0f244a1759285ae4377ef612b1a1452465ae634b18274b39b23a6565ef5806"), looks := false }, kinds := [], alts := [], laidByText := true, laidKinds := [.data], laidTests := true, laidLooks := .later }
def FnExactScBytesCardSaid : Prop := Claim7.holds Tryd.pinned (.plain (OpenSpec.ofChange fnExactScBytesSpec)) fnExactScBytesCard

/-- THE SECOND FORM's CARD OF 'laws.FnScalars'. -/
def fnScalarsUptoCard : Claim7 := { stood := { row := fnScalarsUptoRow, standIns := [], harness := (true, "6c0f244a1759285ae4377ef612b1a1452465ae634b18274b39b23a6565ef5806"), looks := false }, kinds := [], alts := [], laidByText := true, laidKinds := [.data], laidTests := true, laidLooks := .later }
def FnScalarsUptoCardSaid : Prop := Claim7.holds Tryd.pinned (.plain (OpenSpec.upto fnScalarsSpec)) fnScalarsUptoCard

/-- THE SECOND FORM's CARD OF 'laws.FnScRead'. -/
def fnScReadUptoCard : Claim7 := { stood := { row := fnScReadUptoRow, standIns := [], harness := (true, "6c0f244a1759285ae4377ef612b1a1452465ae634b18274b39b23a6565ef5806"), looks := false }, kinds := [], alts := [], laidByText := true, laidKinds := [.data], laidTests := true, laidLooks := .later }
def FnScReadUptoCardSaid : Prop := Claim7.holds Tryd.pinned (.plain (OpenSpec.upto fnScReadSpec)) fnScReadUptoCard

/-- THE SECOND FORM's CARD OF 'laws.FnExactScOk'. -/
def fnExactScOkUptoCard : Claim7 := { stood := { row := fnExactScOkUptoRow, standIns := [], harness := (true, "6c0f244a1759285ae4377ef612b1a1452465ae634b18274b39b23a6565ef5806"), looks := false }, kinds := [], alts := [], laidByText := true, laidKinds := [.data], laidTests := true, laidLooks := .later }
def FnExactScOkUptoCardSaid : Prop := Claim7.holds Tryd.pinned (.plain (OpenSpec.upto fnExactScOkSpec)) fnExactScOkUptoCard

/-- THE SECOND FORM's CARD OF 'laws.FnExactScRead'. -/
def fnExactScReadUptoCard : Claim7 := { stood := { row := fnExactScReadUptoRow, standIns := [], harness := (true, "6c0f244a1759285ae4377ef612b1a1452465ae634b18274b39b23a6565ef5806"), looks := false }, kinds := [], alts := [], laidByText := true, laidKinds := [.data], laidTests := true, laidLooks := .later }
def FnExactScReadUptoCardSaid : Prop := Claim7.holds Tryd.pinned (.plain (OpenSpec.upto fnExactScReadSpec)) fnExactScReadUptoCard

/-- THE SECOND FORM's CARD OF 'laws.FnExactScWide'. -/
def fnExactScWideUptoCard : Claim7 := { stood := { row := fnExactScWideUptoRow, standIns := [], harness := (true, "6c0f244a1759285ae4377ef612b1a1452465ae634b18274b39b23a6565ef5806"), looks := false }, kinds := [], alts := [], laidByText := true, laidKinds := [.data], laidTests := true, laidLooks := .later }
def FnExactScWideUptoCardSaid : Prop := Claim7.holds Tryd.pinned (.plain (OpenSpec.upto fnExactScWideSpec)) fnExactScWideUptoCard

/-- THE SECOND FORM's CARD OF 'laws.FnExactScAdd'. -/
def fnExactScAddUptoCard : Claim7 := { stood := { row := fnExactScAddUptoRow, standIns := [], harness := (true, "6c0f244a1759285ae4377ef612b1a1452465ae634b18274b39b23a6565ef5806"), looks := false }, kinds := [], alts := [], laidByText := true, laidKinds := [.data], laidTests := true, laidLooks := .later }
def FnExactScAddUptoCardSaid : Prop := Claim7.holds Tryd.pinned (.plain (OpenSpec.upto fnExactScAddSpec)) fnExactScAddUptoCard

/-- THE SECOND FORM's CARD OF 'laws.FnExactScMul'. -/
def fnExactScMulUptoCard : Claim7 := { stood := { row := fnExactScMulUptoRow, standIns := [], harness := (true, "6c0f244a1759285ae4377ef612b1a1452465ae634b18274b39b23a6565ef5806"), looks := false }, kinds := [], alts := [], laidByText := true, laidKinds := [.data], laidTests := true, laidLooks := .later }
def FnExactScMulUptoCardSaid : Prop := Claim7.holds Tryd.pinned (.plain (OpenSpec.upto fnExactScMulSpec)) fnExactScMulUptoCard

/-- THE SECOND FORM's CARD OF 'laws.FnExactScBytes'. -/
def fnExactScBytesUptoCard : Claim7 := { stood := { row := fnExactScBytesUptoRow, standIns := [], harness := (true, "6c0f244a1759285ae4377ef612b1a1452465ae634b18274b39b23a6565ef5806"), looks := false }, kinds := [], alts := [], laidByText := true, laidKinds := [.data], laidTests := true, laidLooks := .later }
def FnExactScBytesUptoCardSaid : Prop := Claim7.holds Tryd.pinned (.plain (OpenSpec.upto fnExactScBytesSpec)) fnExactScBytesUptoCard
end Rows
end Go.Proofs.YtlafcjoccbinaaaDoor
