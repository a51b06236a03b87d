/-
  DERIVED. GIVEN WITH THE SEED: THE CARDS: each row of YtpchdfdeomhakaaDoorRows.lean that lists a variable, with what it lists TIED to the program's text (the seventh form; the later family's looks); each row that meets fmt, with fmt's text TOLD by the authors' own Lean function (tested against real Go, not proved from fmt's source: count such statements apart). THE CARD IS WHAT COUNTS. Prove the row's statement (the work); the ties are given (YtpchdfdeomhakaaDoorTie.lean); close each card by the builder's one call (the guide's Derived/Test/ToyasCard.lean, 'card_holds'). Laid BY PROGRAM, IN A SANDBOX (cutbox-door.mjs). By AI agents, Wed Nov 11 2026. No macro, syntax, notation, axiom, sorry.
-/
import Derived.Test.YtpchdfdeomhakaaDoorRows
import GoSem.ClaimSeven
namespace Go.Proofs.YtpchdfdeomhakaaDoor
namespace Rows

/-- THE TIED CARD OF 'laws.FnFields'. -/
def fnFieldsCard : Claim7 := { stood := { row := fnFieldsRow, standIns := [], harness := (true, "466c840bbb22c6fcacece4c27ac4cd945db847ac3cc17fc92a94f54adeb0a392"), looks := false }, kinds := [], alts := [], laidByText := true, laidKinds := [.wider], laidTests := true, laidLooks := .later }
def FnFieldsCardSaid : Prop := Claim7.holds Tryd.pinned (.plain (OpenSpec.ofChange fnFieldsSpec)) fnFieldsCard

/-- THE TIED CARD OF 'laws.FnInverses'. -/
def fnInversesCard : Claim7 := { stood := { row := fnInversesRow, standIns := [], harness := (true, "466c840bbb22c6fcacece4c27ac4cd945db847ac3cc17fc92a94f54adeb0a392"), looks := false }, kinds := [], alts := [], laidByText := true, laidKinds := [.wider, .data], laidTests := true, laidLooks := .later }
def FnInversesCardSaid : Prop := Claim7.holds Tryd.pinned (.plain (OpenSpec.ofChange fnInversesSpec)) fnInversesCard

/-- THE TIED CARD OF 'laws.FnFeBytes'. -/
def fnFeBytesCard : Claim7 := { stood := { row := fnFeBytesRow, standIns := [], harness := (true, "466c840bbb22c6fcacece4c27ac4cd945db847ac3cc17fc92a94f54adeb0a392"), looks := false }, kinds := [], alts := [], laidByText := true, laidKinds := [.wider], laidTests := true, laidLooks := .later }
def FnFeBytesCardSaid : Prop := Claim7.holds Tryd.pinned (.plain (OpenSpec.ofChange fnFeBytesSpec)) fnFeBytesCard

/-- THE TIED CARD OF 'laws.FnExactFeOk'. -/
def fnExactFeOkCard : Claim7 := { stood := { row := fnExactFeOkRow, standIns := [], harness := (true, "466c840bbb22c6fcacece4c27ac4cd945db847ac3cc17fc92a94f54adeb0a392"), looks := false }, kinds := [], alts := [], laidByText := true, laidKinds := [.wider], laidTests := true, laidLooks := .later }
def FnExactFeOkCardSaid : Prop := Claim7.holds Tryd.pinned (.plain (OpenSpec.ofChange fnExactFeOkSpec)) fnExactFeOkCard

/-- THE TIED CARD OF 'laws.FnExactFeAdd'. -/
def fnExactFeAddCard : Claim7 := { stood := { row := fnExactFeAddRow, standIns := [], harness := (true, "466c840bbb22c6fcacece4c27ac4cd945db847ac3cc17fc92a94f54adeb0a392"), looks := false }, kinds := [], alts := [], laidByText := true, laidKinds := [.wider], laidTests := true, laidLooks := .later }
def FnExactFeAddCardSaid : Prop := Claim7.holds Tryd.pinned (.plain (OpenSpec.ofChange fnExactFeAddSpec)) fnExactFeAddCard

/-- THE TIED CARD OF 'laws.FnExactFeSub'. -/
def fnExactFeSubCard : Claim7 := { stood := { row := fnExactFeSubRow, standIns := [], harness := (true, "466c840bbb22c6fcacece4c27ac4cd945db847ac3cc17fc92a94f54adeb0a392"), looks := false }, kinds := [], alts := [], laidByText := true, laidKinds := [.wider], laidTests := true, laidLooks := .later }
def FnExactFeSubCardSaid : Prop := Claim7.holds Tryd.pinned (.plain (OpenSpec.ofChange fnExactFeSubSpec)) fnExactFeSubCard

/-- THE TIED CARD OF 'laws.FnExactFeMul'. -/
def fnExactFeMulCard : Claim7 := { stood := { row := fnExactFeMulRow, standIns := [], harness := (true, "466c840bbb22c6fcacece4c27ac4cd945db847ac3cc17fc92a94f54adeb0a392"), looks := false }, kinds := [], alts := [], laidByText := true, laidKinds := [.wider], laidTests := true, laidLooks := .later }
def FnExactFeMulCardSaid : Prop := Claim7.holds Tryd.pinned (.plain (OpenSpec.ofChange fnExactFeMulSpec)) fnExactFeMulCard

/-- THE TIED CARD OF 'laws.FnExactFeInv'. -/
def fnExactFeInvCard : Claim7 := { stood := { row := fnExactFeInvRow, standIns := [], harness := (true, "466c840bbb22c6fcacece4c27ac4cd945db847ac3cc17fc92a94f54adeb0a392"), looks := false }, kinds := [], alts := [], laidByText := true, laidKinds := [.wider], laidTests := true, laidLooks := .later }
def FnExactFeInvCardSaid : Prop := Claim7.holds Tryd.pinned (.plain (OpenSpec.ofChange fnExactFeInvSpec)) fnExactFeInvCard

/-- THE TIED CARD OF 'laws.FnExactFeRoot'. -/
def fnExactFeRootCard : Claim7 := { stood := { row := fnExactFeRootRow, standIns := [], harness := (true, "466c840bbb22c6fcacece4c27ac4cd945db847ac3cc17fc92a94f54adeb0a392"), looks := false }, kinds := [], alts := [], laidByText := true, laidKinds := [.wider, .data], laidTests := true, laidLooks := .later }
def FnExactFeRootCardSaid : Prop := Claim7.holds Tryd.pinned (.plain (OpenSpec.ofChange fnExactFeRootSpec)) fnExactFeRootCard

/-- THE TIED CARD OF 'laws.FnExactFeBytes'. -/
def fnExactFeBytesCard : Claim7 := { stood := { row := fnExactFeBytesRow, standIns := [], harness := (true, "466c840bbb22c6fcacece4c27ac4cd945db847ac3cc17fc92a94f54adeb0a392"), looks := false }, kinds := [], alts := [], laidByText := true, laidKinds := [.wider], laidTests := true, laidLooks := .later }
def FnExactFeBytesCardSaid : Prop := Claim7.holds Tryd.pinned (.plain (OpenSpec.ofChange fnExactFeBytesSpec)) fnExactFeBytesCard

/-- THE TIED CARD OF 'laws.FnExactFeRead'. -/
def fnExactFeReadCard : Claim7 := { stood := { row := fnExactFeReadRow, standIns := [], harness := (true, "466c840bbb22c6fcacece4c27ac4cd945db847ac3cc17fc92a94f54adeb0a392"), looks := false }, kinds := [], alts := [], laidByText := true, laidKinds := [.wider], laidTests := true, laidLooks := .later }
def FnExactFeReadCardSaid : Prop := Claim7.holds Tryd.pinned (.plain (OpenSpec.ofChange fnExactFeReadSpec)) fnExactFeReadCard

/-- THE SECOND FORM's CARD OF 'laws.FnFields'. -/
def fnFieldsUptoCard : Claim7 := { stood := { row := fnFieldsUptoRow, standIns := [], harness := (true, "466c840bbb22c6fcacece4c27ac4cd945db847ac3cc17fc92a94f54adeb0a392"), looks := false }, kinds := [], alts := [], laidByText := true, laidKinds := [.wider], laidTests := true, laidLooks := .later }
def FnFieldsUptoCardSaid : Prop := Claim7.holds Tryd.pinned (.plain (OpenSpec.upto fnFieldsSpec)) fnFieldsUptoCard

/-- THE SECOND FORM's CARD OF 'laws.FnInverses'. -/
def fnInversesUptoCard : Claim7 := { stood := { row := fnInversesUptoRow, standIns := [], harness := (true, "466c840bbb22c6fcacece4c27ac4cd945db847ac3cc17fc92a94f54adeb0a392"), looks := false }, kinds := [], alts := [], laidByText := true, laidKinds := [.wider, .data], laidTests := true, laidLooks := .later }
def FnInversesUptoCardSaid : Prop := Claim7.holds Tryd.pinned (.plain (OpenSpec.upto fnInversesSpec)) fnInversesUptoCard

/-- THE SECOND FORM's CARD OF 'laws.FnFeBytes'. -/
def fnFeBytesUptoCard : Claim7 := { stood := { row := fnFeBytesUptoRow, standIns := [], harness := (true, "466c840bbb22c6fcacece4c27ac4cd945db847ac3cc17fc92a94f54adeb0a392"), looks := false }, kinds := [], alts := [], laidByText := true, laidKinds := [.wider], laidTests := true, laidLooks := .later }
def FnFeBytesUptoCardSaid : Prop := Claim7.holds Tryd.pinned (.plain (OpenSpec.upto fnFeBytesSpec)) fnFeBytesUptoCard

/-- THE SECOND FORM's CARD OF 'laws.FnExactFeOk'. -/
def fnExactFeOkUptoCard : Claim7 := { stood := { row := fnExactFeOkUptoRow, standIns := [], harness := (true, "466c840bbb22c6fcacece4c27ac4cd945db847ac3cc17fc92a94f54adeb0a392"), looks := false }, kinds := [], alts := [], laidByText := true, laidKinds := [.wider], laidTests := true, laidLooks := .later }
def FnExactFeOkUptoCardSaid : Prop := Claim7.holds Tryd.pinned (.plain (OpenSpec.upto fnExactFeOkSpec)) fnExactFeOkUptoCard

/-- THE SECOND FORM's CARD OF 'laws.FnExactFeAdd'. -/
def fnExactFeAddUptoCard : Claim7 := { stood := { row := fnExactFeAddUptoRow, standIns := [], harness := (true, "466c840bbb22c6fcacece4c27ac4cd945db847ac3cc17fc92a94f54adeb0a392"), looks := false }, kinds := [], alts := [], laidByText := true, laidKinds := [.wider], laidTests := true, laidLooks := .later }
def FnExactFeAddUptoCardSaid : Prop := Claim7.holds Tryd.pinned (.plain (OpenSpec.upto fnExactFeAddSpec)) fnExactFeAddUptoCard

/-- THE SECOND FORM's CARD OF 'laws.FnExactFeSub'. -/
def fnExactFeSubUptoCard : Claim7 := { stood := { row := fnExactFeSubUptoRow, standIns := [], harness := (true, "466c840bbb22c6fcacece4c27ac4cd945db847ac3cc17fc92a94f54adeb0a392"), looks := false }, kinds := [], alts := [], laidByText := true, laidKinds := [.wider], laidTests := true, laidLooks := .later }
def FnExactFeSubUptoCardSaid : Prop := Claim7.holds Tryd.pinned (.plain (OpenSpec.upto fnExactFeSubSpec)) fnExactFeSubUptoCard

/-- THE SECOND FORM's CARD OF 'laws.FnExactFeMul'. -/
def fnExactFeMulUptoCard : Claim7 := { stood := { row := fnExactFeMulUptoRow, standIns := [], harness := (true, "466c840bbb22c6fcacece4c27ac4cd945db847ac3cc17fc92a94f54adeb0a392"), looks := false }, kinds := [], alts := [], laidByText := true, laidKinds := [.wider], laidTests := true, laidLooks := .later }
def FnExactFeMulUptoCardSaid : Prop := Claim7.holds Tryd.pinned (.plain (OpenSpec.upto fnExactFeMulSpec)) fnExactFeMulUptoCard

/-- THE SECOND FORM's CARD OF 'laws.FnExactFeInv'. -/
def fnExactFeInvUptoCard : Claim7 := { stood := { row := fnExactFeInvUptoRow, standIns := [], harness := (true, "466c840bbb22c6fcacece4c27ac4cd945db847ac3cc17fc92a94f54adeb0a392"), looks := false }, kinds := [], alts := [], laidByText := true, laidKinds := [.wider], laidTests := true, laidLooks := .later }
def FnExactFeInvUptoCardSaid : Prop := Claim7.holds Tryd.pinned (.plain (OpenSpec.upto fnExactFeInvSpec)) fnExactFeInvUptoCard

/-- THE SECOND FORM's CARD OF 'laws.FnExactFeRoot'. -/
def fnExactFeRootUptoCard : Claim7 := { stood := { row := fnExactFeRootUptoRow, standIns := [], harness := (true, "466c840bbb22c6fcacece4c27ac4cd945db847ac3cc17fc92a94f54adeb0a392"), looks := false }, kinds := [], alts := [], laidByText := true, laidKinds := [.wider, .data], laidTests := true, laidLooks := .later }
def FnExactFeRootUptoCardSaid : Prop := Claim7.holds Tryd.pinned (.plain (OpenSpec.upto fnExactFeRootSpec)) fnExactFeRootUptoCard

/-- THE SECOND FORM's CARD OF 'laws.FnExactFeBytes'. -/
def fnExactFeBytesUptoCard : Claim7 := { stood := { row := fnExactFeBytesUptoRow, standIns := [], harness := (true, "466c840bbb22c6fcacece4c27ac4cd945db847ac3cc17fc92a94f54adeb0a392"), looks := false }, kinds := [], alts := [], laidByText := true, laidKinds := [.wider], laidTests := true, laidLooks := .later }
def FnExactFeBytesUptoCardSaid : Prop := Claim7.holds Tryd.pinned (.plain (OpenSpec.upto fnExactFeBytesSpec)) fnExactFeBytesUptoCard

/-- THE SECOND FORM's CARD OF 'laws.FnExactFeRead'. -/
def fnExactFeReadUptoCard : Claim7 := { stood := { row := fnExactFeReadUptoRow, standIns := [], harness := (true, "466c840bbb22c6fcacece4c27ac4cd945db847ac3cc17fc92a94f54adeb0a392"), looks := false }, kinds := [], alts := [], laidByText := true, laidKinds := [.wider], laidTests := true, laidLooks := .later }
def FnExactFeReadUptoCardSaid : Prop := Claim7.holds Tryd.pinned (.plain (OpenSpec.upto fnExactFeReadSpec)) fnExactFeReadUptoCard
end Rows
end Go.Proofs.YtpchdfdeomhakaaDoor
