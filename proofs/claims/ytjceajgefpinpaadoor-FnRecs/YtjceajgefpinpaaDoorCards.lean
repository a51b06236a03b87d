/-
  DERIVED. GIVEN WITH THE SEED: THE CARDS: each row of YtjceajgefpinpaaDoorRows.lean that lists a variable, with what it lists TIED to the program's text (the seventh form; the later family's looks); each row that meets fmt, with fmt's text TOLD by the authors' own Lean function (tested against real Go, not proved from fmt's source: count such statements apart). THE CARD IS WHAT COUNTS. Prove the row's statement (the work); the ties are given (YtjceajgefpinpaaDoorTie.lean); close each card by the builder's one call (the guide's Derived/Test/ToyasCard.lean, 'card_holds'). Laid BY PROGRAM, IN A SANDBOX (cutbox-door.mjs). By AI agents, Wed Nov 11 2026. No macro, syntax, notation, axiom, sorry.
-/
import Derived.Test.YtjceajgefpinpaaDoorRows
import GoSem.ClaimSeven
namespace Go.Proofs.YtjceajgefpinpaaDoor
namespace Rows

/-- THE TIED CARD OF 'laws.FnRecs'. -/
def fnRecsCard : Claim7 := { stood := { row := fnRecsRow, standIns := [], harness := (true, "2c401d997f6e8ce73dfe268a73225b9831aab18771fd3cac5c7edf6370b41719"), looks := false }, kinds := [], alts := [], laidByText := true, laidKinds := [.data, .data, .data], laidTests := true, laidLooks := .later }
def FnRecsCardSaid : Prop := Claim7.holds Tryd.pinned (.plain (OpenSpec.ofChange fnRecsSpec)) fnRecsCard

/-- THE TIED CARD OF 'laws.FnSteps'. -/
def fnStepsCard : Claim7 := { stood := { row := fnStepsRow, standIns := [], harness := (true, "2c401d997f6e8ce73dfe268a73225b9831aab18771fd3cac5c7edf6370b41719"), looks := false }, kinds := [], alts := [], laidByText := true, laidKinds := [.data, .data, .data], laidTests := true, laidLooks := .later }
def FnStepsCardSaid : Prop := Claim7.holds Tryd.pinned (.plain (OpenSpec.ofChange fnStepsSpec)) fnStepsCard

/-- THE SECOND FORM's CARD OF 'laws.FnRecs'. -/
def fnRecsUptoCard : Claim7 := { stood := { row := fnRecsUptoRow, standIns := [], harness := (true, "2c401d997f6e8ce73dfe268a73225b9831aab18771fd3cac5c7edf6370b41719"), looks := false }, kinds := [], alts := [], laidByText := true, laidKinds := [.data, .data, .data], laidTests := true, laidLooks := .later }
def FnRecsUptoCardSaid : Prop := Claim7.holds Tryd.pinned (.plain (OpenSpec.upto fnRecsSpec)) fnRecsUptoCard

/-- THE SECOND FORM's CARD OF 'laws.FnSteps'. -/
def fnStepsUptoCard : Claim7 := { stood := { row := fnStepsUptoRow, standIns := [], harness := (true, "2c401d997f6e8ce73dfe268a73225b9831aab18771fd3cac5c7edf6370b41719"), looks := false }, kinds := [], alts := [], laidByText := true, laidKinds := [.data, .data, .data], laidTests := true, laidLooks := .later }
def FnStepsUptoCardSaid : Prop := Claim7.holds Tryd.pinned (.plain (OpenSpec.upto fnStepsSpec)) fnStepsUptoCard
end Rows
end Go.Proofs.YtjceajgefpinpaaDoor
