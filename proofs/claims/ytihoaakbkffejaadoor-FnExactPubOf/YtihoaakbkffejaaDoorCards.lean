/-
  DERIVED. GIVEN WITH THE SEED: THE CARDS: each row of YtihoaakbkffejaaDoorRows.lean that lists a variable, with what it lists TIED to the program's text (the seventh form; the later family's looks); each row that meets fmt, with fmt's text TOLD by the authors' own Lean function (tested against real Go, not proved from fmt's source: count such statements apart). THE CARD IS WHAT COUNTS. Prove the row's statement (the work); the ties are given (YtihoaakbkffejaaDoorTie.lean); close each card by the builder's one call (the guide's Derived/Test/ToyasCard.lean, 'card_holds'). Laid BY PROGRAM, IN A SANDBOX (cutbox-door.mjs). By AI agents, Wed Nov 11 2026. No macro, syntax, notation, axiom, sorry.
-/
import Derived.Test.YtihoaakbkffejaaDoorRows
import GoSem.ClaimSeven
namespace Go.Proofs.YtihoaakbkffejaaDoor
namespace Rows

/-- THE TIED CARD OF 'laws.FnExactPubOf'. -/
def fnExactPubOfCard : Claim7 := { stood := { row := fnExactPubOfRow, standIns := [], harness := (true, "20b5c59b8fb80d2eb9759c06f955156891ef1536bfc6eb50373d4118bf503b62"), looks := true }, kinds := [], alts := [], laidByText := true, laidKinds := [.data, .data, .data, .wider, .data, .wider, .data, .data], laidTests := true, laidLooks := .later }
def FnExactPubOfCardSaid : Prop := Claim7.holds Tryd.pinned (.plain (OpenSpec.ofChange fnExactPubOfSpec)) fnExactPubOfCard

/-- THE SECOND FORM's CARD OF 'laws.FnExactPubOf'. -/
def fnExactPubOfUptoCard : Claim7 := { stood := { row := fnExactPubOfUptoRow, standIns := [], harness := (true, "20b5c59b8fb80d2eb9759c06f955156891ef1536bfc6eb50373d4118bf503b62"), looks := true }, kinds := [], alts := [], laidByText := true, laidKinds := [.data, .data, .data, .wider, .data, .wider, .data, .data], laidTests := true, laidLooks := .later }
def FnExactPubOfUptoCardSaid : Prop := Claim7.holds Tryd.pinned (.plain (OpenSpec.upto fnExactPubOfSpec)) fnExactPubOfUptoCard
end Rows
end Go.Proofs.YtihoaakbkffejaaDoor
