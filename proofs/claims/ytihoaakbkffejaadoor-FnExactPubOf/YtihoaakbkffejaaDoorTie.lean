/-
  DERIVED. GIVEN WITH THE SEED: THE PROGRAM's TIES (one call each: nine closed facts by the kernel) AND EACH ROW's TIE, after the 31st guide's Derived/Test/Toyas{Tie, Card}.lean. No idea stands in it: it is a product of the set-up. Laid BY PROGRAM, IN A SANDBOX (cutbox-door.mjs). By AI agents, Wed Nov 11 2026. No macro, syntax, notation, axiom, sorry.
-/
import Derived.Test.YtihoaakbkffejaaDoorRows
import Derived.LaidByTextLater
import Derived.SevenTiedAt
import Derived.LaidSub
import Derived.LaidOnce
namespace Go.Proofs.YtihoaakbkffejaaDoor
open Go
set_option maxRecDepth 100000
theorem seatTie1 : Tryd.prog.laidByTextLater [("loop.example/g00412/impl.wideTurns", Rows.laid_loop_example_g00412_impl_wideTurns), ("loop.example/g00412/impl.wideFirst", Rows.laid_loop_example_g00412_impl_wideFirst), ("loop.example/g00412/impl.wideRoundWords", Rows.laid_loop_example_g00412_impl_wideRoundWords), ("loop.example/g00412/impl.fieldPrime", Rows.laid_loop_example_g00412_impl_fieldPrime), ("loop.example/g00412/impl.groupOrder", Rows.laid_loop_example_g00412_impl_groupOrder), ("loop.example/g00412/impl.curveD", Rows.laid_loop_example_g00412_impl_curveD), ("loop.example/g00412/impl.curveBaseX", Rows.laid_loop_example_g00412_impl_curveBaseX), ("loop.example/g00412/impl.curveBaseY", Rows.laid_loop_example_g00412_impl_curveBaseY)] [.data, .data, .data, .wider, .data, .wider, .data, .data] true :=
  Program.laidByTextLater_by_one 53 8 81 (by kernel_rfl) (by kernel_rfl) (by kernel_rfl) (by kernel_rfl) (by kernel_rfl) (by kernel_rfl) (fun _ _ => by kernel_rfl)
theorem noOwnUnsafe : Tryd.pinned.checked.prog.headLifts.contains "ownunsafe" = false := by kernel_rfl
theorem tie : Tryd.prog.laidByTextLater [("loop.example/g00412/impl.wideTurns", Rows.laid_loop_example_g00412_impl_wideTurns), ("loop.example/g00412/impl.wideFirst", Rows.laid_loop_example_g00412_impl_wideFirst), ("loop.example/g00412/impl.wideRoundWords", Rows.laid_loop_example_g00412_impl_wideRoundWords), ("loop.example/g00412/impl.fieldPrime", Rows.laid_loop_example_g00412_impl_fieldPrime), ("loop.example/g00412/impl.groupOrder", Rows.laid_loop_example_g00412_impl_groupOrder), ("loop.example/g00412/impl.curveD", Rows.laid_loop_example_g00412_impl_curveD), ("loop.example/g00412/impl.curveBaseX", Rows.laid_loop_example_g00412_impl_curveBaseX), ("loop.example/g00412/impl.curveBaseY", Rows.laid_loop_example_g00412_impl_curveBaseY)] [.data, .data, .data, .wider, .data, .wider, .data, .data] true :=
  Program.laidByTextLater.sub seatTie1 ["loop.example/g00412/impl.wideTurns", "loop.example/g00412/impl.wideFirst", "loop.example/g00412/impl.wideRoundWords", "loop.example/g00412/impl.fieldPrime", "loop.example/g00412/impl.groupOrder", "loop.example/g00412/impl.curveD", "loop.example/g00412/impl.curveBaseX", "loop.example/g00412/impl.curveBaseY"] (by kernel_rfl) (by kernel_rfl)
theorem fnExactPubOf_row_tie : Rows.fnExactPubOfRow.laidByTextAt .later Tryd.pinned [.data, .data, .data, .wider, .data, .wider, .data, .data] true :=
  OpenClaim.laidByTextAt_later rfl rfl tie noOwnUnsafe
theorem fnExactPubOfUpto_row_tie : Rows.fnExactPubOfUptoRow.laidByTextAt .later Tryd.pinned [.data, .data, .data, .wider, .data, .wider, .data, .data] true :=
  OpenClaim.laidByTextAt_later rfl rfl tie noOwnUnsafe
end Go.Proofs.YtihoaakbkffejaaDoor
