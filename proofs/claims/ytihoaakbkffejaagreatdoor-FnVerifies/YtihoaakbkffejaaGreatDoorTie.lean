/-
  DERIVED. GIVEN WITH THE SEED: THE PROGRAM's TIES (one call each: nine closed facts by the kernel) AND EACH ROW's TIE, after the 31st guide's Derived/Test/Toyas{Tie, Card}.lean. No idea stands in it: it is a product of the set-up. Laid BY PROGRAM, IN A SANDBOX (cutbox-door.mjs). By AI agents, Wed Nov 11 2026. No macro, syntax, notation, axiom, sorry.
-/
import Derived.Test.YtihoaakbkffejaaGreatDoorRows
import Derived.LaidByTextLater
import Derived.SevenTiedAt
import Derived.LaidSub
import Derived.LaidOnce
namespace Go.Proofs.YtihoaakbkffejaaGreatDoor
open Go
set_option maxRecDepth 100000
theorem seatTie1 : Tryz.prog.laidByTextLater [("loop.example/g00412/impl.wideTurns", Rows.laid_loop_example_g00412_impl_wideTurns), ("loop.example/g00412/impl.wideFirst", Rows.laid_loop_example_g00412_impl_wideFirst), ("loop.example/g00412/impl.wideRoundWords", Rows.laid_loop_example_g00412_impl_wideRoundWords), ("loop.example/g00412/impl.fieldPrime", Rows.laid_loop_example_g00412_impl_fieldPrime), ("loop.example/g00412/impl.rootOfMinusOne", Rows.laid_loop_example_g00412_impl_rootOfMinusOne), ("loop.example/g00412/impl.groupOrder", Rows.laid_loop_example_g00412_impl_groupOrder), ("loop.example/g00412/impl.curveD", Rows.laid_loop_example_g00412_impl_curveD), ("loop.example/g00412/impl.curveBaseX", Rows.laid_loop_example_g00412_impl_curveBaseX), ("loop.example/g00412/impl.curveBaseY", Rows.laid_loop_example_g00412_impl_curveBaseY), ("loop.example/g00412/impl.errNotSigned", Rows.laid_loop_example_g00412_impl_errNotSigned)] [.data, .data, .data, .wider, .data, .data, .wider, .data, .data, .sentinel] true :=
  Program.laidByTextLater_by_one 77 8 81 (by kernel_rfl) (by kernel_rfl) (by kernel_rfl) (by kernel_rfl) (by kernel_rfl) (by kernel_rfl) (fun _ _ => by kernel_rfl)
theorem noOwnUnsafe : Tryz.pinned.checked.prog.headLifts.contains "ownunsafe" = false := by kernel_rfl
theorem tie : Tryz.prog.laidByTextLater [("loop.example/g00412/impl.wideTurns", Rows.laid_loop_example_g00412_impl_wideTurns), ("loop.example/g00412/impl.wideFirst", Rows.laid_loop_example_g00412_impl_wideFirst), ("loop.example/g00412/impl.wideRoundWords", Rows.laid_loop_example_g00412_impl_wideRoundWords), ("loop.example/g00412/impl.fieldPrime", Rows.laid_loop_example_g00412_impl_fieldPrime), ("loop.example/g00412/impl.rootOfMinusOne", Rows.laid_loop_example_g00412_impl_rootOfMinusOne), ("loop.example/g00412/impl.groupOrder", Rows.laid_loop_example_g00412_impl_groupOrder), ("loop.example/g00412/impl.curveD", Rows.laid_loop_example_g00412_impl_curveD), ("loop.example/g00412/impl.curveBaseX", Rows.laid_loop_example_g00412_impl_curveBaseX), ("loop.example/g00412/impl.curveBaseY", Rows.laid_loop_example_g00412_impl_curveBaseY), ("loop.example/g00412/impl.errNotSigned", Rows.laid_loop_example_g00412_impl_errNotSigned)] [.data, .data, .data, .wider, .data, .data, .wider, .data, .data, .sentinel] true :=
  Program.laidByTextLater.sub seatTie1 ["loop.example/g00412/impl.wideTurns", "loop.example/g00412/impl.wideFirst", "loop.example/g00412/impl.wideRoundWords", "loop.example/g00412/impl.fieldPrime", "loop.example/g00412/impl.rootOfMinusOne", "loop.example/g00412/impl.groupOrder", "loop.example/g00412/impl.curveD", "loop.example/g00412/impl.curveBaseX", "loop.example/g00412/impl.curveBaseY", "loop.example/g00412/impl.errNotSigned"] (by kernel_rfl) (by kernel_rfl)
theorem fnSigns_row_tie : Rows.fnSignsRow.laidByTextAt .later Tryz.pinned [.data, .data, .data, .wider, .data, .data, .wider, .data, .data, .sentinel] true :=
  OpenClaim.laidByTextAt_later rfl rfl tie noOwnUnsafe
theorem fnVerifies_row_tie : Rows.fnVerifiesRow.laidByTextAt .later Tryz.pinned [.data, .data, .data, .wider, .data, .data, .wider, .data, .data, .sentinel] true :=
  OpenClaim.laidByTextAt_later rfl rfl tie noOwnUnsafe
theorem fnExactVerify_row_tie : Rows.fnExactVerifyRow.laidByTextAt .later Tryz.pinned [.data, .data, .data, .wider, .data, .data, .wider, .data, .data, .sentinel] true :=
  OpenClaim.laidByTextAt_later rfl rfl tie noOwnUnsafe
theorem tie2 : Tryz.prog.laidByTextLater [("loop.example/g00412/impl.wideTurns", Rows.laid_loop_example_g00412_impl_wideTurns), ("loop.example/g00412/impl.wideFirst", Rows.laid_loop_example_g00412_impl_wideFirst), ("loop.example/g00412/impl.wideRoundWords", Rows.laid_loop_example_g00412_impl_wideRoundWords), ("loop.example/g00412/impl.fieldPrime", Rows.laid_loop_example_g00412_impl_fieldPrime), ("loop.example/g00412/impl.groupOrder", Rows.laid_loop_example_g00412_impl_groupOrder), ("loop.example/g00412/impl.curveD", Rows.laid_loop_example_g00412_impl_curveD), ("loop.example/g00412/impl.curveBaseX", Rows.laid_loop_example_g00412_impl_curveBaseX), ("loop.example/g00412/impl.curveBaseY", Rows.laid_loop_example_g00412_impl_curveBaseY)] [.data, .data, .data, .wider, .data, .wider, .data, .data] true :=
  Program.laidByTextLater.sub seatTie1 ["loop.example/g00412/impl.wideTurns", "loop.example/g00412/impl.wideFirst", "loop.example/g00412/impl.wideRoundWords", "loop.example/g00412/impl.fieldPrime", "loop.example/g00412/impl.groupOrder", "loop.example/g00412/impl.curveD", "loop.example/g00412/impl.curveBaseX", "loop.example/g00412/impl.curveBaseY"] (by kernel_rfl) (by kernel_rfl)
theorem fnExactSign_row_tie : Rows.fnExactSignRow.laidByTextAt .later Tryz.pinned [.data, .data, .data, .wider, .data, .wider, .data, .data] true :=
  OpenClaim.laidByTextAt_later rfl rfl tie2 noOwnUnsafe
theorem fnSignsUpto_row_tie : Rows.fnSignsUptoRow.laidByTextAt .later Tryz.pinned [.data, .data, .data, .wider, .data, .data, .wider, .data, .data, .sentinel] true :=
  OpenClaim.laidByTextAt_later rfl rfl tie noOwnUnsafe
theorem fnVerifiesUpto_row_tie : Rows.fnVerifiesUptoRow.laidByTextAt .later Tryz.pinned [.data, .data, .data, .wider, .data, .data, .wider, .data, .data, .sentinel] true :=
  OpenClaim.laidByTextAt_later rfl rfl tie noOwnUnsafe
theorem fnExactSignUpto_row_tie : Rows.fnExactSignUptoRow.laidByTextAt .later Tryz.pinned [.data, .data, .data, .wider, .data, .wider, .data, .data] true :=
  OpenClaim.laidByTextAt_later rfl rfl tie2 noOwnUnsafe
theorem fnExactVerifyUpto_row_tie : Rows.fnExactVerifyUptoRow.laidByTextAt .later Tryz.pinned [.data, .data, .data, .wider, .data, .data, .wider, .data, .data, .sentinel] true :=
  OpenClaim.laidByTextAt_later rfl rfl tie noOwnUnsafe
end Go.Proofs.YtihoaakbkffejaaGreatDoor
