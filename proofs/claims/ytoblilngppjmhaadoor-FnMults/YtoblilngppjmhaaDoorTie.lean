/-
  DERIVED. GIVEN WITH THE SEED: THE PROGRAM's TIES (one call each: nine closed facts by the kernel) AND EACH ROW's TIE, after the 31st guide's Derived/Test/Toyas{Tie, Card}.lean. No idea stands in it: it is a product of the set-up. Laid BY PROGRAM, IN A SANDBOX (cutbox-door.mjs). By AI agents, Wed Nov 11 2026. No macro, syntax, notation, axiom, sorry.
-/
import Derived.Test.YtoblilngppjmhaaDoorRows
import Derived.LaidByTextLater
import Derived.SevenTiedAt
import Derived.LaidSub
import Derived.LaidOnce
namespace Go.Proofs.YtoblilngppjmhaaDoor
open Go
set_option maxRecDepth 100000
theorem seatTie1 : Tryd.prog.laidByTextLater [("loop.example/g00412/impl.fieldPrime", Rows.laid_loop_example_g00412_impl_fieldPrime), ("loop.example/g00412/impl.rootOfMinusOne", Rows.laid_loop_example_g00412_impl_rootOfMinusOne), ("loop.example/g00412/impl.groupOrder", Rows.laid_loop_example_g00412_impl_groupOrder), ("loop.example/g00412/impl.curveD", Rows.laid_loop_example_g00412_impl_curveD), ("loop.example/g00412/impl.curveBaseX", Rows.laid_loop_example_g00412_impl_curveBaseX), ("loop.example/g00412/impl.curveBaseY", Rows.laid_loop_example_g00412_impl_curveBaseY)] [.wider, .data, .data, .wider, .data, .data] true :=
  Program.laidByTextLater_by_one 39 8 17 (by kernel_rfl) (by kernel_rfl) (by kernel_rfl) (by kernel_rfl) (by kernel_rfl) (by kernel_rfl) (fun _ _ => by kernel_rfl)
theorem noOwnUnsafe : Tryd.pinned.checked.prog.headLifts.contains "ownunsafe" = false := by kernel_rfl
theorem tie : Tryd.prog.laidByTextLater [("loop.example/g00412/impl.fieldPrime", Rows.laid_loop_example_g00412_impl_fieldPrime), ("loop.example/g00412/impl.curveD", Rows.laid_loop_example_g00412_impl_curveD)] [.wider, .wider] true :=
  Program.laidByTextLater.sub seatTie1 ["loop.example/g00412/impl.fieldPrime", "loop.example/g00412/impl.curveD"] (by kernel_rfl) (by kernel_rfl)
theorem fnPoints_row_tie : Rows.fnPointsRow.laidByTextAt .later Tryd.pinned [.wider, .wider] true :=
  OpenClaim.laidByTextAt_later rfl rfl tie noOwnUnsafe
theorem fnExactPtOk_row_tie : Rows.fnExactPtOkRow.laidByTextAt .later Tryd.pinned [.wider, .wider] true :=
  OpenClaim.laidByTextAt_later rfl rfl tie noOwnUnsafe
theorem fnExactPtAdd_row_tie : Rows.fnExactPtAddRow.laidByTextAt .later Tryd.pinned [.wider, .wider] true :=
  OpenClaim.laidByTextAt_later rfl rfl tie noOwnUnsafe
theorem fnExactPtNeg_row_tie : Rows.fnExactPtNegRow.laidByTextAt .later Tryd.pinned [.wider, .wider] true :=
  OpenClaim.laidByTextAt_later rfl rfl tie noOwnUnsafe
theorem fnExactPtBytes_row_tie : Rows.fnExactPtBytesRow.laidByTextAt .later Tryd.pinned [.wider, .wider] true :=
  OpenClaim.laidByTextAt_later rfl rfl tie noOwnUnsafe
theorem fnExactPtTwice_row_tie : Rows.fnExactPtTwiceRow.laidByTextAt .later Tryd.pinned [.wider, .wider] true :=
  OpenClaim.laidByTextAt_later rfl rfl tie noOwnUnsafe
theorem tie2 : Tryd.prog.laidByTextLater [("loop.example/g00412/impl.fieldPrime", Rows.laid_loop_example_g00412_impl_fieldPrime), ("loop.example/g00412/impl.groupOrder", Rows.laid_loop_example_g00412_impl_groupOrder), ("loop.example/g00412/impl.curveD", Rows.laid_loop_example_g00412_impl_curveD), ("loop.example/g00412/impl.curveBaseX", Rows.laid_loop_example_g00412_impl_curveBaseX), ("loop.example/g00412/impl.curveBaseY", Rows.laid_loop_example_g00412_impl_curveBaseY)] [.wider, .data, .wider, .data, .data] true :=
  Program.laidByTextLater.sub seatTie1 ["loop.example/g00412/impl.fieldPrime", "loop.example/g00412/impl.groupOrder", "loop.example/g00412/impl.curveD", "loop.example/g00412/impl.curveBaseX", "loop.example/g00412/impl.curveBaseY"] (by kernel_rfl) (by kernel_rfl)
theorem fnMults_row_tie : Rows.fnMultsRow.laidByTextAt .later Tryd.pinned [.wider, .data, .wider, .data, .data] true :=
  OpenClaim.laidByTextAt_later rfl rfl tie2 noOwnUnsafe
theorem tie3 : Tryd.prog.laidByTextLater [("loop.example/g00412/impl.fieldPrime", Rows.laid_loop_example_g00412_impl_fieldPrime), ("loop.example/g00412/impl.rootOfMinusOne", Rows.laid_loop_example_g00412_impl_rootOfMinusOne), ("loop.example/g00412/impl.curveD", Rows.laid_loop_example_g00412_impl_curveD), ("loop.example/g00412/impl.curveBaseX", Rows.laid_loop_example_g00412_impl_curveBaseX), ("loop.example/g00412/impl.curveBaseY", Rows.laid_loop_example_g00412_impl_curveBaseY)] [.wider, .data, .wider, .data, .data] true :=
  Program.laidByTextLater.sub seatTie1 ["loop.example/g00412/impl.fieldPrime", "loop.example/g00412/impl.rootOfMinusOne", "loop.example/g00412/impl.curveD", "loop.example/g00412/impl.curveBaseX", "loop.example/g00412/impl.curveBaseY"] (by kernel_rfl) (by kernel_rfl)
theorem fnPtBytes_row_tie : Rows.fnPtBytesRow.laidByTextAt .later Tryd.pinned [.wider, .data, .wider, .data, .data] true :=
  OpenClaim.laidByTextAt_later rfl rfl tie3 noOwnUnsafe
theorem tie4 : Tryd.prog.laidByTextLater [("loop.example/g00412/impl.curveBaseX", Rows.laid_loop_example_g00412_impl_curveBaseX), ("loop.example/g00412/impl.curveBaseY", Rows.laid_loop_example_g00412_impl_curveBaseY)] [.data, .data] true :=
  Program.laidByTextLater.sub seatTie1 ["loop.example/g00412/impl.curveBaseX", "loop.example/g00412/impl.curveBaseY"] (by kernel_rfl) (by kernel_rfl)
theorem fnExactPtBase_row_tie : Rows.fnExactPtBaseRow.laidByTextAt .later Tryd.pinned [.data, .data] true :=
  OpenClaim.laidByTextAt_later rfl rfl tie4 noOwnUnsafe
theorem tie5 : Tryd.prog.laidByTextLater [("loop.example/g00412/impl.fieldPrime", Rows.laid_loop_example_g00412_impl_fieldPrime), ("loop.example/g00412/impl.groupOrder", Rows.laid_loop_example_g00412_impl_groupOrder), ("loop.example/g00412/impl.curveD", Rows.laid_loop_example_g00412_impl_curveD)] [.wider, .data, .wider] true :=
  Program.laidByTextLater.sub seatTie1 ["loop.example/g00412/impl.fieldPrime", "loop.example/g00412/impl.groupOrder", "loop.example/g00412/impl.curveD"] (by kernel_rfl) (by kernel_rfl)
theorem fnExactPtMul_row_tie : Rows.fnExactPtMulRow.laidByTextAt .later Tryd.pinned [.wider, .data, .wider] true :=
  OpenClaim.laidByTextAt_later rfl rfl tie5 noOwnUnsafe
theorem tie6 : Tryd.prog.laidByTextLater [("loop.example/g00412/impl.fieldPrime", Rows.laid_loop_example_g00412_impl_fieldPrime), ("loop.example/g00412/impl.rootOfMinusOne", Rows.laid_loop_example_g00412_impl_rootOfMinusOne), ("loop.example/g00412/impl.curveD", Rows.laid_loop_example_g00412_impl_curveD)] [.wider, .data, .wider] true :=
  Program.laidByTextLater.sub seatTie1 ["loop.example/g00412/impl.fieldPrime", "loop.example/g00412/impl.rootOfMinusOne", "loop.example/g00412/impl.curveD"] (by kernel_rfl) (by kernel_rfl)
theorem fnExactPtRead_row_tie : Rows.fnExactPtReadRow.laidByTextAt .later Tryd.pinned [.wider, .data, .wider] true :=
  OpenClaim.laidByTextAt_later rfl rfl tie6 noOwnUnsafe
theorem fnPointsUpto_row_tie : Rows.fnPointsUptoRow.laidByTextAt .later Tryd.pinned [.wider, .wider] true :=
  OpenClaim.laidByTextAt_later rfl rfl tie noOwnUnsafe
theorem fnMultsUpto_row_tie : Rows.fnMultsUptoRow.laidByTextAt .later Tryd.pinned [.wider, .data, .wider, .data, .data] true :=
  OpenClaim.laidByTextAt_later rfl rfl tie2 noOwnUnsafe
theorem fnPtBytesUpto_row_tie : Rows.fnPtBytesUptoRow.laidByTextAt .later Tryd.pinned [.wider, .data, .wider, .data, .data] true :=
  OpenClaim.laidByTextAt_later rfl rfl tie3 noOwnUnsafe
theorem fnExactPtOkUpto_row_tie : Rows.fnExactPtOkUptoRow.laidByTextAt .later Tryd.pinned [.wider, .wider] true :=
  OpenClaim.laidByTextAt_later rfl rfl tie noOwnUnsafe
theorem fnExactPtBaseUpto_row_tie : Rows.fnExactPtBaseUptoRow.laidByTextAt .later Tryd.pinned [.data, .data] true :=
  OpenClaim.laidByTextAt_later rfl rfl tie4 noOwnUnsafe
theorem fnExactPtAddUpto_row_tie : Rows.fnExactPtAddUptoRow.laidByTextAt .later Tryd.pinned [.wider, .wider] true :=
  OpenClaim.laidByTextAt_later rfl rfl tie noOwnUnsafe
theorem fnExactPtNegUpto_row_tie : Rows.fnExactPtNegUptoRow.laidByTextAt .later Tryd.pinned [.wider, .wider] true :=
  OpenClaim.laidByTextAt_later rfl rfl tie noOwnUnsafe
theorem fnExactPtMulUpto_row_tie : Rows.fnExactPtMulUptoRow.laidByTextAt .later Tryd.pinned [.wider, .data, .wider] true :=
  OpenClaim.laidByTextAt_later rfl rfl tie5 noOwnUnsafe
theorem fnExactPtBytesUpto_row_tie : Rows.fnExactPtBytesUptoRow.laidByTextAt .later Tryd.pinned [.wider, .wider] true :=
  OpenClaim.laidByTextAt_later rfl rfl tie noOwnUnsafe
theorem fnExactPtReadUpto_row_tie : Rows.fnExactPtReadUptoRow.laidByTextAt .later Tryd.pinned [.wider, .data, .wider] true :=
  OpenClaim.laidByTextAt_later rfl rfl tie6 noOwnUnsafe
theorem fnExactPtTwiceUpto_row_tie : Rows.fnExactPtTwiceUptoRow.laidByTextAt .later Tryd.pinned [.wider, .wider] true :=
  OpenClaim.laidByTextAt_later rfl rfl tie noOwnUnsafe
end Go.Proofs.YtoblilngppjmhaaDoor
