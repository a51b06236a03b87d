/-
  DERIVED. GIVEN WITH THE SEED: THE PROGRAM's TIES (one call each: nine closed facts by the kernel) AND EACH ROW's TIE, after the 31st guide's Derived/Test/Toyas{Tie, Card}.lean. No idea stands in it: it is a product of the set-up. Laid BY PROGRAM, IN A SANDBOX (cutbox-door.mjs). By AI agents, Wed Nov 11 2026. No macro, syntax, notation, axiom, sorry.
-/
import Derived.Test.YtgapfkiceolceaaDoorRows
import Derived.LaidByTextLater
import Derived.SevenTiedAt
import Derived.LaidSub
import Derived.LaidOnce
namespace Go.Proofs.YtgapfkiceolceaaDoor
open Go
set_option maxRecDepth 100000
theorem seatTie1 : Tryd.prog.laidByTextLater [("loop.example/g00412/impl.shaTurns", Rows.laid_loop_example_g00412_impl_shaTurns), ("loop.example/g00412/impl.shaFirst", Rows.laid_loop_example_g00412_impl_shaFirst), ("loop.example/g00412/impl.shaRoundWords", Rows.laid_loop_example_g00412_impl_shaRoundWords), ("loop.example/g00412/impl.wideTurns", Rows.laid_loop_example_g00412_impl_wideTurns), ("loop.example/g00412/impl.wideFirst", Rows.laid_loop_example_g00412_impl_wideFirst), ("loop.example/g00412/impl.wideRoundWords", Rows.laid_loop_example_g00412_impl_wideRoundWords)] [.data, .data, .data, .data, .data, .data] true :=
  Program.laidByTextLater_by_one 47 8 81 (by kernel_rfl) (by kernel_rfl) (by kernel_rfl) (by kernel_rfl) (by kernel_rfl) (by kernel_rfl) (fun _ _ => by kernel_rfl)
theorem noOwnUnsafe : Tryd.pinned.checked.prog.headLifts.contains "ownunsafe" = false := by kernel_rfl
theorem tie : Tryd.prog.laidByTextLater [("loop.example/g00412/impl.shaTurns", Rows.laid_loop_example_g00412_impl_shaTurns), ("loop.example/g00412/impl.shaFirst", Rows.laid_loop_example_g00412_impl_shaFirst), ("loop.example/g00412/impl.shaRoundWords", Rows.laid_loop_example_g00412_impl_shaRoundWords)] [.data, .data, .data] true :=
  Program.laidByTextLater.sub seatTie1 ["loop.example/g00412/impl.shaTurns", "loop.example/g00412/impl.shaFirst", "loop.example/g00412/impl.shaRoundWords"] (by kernel_rfl) (by kernel_rfl)
theorem fnShas_row_tie : Rows.fnShasRow.laidByTextAt .later Tryd.pinned [.data, .data, .data] true :=
  OpenClaim.laidByTextAt_later rfl rfl tie noOwnUnsafe
theorem fnBlocks_row_tie : Rows.fnBlocksRow.laidByTextAt .later Tryd.pinned [.data, .data, .data] true :=
  OpenClaim.laidByTextAt_later rfl rfl tie noOwnUnsafe
theorem fnExactSha256_row_tie : Rows.fnExactSha256Row.laidByTextAt .later Tryd.pinned [.data, .data, .data] true :=
  OpenClaim.laidByTextAt_later rfl rfl tie noOwnUnsafe
theorem tie2 : Tryd.prog.laidByTextLater [("loop.example/g00412/impl.shaTurns", Rows.laid_loop_example_g00412_impl_shaTurns), ("loop.example/g00412/impl.shaFirst", Rows.laid_loop_example_g00412_impl_shaFirst), ("loop.example/g00412/impl.shaRoundWords", Rows.laid_loop_example_g00412_impl_shaRoundWords), ("loop.example/g00412/impl.wideTurns", Rows.laid_loop_example_g00412_impl_wideTurns), ("loop.example/g00412/impl.wideFirst", Rows.laid_loop_example_g00412_impl_wideFirst), ("loop.example/g00412/impl.wideRoundWords", Rows.laid_loop_example_g00412_impl_wideRoundWords)] [.data, .data, .data, .data, .data, .data] true :=
  Program.laidByTextLater.sub seatTie1 ["loop.example/g00412/impl.shaTurns", "loop.example/g00412/impl.shaFirst", "loop.example/g00412/impl.shaRoundWords", "loop.example/g00412/impl.wideTurns", "loop.example/g00412/impl.wideFirst", "loop.example/g00412/impl.wideRoundWords"] (by kernel_rfl) (by kernel_rfl)
theorem fnWides_row_tie : Rows.fnWidesRow.laidByTextAt .later Tryd.pinned [.data, .data, .data, .data, .data, .data] true :=
  OpenClaim.laidByTextAt_later rfl rfl tie2 noOwnUnsafe
theorem tie3 : Tryd.prog.laidByTextLater [("loop.example/g00412/impl.shaFirst", Rows.laid_loop_example_g00412_impl_shaFirst)] [.data] true :=
  Program.laidByTextLater.sub seatTie1 ["loop.example/g00412/impl.shaFirst"] (by kernel_rfl) (by kernel_rfl)
theorem fnExactShaNew_row_tie : Rows.fnExactShaNewRow.laidByTextAt .later Tryd.pinned [.data] true :=
  OpenClaim.laidByTextAt_later rfl rfl tie3 noOwnUnsafe
theorem tie4 : Tryd.prog.laidByTextLater [("loop.example/g00412/impl.shaTurns", Rows.laid_loop_example_g00412_impl_shaTurns), ("loop.example/g00412/impl.shaRoundWords", Rows.laid_loop_example_g00412_impl_shaRoundWords)] [.data, .data] true :=
  Program.laidByTextLater.sub seatTie1 ["loop.example/g00412/impl.shaTurns", "loop.example/g00412/impl.shaRoundWords"] (by kernel_rfl) (by kernel_rfl)
theorem fnExactShaBlock_row_tie : Rows.fnExactShaBlockRow.laidByTextAt .later Tryd.pinned [.data, .data] true :=
  OpenClaim.laidByTextAt_later rfl rfl tie4 noOwnUnsafe
theorem fnExactShaAdd_row_tie : Rows.fnExactShaAddRow.laidByTextAt .later Tryd.pinned [.data, .data] true :=
  OpenClaim.laidByTextAt_later rfl rfl tie4 noOwnUnsafe
theorem fnExactShaEnd_row_tie : Rows.fnExactShaEndRow.laidByTextAt .later Tryd.pinned [.data, .data] true :=
  OpenClaim.laidByTextAt_later rfl rfl tie4 noOwnUnsafe
theorem tie5 : Tryd.prog.laidByTextLater [("loop.example/g00412/impl.wideTurns", Rows.laid_loop_example_g00412_impl_wideTurns), ("loop.example/g00412/impl.wideFirst", Rows.laid_loop_example_g00412_impl_wideFirst), ("loop.example/g00412/impl.wideRoundWords", Rows.laid_loop_example_g00412_impl_wideRoundWords)] [.data, .data, .data] true :=
  Program.laidByTextLater.sub seatTie1 ["loop.example/g00412/impl.wideTurns", "loop.example/g00412/impl.wideFirst", "loop.example/g00412/impl.wideRoundWords"] (by kernel_rfl) (by kernel_rfl)
theorem fnExactSha512_row_tie : Rows.fnExactSha512Row.laidByTextAt .later Tryd.pinned [.data, .data, .data] true :=
  OpenClaim.laidByTextAt_later rfl rfl tie5 noOwnUnsafe
theorem tie6 : Tryd.prog.laidByTextLater [("loop.example/g00412/impl.wideTurns", Rows.laid_loop_example_g00412_impl_wideTurns), ("loop.example/g00412/impl.wideRoundWords", Rows.laid_loop_example_g00412_impl_wideRoundWords)] [.data, .data] true :=
  Program.laidByTextLater.sub seatTie1 ["loop.example/g00412/impl.wideTurns", "loop.example/g00412/impl.wideRoundWords"] (by kernel_rfl) (by kernel_rfl)
theorem fnExactWide_row_tie : Rows.fnExactWideRow.laidByTextAt .later Tryd.pinned [.data, .data] true :=
  OpenClaim.laidByTextAt_later rfl rfl tie6 noOwnUnsafe
theorem tie7 : Tryd.prog.laidByTextLater [("loop.example/g00412/impl.wideRoundWords", Rows.laid_loop_example_g00412_impl_wideRoundWords)] [.data] true :=
  Program.laidByTextLater.sub seatTie1 ["loop.example/g00412/impl.wideRoundWords"] (by kernel_rfl) (by kernel_rfl)
theorem fnExactRound512_row_tie : Rows.fnExactRound512Row.laidByTextAt .later Tryd.pinned [.data] true :=
  OpenClaim.laidByTextAt_later rfl rfl tie7 noOwnUnsafe
theorem fnShasUpto_row_tie : Rows.fnShasUptoRow.laidByTextAt .later Tryd.pinned [.data, .data, .data] true :=
  OpenClaim.laidByTextAt_later rfl rfl tie noOwnUnsafe
theorem fnBlocksUpto_row_tie : Rows.fnBlocksUptoRow.laidByTextAt .later Tryd.pinned [.data, .data, .data] true :=
  OpenClaim.laidByTextAt_later rfl rfl tie noOwnUnsafe
theorem fnWidesUpto_row_tie : Rows.fnWidesUptoRow.laidByTextAt .later Tryd.pinned [.data, .data, .data, .data, .data, .data] true :=
  OpenClaim.laidByTextAt_later rfl rfl tie2 noOwnUnsafe
theorem fnExactShaNewUpto_row_tie : Rows.fnExactShaNewUptoRow.laidByTextAt .later Tryd.pinned [.data] true :=
  OpenClaim.laidByTextAt_later rfl rfl tie3 noOwnUnsafe
theorem fnExactShaBlockUpto_row_tie : Rows.fnExactShaBlockUptoRow.laidByTextAt .later Tryd.pinned [.data, .data] true :=
  OpenClaim.laidByTextAt_later rfl rfl tie4 noOwnUnsafe
theorem fnExactShaAddUpto_row_tie : Rows.fnExactShaAddUptoRow.laidByTextAt .later Tryd.pinned [.data, .data] true :=
  OpenClaim.laidByTextAt_later rfl rfl tie4 noOwnUnsafe
theorem fnExactShaEndUpto_row_tie : Rows.fnExactShaEndUptoRow.laidByTextAt .later Tryd.pinned [.data, .data] true :=
  OpenClaim.laidByTextAt_later rfl rfl tie4 noOwnUnsafe
theorem fnExactSha256Upto_row_tie : Rows.fnExactSha256UptoRow.laidByTextAt .later Tryd.pinned [.data, .data, .data] true :=
  OpenClaim.laidByTextAt_later rfl rfl tie noOwnUnsafe
theorem fnExactSha512Upto_row_tie : Rows.fnExactSha512UptoRow.laidByTextAt .later Tryd.pinned [.data, .data, .data] true :=
  OpenClaim.laidByTextAt_later rfl rfl tie5 noOwnUnsafe
theorem fnExactWideUpto_row_tie : Rows.fnExactWideUptoRow.laidByTextAt .later Tryd.pinned [.data, .data] true :=
  OpenClaim.laidByTextAt_later rfl rfl tie6 noOwnUnsafe
theorem fnExactRound512Upto_row_tie : Rows.fnExactRound512UptoRow.laidByTextAt .later Tryd.pinned [.data] true :=
  OpenClaim.laidByTextAt_later rfl rfl tie7 noOwnUnsafe
end Go.Proofs.YtgapfkiceolceaaDoor
