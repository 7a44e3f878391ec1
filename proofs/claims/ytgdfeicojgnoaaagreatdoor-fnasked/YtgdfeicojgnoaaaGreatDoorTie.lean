/-
  DERIVED. GIVEN WITH THE SEED: THE PROGRAM's TIES (one call each: nine closed facts by the kernel) AND EACH ROW's TIE, after the 31st guide's Derived/Test/Toyas{Tie, Card}.lean. No idea stands in it: it is a product of the set-up. Laid BY PROGRAM, IN A SANDBOX (cutbox-door.mjs). By AI agents, Wed Nov 11 2026. No macro, syntax, notation, axiom, sorry.
-/
import Derived.Test.YtgdfeicojgnoaaaGreatDoorRows
import Derived.LaidByTextLater
import Derived.SevenTiedAt
import Derived.LaidSub
import Derived.LaidOnce
namespace Go.Proofs.YtgdfeicojgnoaaaGreatDoor
open Go
set_option maxRecDepth 100000
theorem seatTie1 : Tryz.prog.laidByTextLater [("errors.errorType", Rows.laid_errors_errorType), ("loop.example/g00379/impl.errNotRight", Rows.laid_loop_example_g00379_impl_errNotRight), ("loop.example/g00379/impl.errThere", Rows.laid_loop_example_g00379_impl_errThere), ("loop.example/g00379/impl.errNotSo", Rows.laid_loop_example_g00379_impl_errNotSo)] [.handle, .sentinel, .sentinel, .sentinel] true :=
  Program.laidByTextLater_by_one 73 8 2 (by kernel_rfl) (by kernel_rfl) (by kernel_rfl) (by kernel_rfl) (by kernel_rfl) (by kernel_rfl) (fun _ _ => by kernel_rfl)
theorem noOwnUnsafe : Tryz.pinned.checked.prog.headLifts.contains "ownunsafe" = false := by kernel_rfl
theorem tie : Tryz.prog.laidByTextLater [("errors.errorType", Rows.laid_errors_errorType), ("loop.example/g00379/impl.errNotRight", Rows.laid_loop_example_g00379_impl_errNotRight), ("loop.example/g00379/impl.errThere", Rows.laid_loop_example_g00379_impl_errThere), ("loop.example/g00379/impl.errNotSo", Rows.laid_loop_example_g00379_impl_errNotSo)] [.handle, .sentinel, .sentinel, .sentinel] true :=
  Program.laidByTextLater.sub seatTie1 ["errors.errorType", "loop.example/g00379/impl.errNotRight", "loop.example/g00379/impl.errThere", "loop.example/g00379/impl.errNotSo"] (by kernel_rfl) (by kernel_rfl)
theorem fnAsked_row_tie : Rows.fnAskedRow.laidByTextAt .later Tryz.pinned [.handle, .sentinel, .sentinel, .sentinel] true :=
  OpenClaim.laidByTextAt_later rfl rfl tie noOwnUnsafe
theorem tie2 : Tryz.prog.laidByTextLater [("loop.example/g00379/impl.errNotRight", Rows.laid_loop_example_g00379_impl_errNotRight), ("loop.example/g00379/impl.errNotSo", Rows.laid_loop_example_g00379_impl_errNotSo)] [.sentinel, .sentinel] true :=
  Program.laidByTextLater.sub seatTie1 ["loop.example/g00379/impl.errNotRight", "loop.example/g00379/impl.errNotSo"] (by kernel_rfl) (by kernel_rfl)
theorem fnExactTicked_row_tie : Rows.fnExactTickedRow.laidByTextAt .later Tryz.pinned [.sentinel, .sentinel] true :=
  OpenClaim.laidByTextAt_later rfl rfl tie2 noOwnUnsafe
theorem fnAskedUpto_row_tie : Rows.fnAskedUptoRow.laidByTextAt .later Tryz.pinned [.handle, .sentinel, .sentinel, .sentinel] true :=
  OpenClaim.laidByTextAt_later rfl rfl tie noOwnUnsafe
theorem fnExactTickedUpto_row_tie : Rows.fnExactTickedUptoRow.laidByTextAt .later Tryz.pinned [.sentinel, .sentinel] true :=
  OpenClaim.laidByTextAt_later rfl rfl tie2 noOwnUnsafe
end Go.Proofs.YtgdfeicojgnoaaaGreatDoor
