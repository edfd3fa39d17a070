/-
  DERIVED. GIVEN WITH THE SEED: THE PROGRAM's TIES (one call each: nine closed facts by the kernel) AND EACH ROW's TIE, after the 31st guide's Derived/Test/Toyas{Tie, Card}.lean. No idea stands in it: it is a product of the set-up. Laid BY PROGRAM, IN A SANDBOX (cutbox-door.mjs). By AI agents, Wed Nov 11 2026. No macro, syntax, notation, axiom, sorry.
-/
import Derived.Test.YtjcfjpoodahlfaaGreatDoorRows
import Derived.LaidByTextLater
import Derived.SevenTiedAt
import Derived.LaidSub
import Derived.LaidOnce
namespace Go.Proofs.YtjcfjpoodahlfaaGreatDoor
open Go
set_option maxRecDepth 100000
theorem seatTie1 : Tryz.prog.laidByTextLater [("loop.example/objectlinker/impl.errHeader", Rows.laid_loop_example_objectlinker_impl_errHeader), ("loop.example/objectlinker/impl.errShort", Rows.laid_loop_example_objectlinker_impl_errShort), ("loop.example/objectlinker/impl.errName", Rows.laid_loop_example_objectlinker_impl_errName), ("loop.example/objectlinker/impl.errOther", Rows.laid_loop_example_objectlinker_impl_errOther)] [.sentinel, .sentinel, .sentinel, .sentinel] true :=
  Program.laidByTextLater_by_one 85 8 2 (by kernel_rfl) (by kernel_rfl) (by kernel_rfl) (by kernel_rfl) (by kernel_rfl) (by kernel_rfl) (fun _ _ => by kernel_rfl)
theorem noOwnUnsafe : Tryz.pinned.checked.prog.headLifts.contains "ownunsafe" = false := by kernel_rfl
theorem tie : Tryz.prog.laidByTextLater [("loop.example/objectlinker/impl.errHeader", Rows.laid_loop_example_objectlinker_impl_errHeader), ("loop.example/objectlinker/impl.errShort", Rows.laid_loop_example_objectlinker_impl_errShort), ("loop.example/objectlinker/impl.errName", Rows.laid_loop_example_objectlinker_impl_errName), ("loop.example/objectlinker/impl.errOther", Rows.laid_loop_example_objectlinker_impl_errOther)] [.sentinel, .sentinel, .sentinel, .sentinel] true :=
  Program.laidByTextLater.sub seatTie1 ["loop.example/objectlinker/impl.errHeader", "loop.example/objectlinker/impl.errShort", "loop.example/objectlinker/impl.errName", "loop.example/objectlinker/impl.errOther"] (by kernel_rfl) (by kernel_rfl)
theorem fnWriteObject_row_tie : Rows.fnWriteObjectRow.laidByTextAt .later Tryz.pinned [.sentinel, .sentinel, .sentinel, .sentinel] true :=
  OpenClaim.laidByTextAt_later rfl rfl tie noOwnUnsafe
theorem fnReadObject_row_tie : Rows.fnReadObjectRow.laidByTextAt .later Tryz.pinned [.sentinel, .sentinel, .sentinel, .sentinel] true :=
  OpenClaim.laidByTextAt_later rfl rfl tie noOwnUnsafe
theorem fnExactReadObject_row_tie : Rows.fnExactReadObjectRow.laidByTextAt .later Tryz.pinned [.sentinel, .sentinel, .sentinel, .sentinel] true :=
  OpenClaim.laidByTextAt_later rfl rfl tie noOwnUnsafe
theorem fnWriteObjectUpto_row_tie : Rows.fnWriteObjectUptoRow.laidByTextAt .later Tryz.pinned [.sentinel, .sentinel, .sentinel, .sentinel] true :=
  OpenClaim.laidByTextAt_later rfl rfl tie noOwnUnsafe
theorem fnReadObjectUpto_row_tie : Rows.fnReadObjectUptoRow.laidByTextAt .later Tryz.pinned [.sentinel, .sentinel, .sentinel, .sentinel] true :=
  OpenClaim.laidByTextAt_later rfl rfl tie noOwnUnsafe
theorem fnExactReadObjectUpto_row_tie : Rows.fnExactReadObjectUptoRow.laidByTextAt .later Tryz.pinned [.sentinel, .sentinel, .sentinel, .sentinel] true :=
  OpenClaim.laidByTextAt_later rfl rfl tie noOwnUnsafe
end Go.Proofs.YtjcfjpoodahlfaaGreatDoor
