/-
  DERIVED. GIVEN WITH THE SEED: THE PROGRAM's TIES (one call each: nine closed facts by the kernel) AND EACH ROW's TIE, after the 31st guide's Derived/Test/Toyas{Tie, Card}.lean. No idea stands in it: it is a product of the set-up. Laid BY PROGRAM, IN A SANDBOX (cutbox-door.mjs). By AI agents, Wed Nov 11 2026. No macro, syntax, notation, axiom, sorry.
-/
import Derived.Test.YtiiiokikmjgliaaGreatDoorRows
import Derived.LaidByTextLater
import Derived.SevenTiedAt
import Derived.LaidSub
import Derived.LaidOnce
namespace Go.Proofs.YtiiiokikmjgliaaGreatDoor
open Go
set_option maxRecDepth 100000
theorem seatTie1 : Tryz.prog.laidByTextLater [("bindery/inflate.lengthsFrom", Rows.laid_bindery_inflate_lengthsFrom), ("bindery/inflate.distancesFrom", Rows.laid_bindery_inflate_distancesFrom), ("bindery/inflate.timesFrom", Rows.laid_bindery_inflate_timesFrom), ("bindery/inflate.signOrder", Rows.laid_bindery_inflate_signOrder), ("bindery/squeeze.lengthsFrom", Rows.laid_bindery_squeeze_lengthsFrom), ("bindery/squeeze.distancesFrom", Rows.laid_bindery_squeeze_distancesFrom), ("bindery/quiet.words", Rows.laid_bindery_quiet_words)] [.data, .data, .data, .data, .data, .data, .data] true :=
  Program.laidByTextLater_by_one 165 8 61 (by kernel_rfl) (by kernel_rfl) (by kernel_rfl) (by kernel_rfl) (by kernel_rfl) (by kernel_rfl) (fun _ _ => by kernel_rfl)
theorem noOwnUnsafe : Tryz.pinned.checked.prog.headLifts.contains "ownunsafe" = false := by kernel_rfl
theorem tie : Tryz.prog.laidByTextLater [("bindery/inflate.lengthsFrom", Rows.laid_bindery_inflate_lengthsFrom), ("bindery/inflate.distancesFrom", Rows.laid_bindery_inflate_distancesFrom), ("bindery/inflate.timesFrom", Rows.laid_bindery_inflate_timesFrom), ("bindery/inflate.signOrder", Rows.laid_bindery_inflate_signOrder), ("bindery/squeeze.lengthsFrom", Rows.laid_bindery_squeeze_lengthsFrom), ("bindery/squeeze.distancesFrom", Rows.laid_bindery_squeeze_distancesFrom), ("bindery/quiet.words", Rows.laid_bindery_quiet_words)] [.data, .data, .data, .data, .data, .data, .data] true :=
  Program.laidByTextLater.sub seatTie1 ["bindery/inflate.lengthsFrom", "bindery/inflate.distancesFrom", "bindery/inflate.timesFrom", "bindery/inflate.signOrder", "bindery/squeeze.lengthsFrom", "bindery/squeeze.distancesFrom", "bindery/quiet.words"] (by kernel_rfl) (by kernel_rfl)
theorem quietTells_row_tie : Rows.quietTellsRow.laidByTextAt .later Tryz.pinned [.data, .data, .data, .data, .data, .data, .data] true :=
  OpenClaim.laidByTextAt_later rfl rfl tie noOwnUnsafe
theorem quietNever_row_tie : Rows.quietNeverRow.laidByTextAt .later Tryz.pinned [.data, .data, .data, .data, .data, .data, .data] true :=
  OpenClaim.laidByTextAt_later rfl rfl tie noOwnUnsafe
theorem quietJoins_row_tie : Rows.quietJoinsRow.laidByTextAt .later Tryz.pinned [.data, .data, .data, .data, .data, .data, .data] true :=
  OpenClaim.laidByTextAt_later rfl rfl tie noOwnUnsafe
theorem quietTellsUpto_row_tie : Rows.quietTellsUptoRow.laidByTextAt .later Tryz.pinned [.data, .data, .data, .data, .data, .data, .data] true :=
  OpenClaim.laidByTextAt_later rfl rfl tie noOwnUnsafe
theorem quietNeverUpto_row_tie : Rows.quietNeverUptoRow.laidByTextAt .later Tryz.pinned [.data, .data, .data, .data, .data, .data, .data] true :=
  OpenClaim.laidByTextAt_later rfl rfl tie noOwnUnsafe
theorem quietJoinsUpto_row_tie : Rows.quietJoinsUptoRow.laidByTextAt .later Tryz.pinned [.data, .data, .data, .data, .data, .data, .data] true :=
  OpenClaim.laidByTextAt_later rfl rfl tie noOwnUnsafe
end Go.Proofs.YtiiiokikmjgliaaGreatDoor
