/-
  DERIVED. GIVEN WITH THE SEED: THE PROGRAM's TIES (one call each: nine closed facts by the kernel) AND EACH ROW's TIE, after the 31st guide's Derived/Test/Toyas{Tie, Card}.lean. No idea stands in it: it is a product of the set-up. Laid BY PROGRAM, IN A SANDBOX (cutbox-door.mjs). By AI agents, Wed Nov 11 2026. No macro, syntax, notation, axiom, sorry.
-/
import Derived.Test.YtojpjaifhjigfabGreatDoorRows
import Derived.LaidByTextLater
import Derived.SevenTiedAt
import Derived.LaidSub
import Derived.LaidOnce
namespace Go.Proofs.YtojpjaifhjigfabGreatDoor
open Go
set_option maxRecDepth 100000
theorem seatTie1 : Tryz.prog.laidByTextLater [("conduit/api.ErrConfig", Rows.laid_conduit_api_ErrConfig), ("conduit/api.ErrLog", Rows.laid_conduit_api_ErrLog), ("conduit/api.ErrDestination", Rows.laid_conduit_api_ErrDestination), ("conduit/api.ErrTenant", Rows.laid_conduit_api_ErrTenant), ("conduit/api.ErrID", Rows.laid_conduit_api_ErrID), ("conduit/api.ErrLong", Rows.laid_conduit_api_ErrLong), ("conduit/api.ErrTwice", Rows.laid_conduit_api_ErrTwice), ("conduit/api.ErrFull", Rows.laid_conduit_api_ErrFull), ("conduit/api.ErrQuota", Rows.laid_conduit_api_ErrQuota), ("conduit/api.ErrRange", Rows.laid_conduit_api_ErrRange), ("conduit/api.ErrStale", Rows.laid_conduit_api_ErrStale)] [.sentinel, .sentinel, .sentinel, .sentinel, .sentinel, .sentinel, .sentinel, .sentinel, .sentinel, .sentinel, .sentinel] true :=
  Program.laidByTextLater_by_one 218 8 2 (by kernel_rfl) (by kernel_rfl) (by kernel_rfl) (by kernel_rfl) (by kernel_rfl) (by kernel_rfl) (fun _ _ => by kernel_rfl)
theorem noOwnUnsafe : Tryz.pinned.checked.prog.headLifts.contains "ownunsafe" = false := by kernel_rfl
theorem tie : Tryz.prog.laidByTextLater [("conduit/api.ErrConfig", Rows.laid_conduit_api_ErrConfig), ("conduit/api.ErrLog", Rows.laid_conduit_api_ErrLog), ("conduit/api.ErrDestination", Rows.laid_conduit_api_ErrDestination), ("conduit/api.ErrTenant", Rows.laid_conduit_api_ErrTenant), ("conduit/api.ErrID", Rows.laid_conduit_api_ErrID), ("conduit/api.ErrLong", Rows.laid_conduit_api_ErrLong), ("conduit/api.ErrTwice", Rows.laid_conduit_api_ErrTwice), ("conduit/api.ErrFull", Rows.laid_conduit_api_ErrFull), ("conduit/api.ErrQuota", Rows.laid_conduit_api_ErrQuota), ("conduit/api.ErrRange", Rows.laid_conduit_api_ErrRange), ("conduit/api.ErrStale", Rows.laid_conduit_api_ErrStale)] [.sentinel, .sentinel, .sentinel, .sentinel, .sentinel, .sentinel, .sentinel, .sentinel, .sentinel, .sentinel, .sentinel] true :=
  Program.laidByTextLater.sub seatTie1 ["conduit/api.ErrConfig", "conduit/api.ErrLog", "conduit/api.ErrDestination", "conduit/api.ErrTenant", "conduit/api.ErrID", "conduit/api.ErrLong", "conduit/api.ErrTwice", "conduit/api.ErrFull", "conduit/api.ErrQuota", "conduit/api.ErrRange", "conduit/api.ErrStale"] (by kernel_rfl) (by kernel_rfl)
theorem named_row_tie : Rows.namedRow.laidByTextAt .later Tryz.pinned [.sentinel, .sentinel, .sentinel, .sentinel, .sentinel, .sentinel, .sentinel, .sentinel, .sentinel, .sentinel, .sentinel] true :=
  OpenClaim.laidByTextAt_later rfl rfl tie noOwnUnsafe
theorem ahead_row_tie : Rows.aheadRow.laidByTextAt .later Tryz.pinned [.sentinel, .sentinel, .sentinel, .sentinel, .sentinel, .sentinel, .sentinel, .sentinel, .sentinel, .sentinel, .sentinel] true :=
  OpenClaim.laidByTextAt_later rfl rfl tie noOwnUnsafe
theorem namedUpto_row_tie : Rows.namedUptoRow.laidByTextAt .later Tryz.pinned [.sentinel, .sentinel, .sentinel, .sentinel, .sentinel, .sentinel, .sentinel, .sentinel, .sentinel, .sentinel, .sentinel] true :=
  OpenClaim.laidByTextAt_later rfl rfl tie noOwnUnsafe
theorem aheadUpto_row_tie : Rows.aheadUptoRow.laidByTextAt .later Tryz.pinned [.sentinel, .sentinel, .sentinel, .sentinel, .sentinel, .sentinel, .sentinel, .sentinel, .sentinel, .sentinel, .sentinel] true :=
  OpenClaim.laidByTextAt_later rfl rfl tie noOwnUnsafe
end Go.Proofs.YtojpjaifhjigfabGreatDoor
