/-
  DERIVED. GIVEN WITH THE SEED: THE CARDS: each row of YtojpjaifhjigfabGreatDoorRows.lean that lists a variable, with what it lists TIED to the program's text (the seventh form; the later family's looks); each row that meets fmt, with fmt's text TOLD by the authors' own Lean function (tested against real Go, not proved from fmt's source: count such statements apart). THE CARD IS WHAT COUNTS. Prove the row's statement (the work); the ties are given (YtojpjaifhjigfabGreatDoorTie.lean); close each card by the builder's one call (the guide's Derived/Test/ToyasCard.lean, 'card_holds'). Laid BY PROGRAM, IN A SANDBOX (cutbox-door.mjs). By AI agents, Wed Nov 11 2026. No macro, syntax, notation, axiom, sorry.
-/
import Derived.Test.YtojpjaifhjigfabGreatDoorRows
import GoSem.ClaimSeven
namespace Go.Proofs.YtojpjaifhjigfabGreatDoor
namespace Rows

/-- THE TIED CARD OF 'conduitkeep.Named'. -/
def namedCard : Claim7 := { stood := { row := namedRow, standIns := [], harness := (true, "274fafaf5df0b8518c5dfbe021317b8ea6fa0f130d4e93f8b510d7d92fd9e46b"), looks := true }, kinds := [], alts := [], laidByText := true, laidKinds := [.sentinel, .sentinel, .sentinel, .sentinel, .sentinel, .sentinel, .sentinel, .sentinel, .sentinel, .sentinel, .sentinel], laidTests := true, laidLooks := .later }
def NamedCardSaid : Prop := Claim7.holds Tryz.pinned (.plain (OpenSpec.ofChange namedSpec)) namedCard

/-- THE TIED CARD OF 'conduitkeep.Ahead'. -/
def aheadCard : Claim7 := { stood := { row := aheadRow, standIns := [], harness := (true, "274fafaf5df0b8518c5dfbe021317b8ea6fa0f130d4e93f8b510d7d92fd9e46b"), looks := true }, kinds := [], alts := [], laidByText := true, laidKinds := [.sentinel, .sentinel, .sentinel, .sentinel, .sentinel, .sentinel, .sentinel, .sentinel, .sentinel, .sentinel, .sentinel], laidTests := true, laidLooks := .later }
def AheadCardSaid : Prop := Claim7.holds Tryz.pinned (.plain (OpenSpec.ofChange aheadSpec)) aheadCard

/-- THE SECOND FORM's CARD OF 'conduitkeep.Named'. -/
def namedUptoCard : Claim7 := { stood := { row := namedUptoRow, standIns := [], harness := (true, "274fafaf5df0b8518c5dfbe021317b8ea6fa0f130d4e93f8b510d7d92fd9e46b"), looks := true }, kinds := [], alts := [], laidByText := true, laidKinds := [.sentinel, .sentinel, .sentinel, .sentinel, .sentinel, .sentinel, .sentinel, .sentinel, .sentinel, .sentinel, .sentinel], laidTests := true, laidLooks := .later }
def NamedUptoCardSaid : Prop := Claim7.holds Tryz.pinned (.plain (OpenSpec.upto namedSpec)) namedUptoCard

/-- THE SECOND FORM's CARD OF 'conduitkeep.Ahead'. -/
def aheadUptoCard : Claim7 := { stood := { row := aheadUptoRow, standIns := [], harness := (true, "274fafaf5df0b8518c5dfbe021317b8ea6fa0f130d4e93f8b510d7d92fd9e46b"), looks := true }, kinds := [], alts := [], laidByText := true, laidKinds := [.sentinel, .sentinel, .sentinel, .sentinel, .sentinel, .sentinel, .sentinel, .sentinel, .sentinel, .sentinel, .sentinel], laidTests := true, laidLooks := .later }
def AheadUptoCardSaid : Prop := Claim7.holds Tryz.pinned (.plain (OpenSpec.upto aheadSpec)) aheadUptoCard
end Rows
end Go.Proofs.YtojpjaifhjigfabGreatDoor
