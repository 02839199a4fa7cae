/-
  NARROWER THAN 'FOR EVERY INPUT', by the rows' own cells (each row's printed sentence says how): Opens: maps, laid · Taken: maps, laid · Sent: maps, laid · All: maps, laid · Kept: laid · Right: laid · Lively: laid · Tried: laid · Broken: laid · Fair: laid · Again: laid.
  DERIVED. THE GIVEN ROWS OF THIS SEAT. 11 by the template 'for every input the law returns true; each argument reads behind the call as it read before'; 0 by the template 'total and deterministic' (their statements: YtojpjaifhjigfaaGreatDoorTotals.lean).
  GIVEN WITH THE SEED: the statements are not yours to turn. If you find one false, say at which input.
  Laid BY PROGRAM, IN A SANDBOX (cutbox-rows.mjs): the forced cells as the released guide's own fill.sh prints them over the translation ebd1300f6e81213f… (all of the seat's roots in one cut). By AI agents, Wed Nov 11 2026. No macro, syntax, notation, axiom, sorry.
-/
import Derived.Test.YtojpjaifhjigfaaGreatDoorChecked
import GoSem.Claim
import GoSem.ClaimJoined
import GoSem.ClaimMapViews
import Derived.JoinedTies
import Derived.KernelRfl
namespace Go.Proofs.YtojpjaifhjigfaaGreatDoor
/- THE CELL 'sum', in the pinned program and in every row, IS THE sha256 OF THE DUMP (.gsa) THAT YtojpjaifhjigfaaGreatDoorProg.lean LOADS. Nothing in Lean hashes anything: it is a label: what it is worth is what the hold of that sum in a sandbox is worth. -/
noncomputable def Tryz.pinned : Pinned := { name := "ytojpjaifhjigfaagreatdoor", sum := "ebd1300f6e81213f2b3e7a1225e4259fdf39658960dd89f06b0ced4d50c87048", checked := Tryz.checked }
namespace Rows
def none {H : Type} : Left H := { results := [], args := [] }

/- WHAT THE LISTED PACKAGE-LEVEL VARIABLES READ AS WHEN THE CALL BEGINS. Each datum BY PROGRAM (the guide's laid-datum.mjs) off the statement by which the dump's own 'gosem.cut.vars' lays the variable. In a bare row this is a premise. The card (YtojpjaifhjigfaaGreatDoorCards.lean) ties it to the program's text. -/
def laid_conduit_api_ErrConfig {H : Type} : DataW H := .iface "*errors.errorString" (.ptr (.agg [.lit (.string [97, 32, 99, 111, 110, 102, 105, 103, 117, 114, 97, 116, 105, 111, 110, 32, 116, 104, 97, 116, 32, 105, 115, 32, 110, 111, 110, 101])]))
def laid_conduit_api_ErrLog {H : Type} : DataW H := .iface "*errors.errorString" (.ptr (.agg [.lit (.string [98, 121, 116, 101, 115, 32, 116, 104, 97, 116, 32, 97, 114, 101, 32, 110, 111, 32, 108, 111, 103])]))
def laid_conduit_api_ErrDestination {H : Type} : DataW H := .iface "*errors.errorString" (.ptr (.agg [.lit (.string [97, 32, 100, 101, 115, 116, 105, 110, 97, 116, 105, 111, 110, 32, 116, 104, 97, 116, 32, 116, 104, 101, 114, 101, 32, 105, 115, 32, 110, 111, 116])]))
def laid_conduit_api_ErrTenant {H : Type} : DataW H := .iface "*errors.errorString" (.ptr (.agg [.lit (.string [97, 32, 116, 101, 110, 97, 110, 116, 32, 116, 104, 97, 116, 32, 116, 104, 101, 114, 101, 32, 105, 115, 32, 110, 111, 116])]))
def laid_conduit_api_ErrID {H : Type} : DataW H := .iface "*errors.errorString" (.ptr (.agg [.lit (.string [97, 110, 32, 105, 100, 32, 116, 104, 97, 116, 32, 105, 115, 32, 110, 111, 110, 101, 44, 32, 111, 114, 32, 116, 104, 97, 116, 32, 116, 104, 101, 114, 101, 32, 105, 115, 32, 110, 111, 116])]))
def laid_conduit_api_ErrLong {H : Type} : DataW H := .iface "*errors.errorString" (.ptr (.agg [.lit (.string [97, 32, 98, 111, 100, 121, 32, 116, 104, 97, 116, 32, 105, 115, 32, 116, 111, 111, 32, 108, 111, 110, 103])]))
def laid_conduit_api_ErrTwice {H : Type} : DataW H := .iface "*errors.errorString" (.ptr (.agg [.lit (.string [97, 110, 32, 105, 100, 32, 116, 104, 97, 116, 32, 119, 97, 115, 32, 116, 97, 107, 101, 110, 32, 97, 108, 114, 101, 97, 100, 121])]))
def laid_conduit_api_ErrFull {H : Type} : DataW H := .iface "*errors.errorString" (.ptr (.agg [.lit (.string [116, 111, 111, 32, 109, 97, 110, 121, 32, 105, 100, 115])]))
def laid_conduit_api_ErrQuota {H : Type} : DataW H := .iface "*errors.errorString" (.ptr (.agg [.lit (.string [116, 111, 111, 32, 109, 117, 99, 104, 32, 116, 104, 97, 116, 32, 105, 115, 32, 112, 101, 110, 100, 105, 110, 103])]))
def laid_conduit_api_ErrRange {H : Type} : DataW H := .iface "*errors.errorString" (.ptr (.agg [.lit (.string [97, 32, 110, 117, 109, 98, 101, 114, 32, 116, 104, 97, 116, 32, 99, 97, 110, 110, 111, 116, 32, 98, 101])]))
def laid_conduit_api_ErrStale {H : Type} : DataW H := .iface "*errors.errorString" (.ptr (.agg [.lit (.string [97, 32, 115, 101, 110, 100, 32, 116, 104, 97, 116, 32, 105, 115, 32, 110, 111, 116, 32, 117, 110, 100, 101, 114, 32, 119, 97, 121])]))

/-- 'conduitlaw.Opens': WHATEVER THE INPUT: true; the input reads as it did. -/
def opensSpec : ChangeSpec := { name := "opens", fn := fun _ => fun
  | [d1, d2] => { results := [.lit (.bool true)], args := [d1, d2] }
  | _ => none }
def opensRow : OpenClaim := { program := "ytojpjaifhjigfaagreatdoor", sum := "ebd1300f6e81213f2b3e7a1225e4259fdf39658960dd89f06b0ced4d50c87048", func := "conduit/conduitlaw.Opens", spec := "opens", inPlace := ["maps.clone"], unfollowed := true, recurses := true, named := ["conduit/api.ErrConfig", "conduit/api.ErrLog", "conduit/api.ErrDestination", "conduit/api.ErrTenant", "conduit/api.ErrID", "conduit/api.ErrLong", "conduit/api.ErrTwice", "conduit/api.ErrFull", "conduit/api.ErrQuota", "conduit/api.ErrRange", "conduit/api.ErrStale"], maps := true, plainKeys := false, apart := false, laid := [("conduit/api.ErrConfig", laid_conduit_api_ErrConfig), ("conduit/api.ErrLog", laid_conduit_api_ErrLog), ("conduit/api.ErrDestination", laid_conduit_api_ErrDestination), ("conduit/api.ErrTenant", laid_conduit_api_ErrTenant), ("conduit/api.ErrID", laid_conduit_api_ErrID), ("conduit/api.ErrLong", laid_conduit_api_ErrLong), ("conduit/api.ErrTwice", laid_conduit_api_ErrTwice), ("conduit/api.ErrFull", laid_conduit_api_ErrFull), ("conduit/api.ErrQuota", laid_conduit_api_ErrQuota), ("conduit/api.ErrRange", laid_conduit_api_ErrRange), ("conduit/api.ErrStale", laid_conduit_api_ErrStale)] }
def OpensSaid : Prop := opensRow.holds Tryz.pinned (OpenSpec.ofChange opensSpec)

/-- ITS FALSE NEIGHBOUR: 'it returns false'. Refute it at one input. -/
def opensWrong : ChangeSpec := { name := "opens", fn := fun _ => fun
  | [d1, d2] => { results := [.lit (.bool false)], args := [d1, d2] }
  | _ => none }
def OpensWrongFalsely : Prop := opensRow.holds Tryz.pinned (OpenSpec.ofChange opensWrong)

/-- 'conduitlaw.Taken': WHATEVER THE INPUT: true; the input reads as it did. -/
def takenSpec : ChangeSpec := { name := "taken", fn := fun _ => fun
  | [d1, d2, d3, d4, d5] => { results := [.lit (.bool true)], args := [d1, d2, d3, d4, d5] }
  | _ => none }
def takenRow : OpenClaim := { program := "ytojpjaifhjigfaagreatdoor", sum := "ebd1300f6e81213f2b3e7a1225e4259fdf39658960dd89f06b0ced4d50c87048", func := "conduit/conduitlaw.Taken", spec := "taken", inPlace := ["maps.clone"], unfollowed := true, recurses := true, named := ["conduit/api.ErrConfig", "conduit/api.ErrLog", "conduit/api.ErrDestination", "conduit/api.ErrTenant", "conduit/api.ErrID", "conduit/api.ErrLong", "conduit/api.ErrTwice", "conduit/api.ErrFull", "conduit/api.ErrQuota", "conduit/api.ErrRange", "conduit/api.ErrStale"], maps := true, plainKeys := false, apart := false, laid := [("conduit/api.ErrConfig", laid_conduit_api_ErrConfig), ("conduit/api.ErrLog", laid_conduit_api_ErrLog), ("conduit/api.ErrDestination", laid_conduit_api_ErrDestination), ("conduit/api.ErrTenant", laid_conduit_api_ErrTenant), ("conduit/api.ErrID", laid_conduit_api_ErrID), ("conduit/api.ErrLong", laid_conduit_api_ErrLong), ("conduit/api.ErrTwice", laid_conduit_api_ErrTwice), ("conduit/api.ErrFull", laid_conduit_api_ErrFull), ("conduit/api.ErrQuota", laid_conduit_api_ErrQuota), ("conduit/api.ErrRange", laid_conduit_api_ErrRange), ("conduit/api.ErrStale", laid_conduit_api_ErrStale)] }
def TakenSaid : Prop := takenRow.holds Tryz.pinned (OpenSpec.ofChange takenSpec)

/-- ITS FALSE NEIGHBOUR: 'it returns false'. Refute it at one input. -/
def takenWrong : ChangeSpec := { name := "taken", fn := fun _ => fun
  | [d1, d2, d3, d4, d5] => { results := [.lit (.bool false)], args := [d1, d2, d3, d4, d5] }
  | _ => none }
def TakenWrongFalsely : Prop := takenRow.holds Tryz.pinned (OpenSpec.ofChange takenWrong)

/-- 'conduitlaw.Sent': WHATEVER THE INPUT: true; the input reads as it did. -/
def sentSpec : ChangeSpec := { name := "sent", fn := fun _ => fun
  | [d1, d2, d3, d4, d5] => { results := [.lit (.bool true)], args := [d1, d2, d3, d4, d5] }
  | _ => none }
def sentRow : OpenClaim := { program := "ytojpjaifhjigfaagreatdoor", sum := "ebd1300f6e81213f2b3e7a1225e4259fdf39658960dd89f06b0ced4d50c87048", func := "conduit/conduitlaw.Sent", spec := "sent", inPlace := ["maps.clone"], unfollowed := true, recurses := true, named := ["conduit/api.ErrConfig", "conduit/api.ErrLog", "conduit/api.ErrDestination", "conduit/api.ErrTenant", "conduit/api.ErrID", "conduit/api.ErrLong", "conduit/api.ErrTwice", "conduit/api.ErrFull", "conduit/api.ErrQuota", "conduit/api.ErrRange", "conduit/api.ErrStale"], maps := true, plainKeys := false, apart := false, laid := [("conduit/api.ErrConfig", laid_conduit_api_ErrConfig), ("conduit/api.ErrLog", laid_conduit_api_ErrLog), ("conduit/api.ErrDestination", laid_conduit_api_ErrDestination), ("conduit/api.ErrTenant", laid_conduit_api_ErrTenant), ("conduit/api.ErrID", laid_conduit_api_ErrID), ("conduit/api.ErrLong", laid_conduit_api_ErrLong), ("conduit/api.ErrTwice", laid_conduit_api_ErrTwice), ("conduit/api.ErrFull", laid_conduit_api_ErrFull), ("conduit/api.ErrQuota", laid_conduit_api_ErrQuota), ("conduit/api.ErrRange", laid_conduit_api_ErrRange), ("conduit/api.ErrStale", laid_conduit_api_ErrStale)] }
def SentSaid : Prop := sentRow.holds Tryz.pinned (OpenSpec.ofChange sentSpec)

/-- ITS FALSE NEIGHBOUR: 'it returns false'. Refute it at one input. -/
def sentWrong : ChangeSpec := { name := "sent", fn := fun _ => fun
  | [d1, d2, d3, d4, d5] => { results := [.lit (.bool false)], args := [d1, d2, d3, d4, d5] }
  | _ => none }
def SentWrongFalsely : Prop := sentRow.holds Tryz.pinned (OpenSpec.ofChange sentWrong)

/-- 'conduitlaw.All': WHATEVER THE INPUT: true; the input reads as it did. -/
def allSpec : ChangeSpec := { name := "all", fn := fun _ => fun
  | [d1, d2, d3, d4, d5] => { results := [.lit (.bool true)], args := [d1, d2, d3, d4, d5] }
  | _ => none }
def allRow : OpenClaim := { program := "ytojpjaifhjigfaagreatdoor", sum := "ebd1300f6e81213f2b3e7a1225e4259fdf39658960dd89f06b0ced4d50c87048", func := "conduit/conduitlaw.All", spec := "all", inPlace := ["maps.clone"], unfollowed := true, recurses := true, named := ["conduit/api.ErrConfig", "conduit/api.ErrLog", "conduit/api.ErrDestination", "conduit/api.ErrTenant", "conduit/api.ErrID", "conduit/api.ErrLong", "conduit/api.ErrTwice", "conduit/api.ErrFull", "conduit/api.ErrQuota", "conduit/api.ErrRange", "conduit/api.ErrStale"], maps := true, plainKeys := false, apart := false, laid := [("conduit/api.ErrConfig", laid_conduit_api_ErrConfig), ("conduit/api.ErrLog", laid_conduit_api_ErrLog), ("conduit/api.ErrDestination", laid_conduit_api_ErrDestination), ("conduit/api.ErrTenant", laid_conduit_api_ErrTenant), ("conduit/api.ErrID", laid_conduit_api_ErrID), ("conduit/api.ErrLong", laid_conduit_api_ErrLong), ("conduit/api.ErrTwice", laid_conduit_api_ErrTwice), ("conduit/api.ErrFull", laid_conduit_api_ErrFull), ("conduit/api.ErrQuota", laid_conduit_api_ErrQuota), ("conduit/api.ErrRange", laid_conduit_api_ErrRange), ("conduit/api.ErrStale", laid_conduit_api_ErrStale)] }
def AllSaid : Prop := allRow.holds Tryz.pinned (OpenSpec.ofChange allSpec)

/-- ITS FALSE NEIGHBOUR: 'it returns false'. Refute it at one input. -/
def allWrong : ChangeSpec := { name := "all", fn := fun _ => fun
  | [d1, d2, d3, d4, d5] => { results := [.lit (.bool false)], args := [d1, d2, d3, d4, d5] }
  | _ => none }
def AllWrongFalsely : Prop := allRow.holds Tryz.pinned (OpenSpec.ofChange allWrong)

/-- 'conduitkeep.Kept': WHATEVER THE INPUT: true; the input reads as it did. -/
def keptSpec : ChangeSpec := { name := "kept", fn := fun _ => fun
  | [d1, d2] => { results := [.lit (.bool true)], args := [d1, d2] }
  | _ => none }
def keptRow : OpenClaim := { program := "ytojpjaifhjigfaagreatdoor", sum := "ebd1300f6e81213f2b3e7a1225e4259fdf39658960dd89f06b0ced4d50c87048", func := "conduit/conduitkeep.Kept", spec := "kept", inPlace := ["maps.clone"], unfollowed := true, recurses := true, named := ["conduit/api.ErrConfig", "conduit/api.ErrLog", "conduit/api.ErrDestination", "conduit/api.ErrTenant", "conduit/api.ErrID", "conduit/api.ErrLong", "conduit/api.ErrTwice", "conduit/api.ErrFull", "conduit/api.ErrQuota", "conduit/api.ErrRange", "conduit/api.ErrStale"], plainKeys := false, apart := false, laid := [("conduit/api.ErrConfig", laid_conduit_api_ErrConfig), ("conduit/api.ErrLog", laid_conduit_api_ErrLog), ("conduit/api.ErrDestination", laid_conduit_api_ErrDestination), ("conduit/api.ErrTenant", laid_conduit_api_ErrTenant), ("conduit/api.ErrID", laid_conduit_api_ErrID), ("conduit/api.ErrLong", laid_conduit_api_ErrLong), ("conduit/api.ErrTwice", laid_conduit_api_ErrTwice), ("conduit/api.ErrFull", laid_conduit_api_ErrFull), ("conduit/api.ErrQuota", laid_conduit_api_ErrQuota), ("conduit/api.ErrRange", laid_conduit_api_ErrRange), ("conduit/api.ErrStale", laid_conduit_api_ErrStale)] }
def KeptSaid : Prop := keptRow.holds Tryz.pinned (OpenSpec.ofChange keptSpec)

/-- ITS FALSE NEIGHBOUR: 'it returns false'. Refute it at one input. -/
def keptWrong : ChangeSpec := { name := "kept", fn := fun _ => fun
  | [d1, d2] => { results := [.lit (.bool false)], args := [d1, d2] }
  | _ => none }
def KeptWrongFalsely : Prop := keptRow.holds Tryz.pinned (OpenSpec.ofChange keptWrong)

/-- 'conduitkeep.Right': WHATEVER THE INPUT: true; the input reads as it did. -/
def rightSpec : ChangeSpec := { name := "right", fn := fun _ => fun
  | [d1, d2] => { results := [.lit (.bool true)], args := [d1, d2] }
  | _ => none }
def rightRow : OpenClaim := { program := "ytojpjaifhjigfaagreatdoor", sum := "ebd1300f6e81213f2b3e7a1225e4259fdf39658960dd89f06b0ced4d50c87048", func := "conduit/conduitkeep.Right", spec := "right", inPlace := ["maps.clone"], unfollowed := true, recurses := true, named := ["conduit/api.ErrConfig", "conduit/api.ErrLog", "conduit/api.ErrDestination", "conduit/api.ErrTenant", "conduit/api.ErrID", "conduit/api.ErrLong", "conduit/api.ErrTwice", "conduit/api.ErrFull", "conduit/api.ErrQuota", "conduit/api.ErrRange", "conduit/api.ErrStale"], plainKeys := false, apart := false, laid := [("conduit/api.ErrConfig", laid_conduit_api_ErrConfig), ("conduit/api.ErrLog", laid_conduit_api_ErrLog), ("conduit/api.ErrDestination", laid_conduit_api_ErrDestination), ("conduit/api.ErrTenant", laid_conduit_api_ErrTenant), ("conduit/api.ErrID", laid_conduit_api_ErrID), ("conduit/api.ErrLong", laid_conduit_api_ErrLong), ("conduit/api.ErrTwice", laid_conduit_api_ErrTwice), ("conduit/api.ErrFull", laid_conduit_api_ErrFull), ("conduit/api.ErrQuota", laid_conduit_api_ErrQuota), ("conduit/api.ErrRange", laid_conduit_api_ErrRange), ("conduit/api.ErrStale", laid_conduit_api_ErrStale)] }
def RightSaid : Prop := rightRow.holds Tryz.pinned (OpenSpec.ofChange rightSpec)

/-- ITS FALSE NEIGHBOUR: 'it returns false'. Refute it at one input. -/
def rightWrong : ChangeSpec := { name := "right", fn := fun _ => fun
  | [d1, d2] => { results := [.lit (.bool false)], args := [d1, d2] }
  | _ => none }
def RightWrongFalsely : Prop := rightRow.holds Tryz.pinned (OpenSpec.ofChange rightWrong)

/-- 'conduitkeep.Lively': WHATEVER THE INPUT: true; the input reads as it did. -/
def livelySpec : ChangeSpec := { name := "lively", fn := fun _ => fun
  | [d1, d2] => { results := [.lit (.bool true)], args := [d1, d2] }
  | _ => none }
def livelyRow : OpenClaim := { program := "ytojpjaifhjigfaagreatdoor", sum := "ebd1300f6e81213f2b3e7a1225e4259fdf39658960dd89f06b0ced4d50c87048", func := "conduit/conduitkeep.Lively", spec := "lively", inPlace := ["maps.clone"], unfollowed := true, recurses := true, named := ["conduit/api.ErrConfig", "conduit/api.ErrLog", "conduit/api.ErrDestination", "conduit/api.ErrTenant", "conduit/api.ErrID", "conduit/api.ErrLong", "conduit/api.ErrTwice", "conduit/api.ErrFull", "conduit/api.ErrQuota", "conduit/api.ErrRange", "conduit/api.ErrStale"], plainKeys := false, apart := false, laid := [("conduit/api.ErrConfig", laid_conduit_api_ErrConfig), ("conduit/api.ErrLog", laid_conduit_api_ErrLog), ("conduit/api.ErrDestination", laid_conduit_api_ErrDestination), ("conduit/api.ErrTenant", laid_conduit_api_ErrTenant), ("conduit/api.ErrID", laid_conduit_api_ErrID), ("conduit/api.ErrLong", laid_conduit_api_ErrLong), ("conduit/api.ErrTwice", laid_conduit_api_ErrTwice), ("conduit/api.ErrFull", laid_conduit_api_ErrFull), ("conduit/api.ErrQuota", laid_conduit_api_ErrQuota), ("conduit/api.ErrRange", laid_conduit_api_ErrRange), ("conduit/api.ErrStale", laid_conduit_api_ErrStale)] }
def LivelySaid : Prop := livelyRow.holds Tryz.pinned (OpenSpec.ofChange livelySpec)

/-- ITS FALSE NEIGHBOUR: 'it returns false'. Refute it at one input. -/
def livelyWrong : ChangeSpec := { name := "lively", fn := fun _ => fun
  | [d1, d2] => { results := [.lit (.bool false)], args := [d1, d2] }
  | _ => none }
def LivelyWrongFalsely : Prop := livelyRow.holds Tryz.pinned (OpenSpec.ofChange livelyWrong)

/-- 'conduitkeep.Tried': WHATEVER THE INPUT: true; the input reads as it did. -/
def triedSpec : ChangeSpec := { name := "tried", fn := fun _ => fun
  | [d1, d2] => { results := [.lit (.bool true)], args := [d1, d2] }
  | _ => none }
def triedRow : OpenClaim := { program := "ytojpjaifhjigfaagreatdoor", sum := "ebd1300f6e81213f2b3e7a1225e4259fdf39658960dd89f06b0ced4d50c87048", func := "conduit/conduitkeep.Tried", spec := "tried", inPlace := ["maps.clone"], unfollowed := true, recurses := true, named := ["conduit/api.ErrConfig", "conduit/api.ErrLog", "conduit/api.ErrDestination", "conduit/api.ErrTenant", "conduit/api.ErrID", "conduit/api.ErrLong", "conduit/api.ErrTwice", "conduit/api.ErrFull", "conduit/api.ErrQuota", "conduit/api.ErrRange", "conduit/api.ErrStale"], plainKeys := false, apart := false, laid := [("conduit/api.ErrConfig", laid_conduit_api_ErrConfig), ("conduit/api.ErrLog", laid_conduit_api_ErrLog), ("conduit/api.ErrDestination", laid_conduit_api_ErrDestination), ("conduit/api.ErrTenant", laid_conduit_api_ErrTenant), ("conduit/api.ErrID", laid_conduit_api_ErrID), ("conduit/api.ErrLong", laid_conduit_api_ErrLong), ("conduit/api.ErrTwice", laid_conduit_api_ErrTwice), ("conduit/api.ErrFull", laid_conduit_api_ErrFull), ("conduit/api.ErrQuota", laid_conduit_api_ErrQuota), ("conduit/api.ErrRange", laid_conduit_api_ErrRange), ("conduit/api.ErrStale", laid_conduit_api_ErrStale)] }
def TriedSaid : Prop := triedRow.holds Tryz.pinned (OpenSpec.ofChange triedSpec)

/-- ITS FALSE NEIGHBOUR: 'it returns false'. Refute it at one input. -/
def triedWrong : ChangeSpec := { name := "tried", fn := fun _ => fun
  | [d1, d2] => { results := [.lit (.bool false)], args := [d1, d2] }
  | _ => none }
def TriedWrongFalsely : Prop := triedRow.holds Tryz.pinned (OpenSpec.ofChange triedWrong)

/-- 'conduitkeep.Broken': WHATEVER THE INPUT: true; the input reads as it did. -/
def brokenSpec : ChangeSpec := { name := "broken", fn := fun _ => fun
  | [d1, d2] => { results := [.lit (.bool true)], args := [d1, d2] }
  | _ => none }
def brokenRow : OpenClaim := { program := "ytojpjaifhjigfaagreatdoor", sum := "ebd1300f6e81213f2b3e7a1225e4259fdf39658960dd89f06b0ced4d50c87048", func := "conduit/conduitkeep.Broken", spec := "broken", inPlace := ["maps.clone"], unfollowed := true, recurses := true, named := ["conduit/api.ErrConfig", "conduit/api.ErrLog", "conduit/api.ErrDestination", "conduit/api.ErrTenant", "conduit/api.ErrID", "conduit/api.ErrLong", "conduit/api.ErrTwice", "conduit/api.ErrFull", "conduit/api.ErrQuota", "conduit/api.ErrRange", "conduit/api.ErrStale"], plainKeys := false, apart := false, laid := [("conduit/api.ErrConfig", laid_conduit_api_ErrConfig), ("conduit/api.ErrLog", laid_conduit_api_ErrLog), ("conduit/api.ErrDestination", laid_conduit_api_ErrDestination), ("conduit/api.ErrTenant", laid_conduit_api_ErrTenant), ("conduit/api.ErrID", laid_conduit_api_ErrID), ("conduit/api.ErrLong", laid_conduit_api_ErrLong), ("conduit/api.ErrTwice", laid_conduit_api_ErrTwice), ("conduit/api.ErrFull", laid_conduit_api_ErrFull), ("conduit/api.ErrQuota", laid_conduit_api_ErrQuota), ("conduit/api.ErrRange", laid_conduit_api_ErrRange), ("conduit/api.ErrStale", laid_conduit_api_ErrStale)] }
def BrokenSaid : Prop := brokenRow.holds Tryz.pinned (OpenSpec.ofChange brokenSpec)

/-- ITS FALSE NEIGHBOUR: 'it returns false'. Refute it at one input. -/
def brokenWrong : ChangeSpec := { name := "broken", fn := fun _ => fun
  | [d1, d2] => { results := [.lit (.bool false)], args := [d1, d2] }
  | _ => none }
def BrokenWrongFalsely : Prop := brokenRow.holds Tryz.pinned (OpenSpec.ofChange brokenWrong)

/-- 'conduitkeep.Fair': WHATEVER THE INPUT: true; the input reads as it did. -/
def fairSpec : ChangeSpec := { name := "fair", fn := fun _ => fun
  | [d1, d2] => { results := [.lit (.bool true)], args := [d1, d2] }
  | _ => none }
def fairRow : OpenClaim := { program := "ytojpjaifhjigfaagreatdoor", sum := "ebd1300f6e81213f2b3e7a1225e4259fdf39658960dd89f06b0ced4d50c87048", func := "conduit/conduitkeep.Fair", spec := "fair", inPlace := ["maps.clone"], unfollowed := true, recurses := true, named := ["conduit/api.ErrConfig", "conduit/api.ErrLog", "conduit/api.ErrDestination", "conduit/api.ErrTenant", "conduit/api.ErrID", "conduit/api.ErrLong", "conduit/api.ErrTwice", "conduit/api.ErrFull", "conduit/api.ErrQuota", "conduit/api.ErrRange", "conduit/api.ErrStale"], plainKeys := false, apart := false, laid := [("conduit/api.ErrConfig", laid_conduit_api_ErrConfig), ("conduit/api.ErrLog", laid_conduit_api_ErrLog), ("conduit/api.ErrDestination", laid_conduit_api_ErrDestination), ("conduit/api.ErrTenant", laid_conduit_api_ErrTenant), ("conduit/api.ErrID", laid_conduit_api_ErrID), ("conduit/api.ErrLong", laid_conduit_api_ErrLong), ("conduit/api.ErrTwice", laid_conduit_api_ErrTwice), ("conduit/api.ErrFull", laid_conduit_api_ErrFull), ("conduit/api.ErrQuota", laid_conduit_api_ErrQuota), ("conduit/api.ErrRange", laid_conduit_api_ErrRange), ("conduit/api.ErrStale", laid_conduit_api_ErrStale)] }
def FairSaid : Prop := fairRow.holds Tryz.pinned (OpenSpec.ofChange fairSpec)

/-- ITS FALSE NEIGHBOUR: 'it returns false'. Refute it at one input. -/
def fairWrong : ChangeSpec := { name := "fair", fn := fun _ => fun
  | [d1, d2] => { results := [.lit (.bool false)], args := [d1, d2] }
  | _ => none }
def FairWrongFalsely : Prop := fairRow.holds Tryz.pinned (OpenSpec.ofChange fairWrong)

/-- 'conduitkeep.Again': WHATEVER THE INPUT: true; the input reads as it did. -/
def againSpec : ChangeSpec := { name := "again", fn := fun _ => fun
  | [d1, d2] => { results := [.lit (.bool true)], args := [d1, d2] }
  | _ => none }
def againRow : OpenClaim := { program := "ytojpjaifhjigfaagreatdoor", sum := "ebd1300f6e81213f2b3e7a1225e4259fdf39658960dd89f06b0ced4d50c87048", func := "conduit/conduitkeep.Again", spec := "again", inPlace := ["maps.clone"], unfollowed := true, recurses := true, named := ["conduit/api.ErrConfig", "conduit/api.ErrLog", "conduit/api.ErrDestination", "conduit/api.ErrTenant", "conduit/api.ErrID", "conduit/api.ErrLong", "conduit/api.ErrTwice", "conduit/api.ErrFull", "conduit/api.ErrQuota", "conduit/api.ErrRange", "conduit/api.ErrStale"], plainKeys := false, apart := false, laid := [("conduit/api.ErrConfig", laid_conduit_api_ErrConfig), ("conduit/api.ErrLog", laid_conduit_api_ErrLog), ("conduit/api.ErrDestination", laid_conduit_api_ErrDestination), ("conduit/api.ErrTenant", laid_conduit_api_ErrTenant), ("conduit/api.ErrID", laid_conduit_api_ErrID), ("conduit/api.ErrLong", laid_conduit_api_ErrLong), ("conduit/api.ErrTwice", laid_conduit_api_ErrTwice), ("conduit/api.ErrFull", laid_conduit_api_ErrFull), ("conduit/api.ErrQuota", laid_conduit_api_ErrQuota), ("conduit/api.ErrRange", laid_conduit_api_ErrRange), ("conduit/api.ErrStale", laid_conduit_api_ErrStale)] }
def AgainSaid : Prop := againRow.holds Tryz.pinned (OpenSpec.ofChange againSpec)

/-- ITS FALSE NEIGHBOUR: 'it returns false'. Refute it at one input. -/
def againWrong : ChangeSpec := { name := "again", fn := fun _ => fun
  | [d1, d2] => { results := [.lit (.bool false)], args := [d1, d2] }
  | _ => none }
def AgainWrongFalsely : Prop := againRow.holds Tryz.pinned (OpenSpec.ofChange againWrong)

/- THE SECOND FORM. 'bulk': how many values and letters a reading holds, each counted each time it is reached (what is shared counts as often as it is met; a slice's spare places count too). A statement '..UptoSaid' is the law's where the arguments, and the package variables that the reading takes, are together of bulk at most 1048576: NARROWER than '..Said'. Prove '..Said' where nothing that the law and all that it calls make is longer than what came in: it says more and counts as full. Else prove '..UptoSaid'. A law counts once. -/
mutual
def uptoBulk {H : Type} : DataW H → Nat
  | .lit (.string bytes) => bytes.length + 1
  | .lit _ => 1
  | .nil => 1
  | .ptr d => uptoBulk d + 1
  | .slice elems spare => uptoBulkAll elems + uptoBulkAll spare + 1
  | .agg parts => uptoBulkAll parts + 1
  | .iface _ d => uptoBulk d + 1
  | .map entries => uptoBulkEntries entries + 1
  | .held _ => 1
def uptoBulkAll {H : Type} : List (DataW H) → Nat
  | [] => 0
  | d :: r => uptoBulk d + uptoBulkAll r
def uptoBulkEntries {H : Type} : List (Lit × DataW H) → Nat
  | [] => 0
  | x :: r => uptoBulkEntry x + uptoBulkEntries r
def uptoBulkEntry {H : Type} : Lit × DataW H → Nat
  | (.string bytes, d) => bytes.length + uptoBulk d + 1
  | (_, d) => uptoBulk d + 1
 end
def uptoSmall : (H : Type) → List (DataW H) → Bool := fun _ ds => decide (uptoBulkAll ds ≤ 1048576)
def OpenSpec.upto (s : _root_.Go.ChangeSpec) : _root_.Go.OpenSpec := { _root_.Go.OpenSpec.ofChange s with cond := some uptoSmall }

/-- 'conduitlaw.Opens', WHERE WHAT IT READS IS OF BULK AT MOST 1048576: true; the input reads as it did. -/
def opensUptoRow : OpenClaim := { program := "ytojpjaifhjigfaagreatdoor", sum := "ebd1300f6e81213f2b3e7a1225e4259fdf39658960dd89f06b0ced4d50c87048", func := "conduit/conduitlaw.Opens", spec := "opens", inPlace := ["maps.clone"], unfollowed := true, recurses := true, named := ["conduit/api.ErrConfig", "conduit/api.ErrLog", "conduit/api.ErrDestination", "conduit/api.ErrTenant", "conduit/api.ErrID", "conduit/api.ErrLong", "conduit/api.ErrTwice", "conduit/api.ErrFull", "conduit/api.ErrQuota", "conduit/api.ErrRange", "conduit/api.ErrStale"], maps := true, plainKeys := false, apart := false, laid := [("conduit/api.ErrConfig", laid_conduit_api_ErrConfig), ("conduit/api.ErrLog", laid_conduit_api_ErrLog), ("conduit/api.ErrDestination", laid_conduit_api_ErrDestination), ("conduit/api.ErrTenant", laid_conduit_api_ErrTenant), ("conduit/api.ErrID", laid_conduit_api_ErrID), ("conduit/api.ErrLong", laid_conduit_api_ErrLong), ("conduit/api.ErrTwice", laid_conduit_api_ErrTwice), ("conduit/api.ErrFull", laid_conduit_api_ErrFull), ("conduit/api.ErrQuota", laid_conduit_api_ErrQuota), ("conduit/api.ErrRange", laid_conduit_api_ErrRange), ("conduit/api.ErrStale", laid_conduit_api_ErrStale)], narrowed := true }
def OpensUptoSaid : Prop := opensUptoRow.holds Tryz.pinned (OpenSpec.upto opensSpec)

/-- 'conduitlaw.Taken', WHERE WHAT IT READS IS OF BULK AT MOST 1048576: true; the input reads as it did. -/
def takenUptoRow : OpenClaim := { program := "ytojpjaifhjigfaagreatdoor", sum := "ebd1300f6e81213f2b3e7a1225e4259fdf39658960dd89f06b0ced4d50c87048", func := "conduit/conduitlaw.Taken", spec := "taken", inPlace := ["maps.clone"], unfollowed := true, recurses := true, named := ["conduit/api.ErrConfig", "conduit/api.ErrLog", "conduit/api.ErrDestination", "conduit/api.ErrTenant", "conduit/api.ErrID", "conduit/api.ErrLong", "conduit/api.ErrTwice", "conduit/api.ErrFull", "conduit/api.ErrQuota", "conduit/api.ErrRange", "conduit/api.ErrStale"], maps := true, plainKeys := false, apart := false, laid := [("conduit/api.ErrConfig", laid_conduit_api_ErrConfig), ("conduit/api.ErrLog", laid_conduit_api_ErrLog), ("conduit/api.ErrDestination", laid_conduit_api_ErrDestination), ("conduit/api.ErrTenant", laid_conduit_api_ErrTenant), ("conduit/api.ErrID", laid_conduit_api_ErrID), ("conduit/api.ErrLong", laid_conduit_api_ErrLong), ("conduit/api.ErrTwice", laid_conduit_api_ErrTwice), ("conduit/api.ErrFull", laid_conduit_api_ErrFull), ("conduit/api.ErrQuota", laid_conduit_api_ErrQuota), ("conduit/api.ErrRange", laid_conduit_api_ErrRange), ("conduit/api.ErrStale", laid_conduit_api_ErrStale)], narrowed := true }
def TakenUptoSaid : Prop := takenUptoRow.holds Tryz.pinned (OpenSpec.upto takenSpec)

/-- 'conduitlaw.Sent', WHERE WHAT IT READS IS OF BULK AT MOST 1048576: true; the input reads as it did. -/
def sentUptoRow : OpenClaim := { program := "ytojpjaifhjigfaagreatdoor", sum := "ebd1300f6e81213f2b3e7a1225e4259fdf39658960dd89f06b0ced4d50c87048", func := "conduit/conduitlaw.Sent", spec := "sent", inPlace := ["maps.clone"], unfollowed := true, recurses := true, named := ["conduit/api.ErrConfig", "conduit/api.ErrLog", "conduit/api.ErrDestination", "conduit/api.ErrTenant", "conduit/api.ErrID", "conduit/api.ErrLong", "conduit/api.ErrTwice", "conduit/api.ErrFull", "conduit/api.ErrQuota", "conduit/api.ErrRange", "conduit/api.ErrStale"], maps := true, plainKeys := false, apart := false, laid := [("conduit/api.ErrConfig", laid_conduit_api_ErrConfig), ("conduit/api.ErrLog", laid_conduit_api_ErrLog), ("conduit/api.ErrDestination", laid_conduit_api_ErrDestination), ("conduit/api.ErrTenant", laid_conduit_api_ErrTenant), ("conduit/api.ErrID", laid_conduit_api_ErrID), ("conduit/api.ErrLong", laid_conduit_api_ErrLong), ("conduit/api.ErrTwice", laid_conduit_api_ErrTwice), ("conduit/api.ErrFull", laid_conduit_api_ErrFull), ("conduit/api.ErrQuota", laid_conduit_api_ErrQuota), ("conduit/api.ErrRange", laid_conduit_api_ErrRange), ("conduit/api.ErrStale", laid_conduit_api_ErrStale)], narrowed := true }
def SentUptoSaid : Prop := sentUptoRow.holds Tryz.pinned (OpenSpec.upto sentSpec)

/-- 'conduitlaw.All', WHERE WHAT IT READS IS OF BULK AT MOST 1048576: true; the input reads as it did. -/
def allUptoRow : OpenClaim := { program := "ytojpjaifhjigfaagreatdoor", sum := "ebd1300f6e81213f2b3e7a1225e4259fdf39658960dd89f06b0ced4d50c87048", func := "conduit/conduitlaw.All", spec := "all", inPlace := ["maps.clone"], unfollowed := true, recurses := true, named := ["conduit/api.ErrConfig", "conduit/api.ErrLog", "conduit/api.ErrDestination", "conduit/api.ErrTenant", "conduit/api.ErrID", "conduit/api.ErrLong", "conduit/api.ErrTwice", "conduit/api.ErrFull", "conduit/api.ErrQuota", "conduit/api.ErrRange", "conduit/api.ErrStale"], maps := true, plainKeys := false, apart := false, laid := [("conduit/api.ErrConfig", laid_conduit_api_ErrConfig), ("conduit/api.ErrLog", laid_conduit_api_ErrLog), ("conduit/api.ErrDestination", laid_conduit_api_ErrDestination), ("conduit/api.ErrTenant", laid_conduit_api_ErrTenant), ("conduit/api.ErrID", laid_conduit_api_ErrID), ("conduit/api.ErrLong", laid_conduit_api_ErrLong), ("conduit/api.ErrTwice", laid_conduit_api_ErrTwice), ("conduit/api.ErrFull", laid_conduit_api_ErrFull), ("conduit/api.ErrQuota", laid_conduit_api_ErrQuota), ("conduit/api.ErrRange", laid_conduit_api_ErrRange), ("conduit/api.ErrStale", laid_conduit_api_ErrStale)], narrowed := true }
def AllUptoSaid : Prop := allUptoRow.holds Tryz.pinned (OpenSpec.upto allSpec)

/-- 'conduitkeep.Kept', WHERE WHAT IT READS IS OF BULK AT MOST 1048576: true; the input reads as it did. -/
def keptUptoRow : OpenClaim := { program := "ytojpjaifhjigfaagreatdoor", sum := "ebd1300f6e81213f2b3e7a1225e4259fdf39658960dd89f06b0ced4d50c87048", func := "conduit/conduitkeep.Kept", spec := "kept", inPlace := ["maps.clone"], unfollowed := true, recurses := true, named := ["conduit/api.ErrConfig", "conduit/api.ErrLog", "conduit/api.ErrDestination", "conduit/api.ErrTenant", "conduit/api.ErrID", "conduit/api.ErrLong", "conduit/api.ErrTwice", "conduit/api.ErrFull", "conduit/api.ErrQuota", "conduit/api.ErrRange", "conduit/api.ErrStale"], plainKeys := false, apart := false, laid := [("conduit/api.ErrConfig", laid_conduit_api_ErrConfig), ("conduit/api.ErrLog", laid_conduit_api_ErrLog), ("conduit/api.ErrDestination", laid_conduit_api_ErrDestination), ("conduit/api.ErrTenant", laid_conduit_api_ErrTenant), ("conduit/api.ErrID", laid_conduit_api_ErrID), ("conduit/api.ErrLong", laid_conduit_api_ErrLong), ("conduit/api.ErrTwice", laid_conduit_api_ErrTwice), ("conduit/api.ErrFull", laid_conduit_api_ErrFull), ("conduit/api.ErrQuota", laid_conduit_api_ErrQuota), ("conduit/api.ErrRange", laid_conduit_api_ErrRange), ("conduit/api.ErrStale", laid_conduit_api_ErrStale)], narrowed := true }
def KeptUptoSaid : Prop := keptUptoRow.holds Tryz.pinned (OpenSpec.upto keptSpec)

/-- 'conduitkeep.Right', WHERE WHAT IT READS IS OF BULK AT MOST 1048576: true; the input reads as it did. -/
def rightUptoRow : OpenClaim := { program := "ytojpjaifhjigfaagreatdoor", sum := "ebd1300f6e81213f2b3e7a1225e4259fdf39658960dd89f06b0ced4d50c87048", func := "conduit/conduitkeep.Right", spec := "right", inPlace := ["maps.clone"], unfollowed := true, recurses := true, named := ["conduit/api.ErrConfig", "conduit/api.ErrLog", "conduit/api.ErrDestination", "conduit/api.ErrTenant", "conduit/api.ErrID", "conduit/api.ErrLong", "conduit/api.ErrTwice", "conduit/api.ErrFull", "conduit/api.ErrQuota", "conduit/api.ErrRange", "conduit/api.ErrStale"], plainKeys := false, apart := false, laid := [("conduit/api.ErrConfig", laid_conduit_api_ErrConfig), ("conduit/api.ErrLog", laid_conduit_api_ErrLog), ("conduit/api.ErrDestination", laid_conduit_api_ErrDestination), ("conduit/api.ErrTenant", laid_conduit_api_ErrTenant), ("conduit/api.ErrID", laid_conduit_api_ErrID), ("conduit/api.ErrLong", laid_conduit_api_ErrLong), ("conduit/api.ErrTwice", laid_conduit_api_ErrTwice), ("conduit/api.ErrFull", laid_conduit_api_ErrFull), ("conduit/api.ErrQuota", laid_conduit_api_ErrQuota), ("conduit/api.ErrRange", laid_conduit_api_ErrRange), ("conduit/api.ErrStale", laid_conduit_api_ErrStale)], narrowed := true }
def RightUptoSaid : Prop := rightUptoRow.holds Tryz.pinned (OpenSpec.upto rightSpec)

/-- 'conduitkeep.Lively', WHERE WHAT IT READS IS OF BULK AT MOST 1048576: true; the input reads as it did. -/
def livelyUptoRow : OpenClaim := { program := "ytojpjaifhjigfaagreatdoor", sum := "ebd1300f6e81213f2b3e7a1225e4259fdf39658960dd89f06b0ced4d50c87048", func := "conduit/conduitkeep.Lively", spec := "lively", inPlace := ["maps.clone"], unfollowed := true, recurses := true, named := ["conduit/api.ErrConfig", "conduit/api.ErrLog", "conduit/api.ErrDestination", "conduit/api.ErrTenant", "conduit/api.ErrID", "conduit/api.ErrLong", "conduit/api.ErrTwice", "conduit/api.ErrFull", "conduit/api.ErrQuota", "conduit/api.ErrRange", "conduit/api.ErrStale"], plainKeys := false, apart := false, laid := [("conduit/api.ErrConfig", laid_conduit_api_ErrConfig), ("conduit/api.ErrLog", laid_conduit_api_ErrLog), ("conduit/api.ErrDestination", laid_conduit_api_ErrDestination), ("conduit/api.ErrTenant", laid_conduit_api_ErrTenant), ("conduit/api.ErrID", laid_conduit_api_ErrID), ("conduit/api.ErrLong", laid_conduit_api_ErrLong), ("conduit/api.ErrTwice", laid_conduit_api_ErrTwice), ("conduit/api.ErrFull", laid_conduit_api_ErrFull), ("conduit/api.ErrQuota", laid_conduit_api_ErrQuota), ("conduit/api.ErrRange", laid_conduit_api_ErrRange), ("conduit/api.ErrStale", laid_conduit_api_ErrStale)], narrowed := true }
def LivelyUptoSaid : Prop := livelyUptoRow.holds Tryz.pinned (OpenSpec.upto livelySpec)

/-- 'conduitkeep.Tried', WHERE WHAT IT READS IS OF BULK AT MOST 1048576: true; the input reads as it did. -/
def triedUptoRow : OpenClaim := { program := "ytojpjaifhjigfaagreatdoor", sum := "ebd1300f6e81213f2b3e7a1225e4259fdf39658960dd89f06b0ced4d50c87048", func := "conduit/conduitkeep.Tried", spec := "tried", inPlace := ["maps.clone"], unfollowed := true, recurses := true, named := ["conduit/api.ErrConfig", "conduit/api.ErrLog", "conduit/api.ErrDestination", "conduit/api.ErrTenant", "conduit/api.ErrID", "conduit/api.ErrLong", "conduit/api.ErrTwice", "conduit/api.ErrFull", "conduit/api.ErrQuota", "conduit/api.ErrRange", "conduit/api.ErrStale"], plainKeys := false, apart := false, laid := [("conduit/api.ErrConfig", laid_conduit_api_ErrConfig), ("conduit/api.ErrLog", laid_conduit_api_ErrLog), ("conduit/api.ErrDestination", laid_conduit_api_ErrDestination), ("conduit/api.ErrTenant", laid_conduit_api_ErrTenant), ("conduit/api.ErrID", laid_conduit_api_ErrID), ("conduit/api.ErrLong", laid_conduit_api_ErrLong), ("conduit/api.ErrTwice", laid_conduit_api_ErrTwice), ("conduit/api.ErrFull", laid_conduit_api_ErrFull), ("conduit/api.ErrQuota", laid_conduit_api_ErrQuota), ("conduit/api.ErrRange", laid_conduit_api_ErrRange), ("conduit/api.ErrStale", laid_conduit_api_ErrStale)], narrowed := true }
def TriedUptoSaid : Prop := triedUptoRow.holds Tryz.pinned (OpenSpec.upto triedSpec)

/-- 'conduitkeep.Broken', WHERE WHAT IT READS IS OF BULK AT MOST 1048576: true; the input reads as it did. -/
def brokenUptoRow : OpenClaim := { program := "ytojpjaifhjigfaagreatdoor", sum := "ebd1300f6e81213f2b3e7a1225e4259fdf39658960dd89f06b0ced4d50c87048", func := "conduit/conduitkeep.Broken", spec := "broken", inPlace := ["maps.clone"], unfollowed := true, recurses := true, named := ["conduit/api.ErrConfig", "conduit/api.ErrLog", "conduit/api.ErrDestination", "conduit/api.ErrTenant", "conduit/api.ErrID", "conduit/api.ErrLong", "conduit/api.ErrTwice", "conduit/api.ErrFull", "conduit/api.ErrQuota", "conduit/api.ErrRange", "conduit/api.ErrStale"], plainKeys := false, apart := false, laid := [("conduit/api.ErrConfig", laid_conduit_api_ErrConfig), ("conduit/api.ErrLog", laid_conduit_api_ErrLog), ("conduit/api.ErrDestination", laid_conduit_api_ErrDestination), ("conduit/api.ErrTenant", laid_conduit_api_ErrTenant), ("conduit/api.ErrID", laid_conduit_api_ErrID), ("conduit/api.ErrLong", laid_conduit_api_ErrLong), ("conduit/api.ErrTwice", laid_conduit_api_ErrTwice), ("conduit/api.ErrFull", laid_conduit_api_ErrFull), ("conduit/api.ErrQuota", laid_conduit_api_ErrQuota), ("conduit/api.ErrRange", laid_conduit_api_ErrRange), ("conduit/api.ErrStale", laid_conduit_api_ErrStale)], narrowed := true }
def BrokenUptoSaid : Prop := brokenUptoRow.holds Tryz.pinned (OpenSpec.upto brokenSpec)

/-- 'conduitkeep.Fair', WHERE WHAT IT READS IS OF BULK AT MOST 1048576: true; the input reads as it did. -/
def fairUptoRow : OpenClaim := { program := "ytojpjaifhjigfaagreatdoor", sum := "ebd1300f6e81213f2b3e7a1225e4259fdf39658960dd89f06b0ced4d50c87048", func := "conduit/conduitkeep.Fair", spec := "fair", inPlace := ["maps.clone"], unfollowed := true, recurses := true, named := ["conduit/api.ErrConfig", "conduit/api.ErrLog", "conduit/api.ErrDestination", "conduit/api.ErrTenant", "conduit/api.ErrID", "conduit/api.ErrLong", "conduit/api.ErrTwice", "conduit/api.ErrFull", "conduit/api.ErrQuota", "conduit/api.ErrRange", "conduit/api.ErrStale"], plainKeys := false, apart := false, laid := [("conduit/api.ErrConfig", laid_conduit_api_ErrConfig), ("conduit/api.ErrLog", laid_conduit_api_ErrLog), ("conduit/api.ErrDestination", laid_conduit_api_ErrDestination), ("conduit/api.ErrTenant", laid_conduit_api_ErrTenant), ("conduit/api.ErrID", laid_conduit_api_ErrID), ("conduit/api.ErrLong", laid_conduit_api_ErrLong), ("conduit/api.ErrTwice", laid_conduit_api_ErrTwice), ("conduit/api.ErrFull", laid_conduit_api_ErrFull), ("conduit/api.ErrQuota", laid_conduit_api_ErrQuota), ("conduit/api.ErrRange", laid_conduit_api_ErrRange), ("conduit/api.ErrStale", laid_conduit_api_ErrStale)], narrowed := true }
def FairUptoSaid : Prop := fairUptoRow.holds Tryz.pinned (OpenSpec.upto fairSpec)

/-- 'conduitkeep.Again', WHERE WHAT IT READS IS OF BULK AT MOST 1048576: true; the input reads as it did. -/
def againUptoRow : OpenClaim := { program := "ytojpjaifhjigfaagreatdoor", sum := "ebd1300f6e81213f2b3e7a1225e4259fdf39658960dd89f06b0ced4d50c87048", func := "conduit/conduitkeep.Again", spec := "again", inPlace := ["maps.clone"], unfollowed := true, recurses := true, named := ["conduit/api.ErrConfig", "conduit/api.ErrLog", "conduit/api.ErrDestination", "conduit/api.ErrTenant", "conduit/api.ErrID", "conduit/api.ErrLong", "conduit/api.ErrTwice", "conduit/api.ErrFull", "conduit/api.ErrQuota", "conduit/api.ErrRange", "conduit/api.ErrStale"], plainKeys := false, apart := false, laid := [("conduit/api.ErrConfig", laid_conduit_api_ErrConfig), ("conduit/api.ErrLog", laid_conduit_api_ErrLog), ("conduit/api.ErrDestination", laid_conduit_api_ErrDestination), ("conduit/api.ErrTenant", laid_conduit_api_ErrTenant), ("conduit/api.ErrID", laid_conduit_api_ErrID), ("conduit/api.ErrLong", laid_conduit_api_ErrLong), ("conduit/api.ErrTwice", laid_conduit_api_ErrTwice), ("conduit/api.ErrFull", laid_conduit_api_ErrFull), ("conduit/api.ErrQuota", laid_conduit_api_ErrQuota), ("conduit/api.ErrRange", laid_conduit_api_ErrRange), ("conduit/api.ErrStale", laid_conduit_api_ErrStale)], narrowed := true }
def AgainUptoSaid : Prop := againUptoRow.holds Tryz.pinned (OpenSpec.upto againSpec)

end Rows
end Go.Proofs.YtojpjaifhjigfaaGreatDoor
