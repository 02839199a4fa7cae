/-
  NARROWER THAN 'FOR EVERY INPUT', by the rows' own cells (each row's printed sentence says how): Named: laid · Ahead: laid.
  DERIVED. THE GIVEN ROWS OF THIS SEAT. 2 by the template 'for every input the law returns true; each argument reads behind the call as it read before'; 0 by the template 'total and deterministic' (their statements: YtojpjaifhjigfabGreatDoorTotals.lean).
  GIVEN WITH THE SEED: the statements are not yours to turn. If you find one false, say at which input.
  Laid BY PROGRAM, IN A SANDBOX (cutbox-rows.mjs): the forced cells as the released guide's own fill.sh prints them over the translation f346e65c336118ce… (all of the seat's roots in one cut). By AI agents, Wed Nov 11 2026. No macro, syntax, notation, axiom, sorry.
-/
import Derived.Test.YtojpjaifhjigfabGreatDoorChecked
import GoSem.Claim
import GoSem.ClaimJoined
import GoSem.ClaimMapViews
import Derived.JoinedTies
import Derived.KernelRfl
namespace Go.Proofs.YtojpjaifhjigfabGreatDoor
/- THE CELL 'sum', in the pinned program and in every row, IS THE sha256 OF THE DUMP (.gsa) THAT YtojpjaifhjigfabGreatDoorProg.lean LOADS. Nothing in Lean hashes anything: it is a label: what it is worth is what the hold of that sum in a sandbox is worth. -/
noncomputable def Tryz.pinned : Pinned := { name := "ytojpjaifhjigfabgreatdoor", sum := "f346e65c336118cea6211359d53f9d75e214d12d01700714fddde64443932b28", checked := Tryz.checked }
namespace Rows
def none {H : Type} : Left H := { results := [], args := [] }

/- WHAT THE LISTED PACKAGE-LEVEL VARIABLES READ AS WHEN THE CALL BEGINS. Each datum BY PROGRAM (the guide's laid-datum.mjs) off the statement by which the dump's own 'gosem.cut.vars' lays the variable. In a bare row this is a premise. The card (YtojpjaifhjigfabGreatDoorCards.lean) ties it to the program's text. -/
def laid_conduit_api_ErrConfig {H : Type} : DataW H := .iface "*errors.errorString" (.ptr (.agg [.lit (.string [97, 32, 99, 111, 110, 102, 105, 103, 117, 114, 97, 116, 105, 111, 110, 32, 116, 104, 97, 116, 32, 105, 115, 32, 110, 111, 110, 101])]))
def laid_conduit_api_ErrLog {H : Type} : DataW H := .iface "*errors.errorString" (.ptr (.agg [.lit (.string [98, 121, 116, 101, 115, 32, 116, 104, 97, 116, 32, 97, 114, 101, 32, 110, 111, 32, 108, 111, 103])]))
def laid_conduit_api_ErrDestination {H : Type} : DataW H := .iface "*errors.errorString" (.ptr (.agg [.lit (.string [97, 32, 100, 101, 115, 116, 105, 110, 97, 116, 105, 111, 110, 32, 116, 104, 97, 116, 32, 116, 104, 101, 114, 101, 32, 105, 115, 32, 110, 111, 116])]))
def laid_conduit_api_ErrTenant {H : Type} : DataW H := .iface "*errors.errorString" (.ptr (.agg [.lit (.string [97, 32, 116, 101, 110, 97, 110, 116, 32, 116, 104, 97, 116, 32, 116, 104, 101, 114, 101, 32, 105, 115, 32, 110, 111, 116])]))
def laid_conduit_api_ErrID {H : Type} : DataW H := .iface "*errors.errorString" (.ptr (.agg [.lit (.string [97, 110, 32, 105, 100, 32, 116, 104, 97, 116, 32, 105, 115, 32, 110, 111, 110, 101, 44, 32, 111, 114, 32, 116, 104, 97, 116, 32, 116, 104, 101, 114, 101, 32, 105, 115, 32, 110, 111, 116])]))
def laid_conduit_api_ErrLong {H : Type} : DataW H := .iface "*errors.errorString" (.ptr (.agg [.lit (.string [97, 32, 98, 111, 100, 121, 32, 116, 104, 97, 116, 32, 105, 115, 32, 116, 111, 111, 32, 108, 111, 110, 103])]))
def laid_conduit_api_ErrTwice {H : Type} : DataW H := .iface "*errors.errorString" (.ptr (.agg [.lit (.string [97, 110, 32, 105, 100, 32, 116, 104, 97, 116, 32, 119, 97, 115, 32, 116, 97, 107, 101, 110, 32, 97, 108, 114, 101, 97, 100, 121])]))
def laid_conduit_api_ErrFull {H : Type} : DataW H := .iface "*errors.errorString" (.ptr (.agg [.lit (.string [116, 111, 111, 32, 109, 97, 110, 121, 32, 105, 100, 115])]))
def laid_conduit_api_ErrQuota {H : Type} : DataW H := .iface "*errors.errorString" (.ptr (.agg [.lit (.string [116, 111, 111, 32, 109, 117, 99, 104, 32, 116, 104, 97, 116, 32, 105, 115, 32, 112, 101, 110, 100, 105, 110, 103])]))
def laid_conduit_api_ErrRange {H : Type} : DataW H := .iface "*errors.errorString" (.ptr (.agg [.lit (.string [97, 32, 110, 117, 109, 98, 101, 114, 32, 116, 104, 97, 116, 32, 99, 97, 110, 110, 111, 116, 32, 98, 101])]))
def laid_conduit_api_ErrStale {H : Type} : DataW H := .iface "*errors.errorString" (.ptr (.agg [.lit (.string [97, 32, 115, 101, 110, 100, 32, 116, 104, 97, 116, 32, 105, 115, 32, 110, 111, 116, 32, 117, 110, 100, 101, 114, 32, 119, 97, 121])]))

/-- 'conduitkeep.Named': WHATEVER THE INPUT: true; the input reads as it did. -/
def namedSpec : ChangeSpec := { name := "named", fn := fun _ => fun
  | [d1, d2, d3] => { results := [.lit (.bool true)], args := [d1, d2, d3] }
  | _ => none }
def namedRow : OpenClaim := { program := "ytojpjaifhjigfabgreatdoor", sum := "f346e65c336118cea6211359d53f9d75e214d12d01700714fddde64443932b28", func := "conduit/conduitkeep.Named", spec := "named", inPlace := ["maps.clone"], unfollowed := true, recurses := true, named := ["conduit/api.ErrConfig", "conduit/api.ErrLog", "conduit/api.ErrDestination", "conduit/api.ErrTenant", "conduit/api.ErrID", "conduit/api.ErrLong", "conduit/api.ErrTwice", "conduit/api.ErrFull", "conduit/api.ErrQuota", "conduit/api.ErrRange", "conduit/api.ErrStale"], plainKeys := false, apart := false, laid := [("conduit/api.ErrConfig", laid_conduit_api_ErrConfig), ("conduit/api.ErrLog", laid_conduit_api_ErrLog), ("conduit/api.ErrDestination", laid_conduit_api_ErrDestination), ("conduit/api.ErrTenant", laid_conduit_api_ErrTenant), ("conduit/api.ErrID", laid_conduit_api_ErrID), ("conduit/api.ErrLong", laid_conduit_api_ErrLong), ("conduit/api.ErrTwice", laid_conduit_api_ErrTwice), ("conduit/api.ErrFull", laid_conduit_api_ErrFull), ("conduit/api.ErrQuota", laid_conduit_api_ErrQuota), ("conduit/api.ErrRange", laid_conduit_api_ErrRange), ("conduit/api.ErrStale", laid_conduit_api_ErrStale)] }
def NamedSaid : Prop := namedRow.holds Tryz.pinned (OpenSpec.ofChange namedSpec)

/-- ITS FALSE NEIGHBOUR: 'it returns false'. Refute it at one input. -/
def namedWrong : ChangeSpec := { name := "named", fn := fun _ => fun
  | [d1, d2, d3] => { results := [.lit (.bool false)], args := [d1, d2, d3] }
  | _ => none }
def NamedWrongFalsely : Prop := namedRow.holds Tryz.pinned (OpenSpec.ofChange namedWrong)

/-- 'conduitkeep.Ahead': WHATEVER THE INPUT: true; the input reads as it did. -/
def aheadSpec : ChangeSpec := { name := "ahead", fn := fun _ => fun
  | [d1, d2, d3, d4] => { results := [.lit (.bool true)], args := [d1, d2, d3, d4] }
  | _ => none }
def aheadRow : OpenClaim := { program := "ytojpjaifhjigfabgreatdoor", sum := "f346e65c336118cea6211359d53f9d75e214d12d01700714fddde64443932b28", func := "conduit/conduitkeep.Ahead", spec := "ahead", inPlace := ["maps.clone"], unfollowed := true, recurses := true, named := ["conduit/api.ErrLog", "conduit/api.ErrConfig", "conduit/api.ErrDestination", "conduit/api.ErrTenant", "conduit/api.ErrID", "conduit/api.ErrLong", "conduit/api.ErrTwice", "conduit/api.ErrFull", "conduit/api.ErrQuota", "conduit/api.ErrRange", "conduit/api.ErrStale"], plainKeys := false, apart := false, laid := [("conduit/api.ErrConfig", laid_conduit_api_ErrConfig), ("conduit/api.ErrLog", laid_conduit_api_ErrLog), ("conduit/api.ErrDestination", laid_conduit_api_ErrDestination), ("conduit/api.ErrTenant", laid_conduit_api_ErrTenant), ("conduit/api.ErrID", laid_conduit_api_ErrID), ("conduit/api.ErrLong", laid_conduit_api_ErrLong), ("conduit/api.ErrTwice", laid_conduit_api_ErrTwice), ("conduit/api.ErrFull", laid_conduit_api_ErrFull), ("conduit/api.ErrQuota", laid_conduit_api_ErrQuota), ("conduit/api.ErrRange", laid_conduit_api_ErrRange), ("conduit/api.ErrStale", laid_conduit_api_ErrStale)] }
def AheadSaid : Prop := aheadRow.holds Tryz.pinned (OpenSpec.ofChange aheadSpec)

/-- ITS FALSE NEIGHBOUR: 'it returns false'. Refute it at one input. -/
def aheadWrong : ChangeSpec := { name := "ahead", fn := fun _ => fun
  | [d1, d2, d3, d4] => { results := [.lit (.bool false)], args := [d1, d2, d3, d4] }
  | _ => none }
def AheadWrongFalsely : Prop := aheadRow.holds Tryz.pinned (OpenSpec.ofChange aheadWrong)

/- THE SECOND FORM. 'bulk': how many values and letters a reading holds, each counted each time it is reached (what is shared counts as often as it is met; a slice's spare places count too). A statement '..UptoSaid' is the law's where the arguments, and the package variables that the reading takes, are together of bulk at most 1048576: NARROWER than '..Said'. Prove '..Said' where nothing that the law and all that it calls make is longer than what came in: it says more and counts as full. Else prove '..UptoSaid'. A law counts once. -/
mutual
def uptoBulk {H : Type} : DataW H → Nat
  | .lit (.string bytes) => bytes.length + 1
  | .lit _ => 1
  | .nil => 1
  | .ptr d => uptoBulk d + 1
  | .slice elems spare => uptoBulkAll elems + uptoBulkAll spare + 1
  | .agg parts => uptoBulkAll parts + 1
  | .iface _ d => uptoBulk d + 1
  | .map entries => uptoBulkEntries entries + 1
  | .held _ => 1
def uptoBulkAll {H : Type} : List (DataW H) → Nat
  | [] => 0
  | d :: r => uptoBulk d + uptoBulkAll r
def uptoBulkEntries {H : Type} : List (Lit × DataW H) → Nat
  | [] => 0
  | x :: r => uptoBulkEntry x + uptoBulkEntries r
def uptoBulkEntry {H : Type} : Lit × DataW H → Nat
  | (.string bytes, d) => bytes.length + uptoBulk d + 1
  | (_, d) => uptoBulk d + 1
 end
def uptoSmall : (H : Type) → List (DataW H) → Bool := fun _ ds => decide (uptoBulkAll ds ≤ 1048576)
def OpenSpec.upto (s : _root_.Go.ChangeSpec) : _root_.Go.OpenSpec := { _root_.Go.OpenSpec.ofChange s with cond := some uptoSmall }

/-- 'conduitkeep.Named', WHERE WHAT IT READS IS OF BULK AT MOST 1048576: true; the input reads as it did. -/
def namedUptoRow : OpenClaim := { program := "ytojpjaifhjigfabgreatdoor", sum := "f346e65c336118cea6211359d53f9d75e214d12d01700714fddde64443932b28", func := "conduit/conduitkeep.Named", spec := "named", inPlace := ["maps.clone"], unfollowed := true, recurses := true, named := ["conduit/api.ErrConfig", "conduit/api.ErrLog", "conduit/api.ErrDestination", "conduit/api.ErrTenant", "conduit/api.ErrID", "conduit/api.ErrLong", "conduit/api.ErrTwice", "conduit/api.ErrFull", "conduit/api.ErrQuota", "conduit/api.ErrRange", "conduit/api.ErrStale"], plainKeys := false, apart := false, laid := [("conduit/api.ErrConfig", laid_conduit_api_ErrConfig), ("conduit/api.ErrLog", laid_conduit_api_ErrLog), ("conduit/api.ErrDestination", laid_conduit_api_ErrDestination), ("conduit/api.ErrTenant", laid_conduit_api_ErrTenant), ("conduit/api.ErrID", laid_conduit_api_ErrID), ("conduit/api.ErrLong", laid_conduit_api_ErrLong), ("conduit/api.ErrTwice", laid_conduit_api_ErrTwice), ("conduit/api.ErrFull", laid_conduit_api_ErrFull), ("conduit/api.ErrQuota", laid_conduit_api_ErrQuota), ("conduit/api.ErrRange", laid_conduit_api_ErrRange), ("conduit/api.ErrStale", laid_conduit_api_ErrStale)], narrowed := true }
def NamedUptoSaid : Prop := namedUptoRow.holds Tryz.pinned (OpenSpec.upto namedSpec)

/-- 'conduitkeep.Ahead', WHERE WHAT IT READS IS OF BULK AT MOST 1048576: true; the input reads as it did. -/
def aheadUptoRow : OpenClaim := { program := "ytojpjaifhjigfabgreatdoor", sum := "f346e65c336118cea6211359d53f9d75e214d12d01700714fddde64443932b28", func := "conduit/conduitkeep.Ahead", spec := "ahead", inPlace := ["maps.clone"], unfollowed := true, recurses := true, named := ["conduit/api.ErrLog", "conduit/api.ErrConfig", "conduit/api.ErrDestination", "conduit/api.ErrTenant", "conduit/api.ErrID", "conduit/api.ErrLong", "conduit/api.ErrTwice", "conduit/api.ErrFull", "conduit/api.ErrQuota", "conduit/api.ErrRange", "conduit/api.ErrStale"], plainKeys := false, apart := false, laid := [("conduit/api.ErrConfig", laid_conduit_api_ErrConfig), ("conduit/api.ErrLog", laid_conduit_api_ErrLog), ("conduit/api.ErrDestination", laid_conduit_api_ErrDestination), ("conduit/api.ErrTenant", laid_conduit_api_ErrTenant), ("conduit/api.ErrID", laid_conduit_api_ErrID), ("conduit/api.ErrLong", laid_conduit_api_ErrLong), ("conduit/api.ErrTwice", laid_conduit_api_ErrTwice), ("conduit/api.ErrFull", laid_conduit_api_ErrFull), ("conduit/api.ErrQuota", laid_conduit_api_ErrQuota), ("conduit/api.ErrRange", laid_conduit_api_ErrRange), ("conduit/api.ErrStale", laid_conduit_api_ErrStale)], narrowed := true }
def AheadUptoSaid : Prop := aheadUptoRow.holds Tryz.pinned (OpenSpec.upto aheadSpec)

end Rows
end Go.Proofs.YtojpjaifhjigfabGreatDoor
