/-
  NARROWER THAN 'FOR EVERY INPUT', by the rows' own cells (each row's printed sentence says how): Checks: laid · Explains: laid · Runs: laid · Fuel: laid · Sorts: laid · Packs: laid · Unpacks: laid · Bursts: laid.
  DERIVED. THE GIVEN ROWS OF THIS SEAT. 8 by the template 'for every input the law returns true; each argument reads behind the call as it read before'; 0 by the template 'total and deterministic' (their statements: YtbmaiioecnmopaaDoorTotals.lean).
  GIVEN WITH THE SEED: the statements are not yours to turn. If you find one false, say at which input.
  Laid BY PROGRAM, IN A SANDBOX (cutbox-rows.mjs): the forced cells as the released guide's own fill.sh prints them over the translation e9c9e7d93152ace9… (all of the seat's roots in one cut). By AI agents, Wed Nov 11 2026. No macro, syntax, notation, axiom, sorry.
-/
import Derived.Test.YtbmaiioecnmopaaDoorChecked
import GoSem.Claim
import GoSem.ClaimJoined
import GoSem.ClaimMapViews
import Derived.JoinedTies
import Derived.KernelRfl
namespace Go.Proofs.YtbmaiioecnmopaaDoor
/- THE CELL 'sum', in the pinned program and in every row, IS THE sha256 OF THE DUMP (.gsa) THAT YtbmaiioecnmopaaDoorProg.lean LOADS. Nothing in Lean hashes anything: it is a label: what it is worth is what the hold of that sum in a sandbox is worth. -/
noncomputable def Tryd.pinned : Pinned := { name := "ytbmaiioecnmopaadoor", sum := "e9c9e7d93152ace9ea607b6f8c71db7da5ca37ce021c26637d1bd7088e7de081", checked := Tryd.checked }
namespace Rows
def none {H : Type} : Left H := { results := [], args := [] }

/- WHAT THE LISTED PACKAGE-LEVEL VARIABLES READ AS WHEN THE CALL BEGINS. Each datum BY PROGRAM (the guide's laid-datum.mjs) off the statement by which the dump's own 'gosem.cut.vars' lays the variable. In a bare row this is a premise. The card (YtbmaiioecnmopaaDoorCards.lean) ties it to the program's text. -/
def laid_errors_errorType {H : Type} : DataW H := .iface "internal/reflectlite.rtype" (.agg [.ptr (.lit (.string [101, 114, 114, 111, 114]))])
def laid_triage_triage_Broken {H : Type} : DataW H := .iface "*errors.errorString" (.ptr (.agg [.lit (.string [116, 114, 105, 97, 103, 101, 58, 32, 97, 32, 98, 114, 111, 107, 101, 110, 32, 105, 109, 97, 103, 101])]))
def laid_triage_triage_traits {H : Type} : DataW H := .agg [.agg [.lit (.int .i64 0), .lit (.int .i64 1)], .agg [.lit (.int .i64 0), .lit (.int .i64 2)], .agg [.lit (.int .i64 1), .lit (.int .i64 1)], .agg [.lit (.int .i64 1), .lit (.int .i64 1)], .agg [.lit (.int .i64 2), .lit (.int .i64 1)], .agg [.lit (.int .i64 2), .lit (.int .i64 1)], .agg [.lit (.int .i64 2), .lit (.int .i64 1)], .agg [.lit (.int .i64 2), .lit (.int .i64 1)], .agg [.lit (.int .i64 2), .lit (.int .i64 1)], .agg [.lit (.int .i64 2), .lit (.int .i64 1)], .agg [.lit (.int .i64 0), .lit (.int .i64 2)], .agg [.lit (.int .i64 1), .lit (.int .i64 2)], .agg [.lit (.int .i64 0), .lit (.int .i64 2)], .agg [.lit (.int .i64 0), .lit (.int .i64 1)], .agg [.lit (.int .i64 0), .lit (.int .i64 1)], .agg [.lit (.int .i64 1), .lit (.int .i64 1)], .agg [.lit (.int .i64 2), .lit (.int .i64 1)], .agg [.lit (.int .i64 0), .lit (.int .i64 1)]]

/-- 'triagelaw.Checks': WHATEVER THE INPUT: true; the input reads as it did. -/
def checksSpec : ChangeSpec := { name := "checks", fn := fun _ => fun
  | [d] => { results := [.lit (.bool true)], args := [d] }
  | _ => none }
def checksRow : OpenClaim := { program := "ytbmaiioecnmopaadoor", sum := "e9c9e7d93152ace9ea607b6f8c71db7da5ca37ce021c26637d1bd7088e7de081", func := "triage/triagelaw.Checks", spec := "checks", inPlace := ["internal/reflectlite.TypeOf", "internal/reflectlite.ValueOf", "(internal/reflectlite.Value).Type", "(internal/reflectlite.Value).IsNil", "(internal/reflectlite.Value).Elem", "(internal/reflectlite.Value).Set"], unfollowed := true, recurses := true, named := ["triage/triage.traits", "triage/triage.Broken", "errors.errorType"], plainKeys := false, apart := false, laid := [("errors.errorType", laid_errors_errorType), ("triage/triage.Broken", laid_triage_triage_Broken), ("triage/triage.traits", laid_triage_triage_traits)] }
def ChecksSaid : Prop := checksRow.holds Tryd.pinned (OpenSpec.ofChange checksSpec)

/-- ITS FALSE NEIGHBOUR: 'it returns false'. Refute it at one input. -/
def checksWrong : ChangeSpec := { name := "checks", fn := fun _ => fun
  | [d] => { results := [.lit (.bool false)], args := [d] }
  | _ => none }
def ChecksWrongFalsely : Prop := checksRow.holds Tryd.pinned (OpenSpec.ofChange checksWrong)

/-- 'triagelaw.Explains': WHATEVER THE INPUT: true; the input reads as it did. -/
def explainsSpec : ChangeSpec := { name := "explains", fn := fun _ => fun
  | [d] => { results := [.lit (.bool true)], args := [d] }
  | _ => none }
def explainsRow : OpenClaim := { program := "ytbmaiioecnmopaadoor", sum := "e9c9e7d93152ace9ea607b6f8c71db7da5ca37ce021c26637d1bd7088e7de081", func := "triage/triagelaw.Explains", spec := "explains", inPlace := ["internal/reflectlite.ValueOf", "(internal/reflectlite.Value).Type", "(internal/reflectlite.Value).IsNil", "internal/reflectlite.TypeOf", "(internal/reflectlite.Value).Elem", "(internal/reflectlite.Value).Set"], unfollowed := true, recurses := true, named := ["triage/triage.Broken", "triage/triage.traits", "errors.errorType"], plainKeys := false, apart := false, laid := [("errors.errorType", laid_errors_errorType), ("triage/triage.Broken", laid_triage_triage_Broken), ("triage/triage.traits", laid_triage_triage_traits)] }
def ExplainsSaid : Prop := explainsRow.holds Tryd.pinned (OpenSpec.ofChange explainsSpec)

/-- ITS FALSE NEIGHBOUR: 'it returns false'. Refute it at one input. -/
def explainsWrong : ChangeSpec := { name := "explains", fn := fun _ => fun
  | [d] => { results := [.lit (.bool false)], args := [d] }
  | _ => none }
def ExplainsWrongFalsely : Prop := explainsRow.holds Tryd.pinned (OpenSpec.ofChange explainsWrong)

/-- 'triagelaw.Runs': WHATEVER THE INPUT: true; the input reads as it did. -/
def runsSpec : ChangeSpec := { name := "runs", fn := fun _ => fun
  | [d1, d2, d3] => { results := [.lit (.bool true)], args := [d1, d2, d3] }
  | _ => none }
def runsRow : OpenClaim := { program := "ytbmaiioecnmopaadoor", sum := "e9c9e7d93152ace9ea607b6f8c71db7da5ca37ce021c26637d1bd7088e7de081", func := "triage/triagelaw.Runs", spec := "runs", inPlace := ["internal/reflectlite.TypeOf", "internal/reflectlite.ValueOf", "(internal/reflectlite.Value).Type", "(internal/reflectlite.Value).IsNil", "(internal/reflectlite.Value).Elem", "(internal/reflectlite.Value).Set"], unfollowed := true, recurses := true, named := ["triage/triage.traits", "triage/triage.Broken", "errors.errorType"], plainKeys := false, apart := false, laid := [("errors.errorType", laid_errors_errorType), ("triage/triage.Broken", laid_triage_triage_Broken), ("triage/triage.traits", laid_triage_triage_traits)] }
def RunsSaid : Prop := runsRow.holds Tryd.pinned (OpenSpec.ofChange runsSpec)

/-- ITS FALSE NEIGHBOUR: 'it returns false'. Refute it at one input. -/
def runsWrong : ChangeSpec := { name := "runs", fn := fun _ => fun
  | [d1, d2, d3] => { results := [.lit (.bool false)], args := [d1, d2, d3] }
  | _ => none }
def RunsWrongFalsely : Prop := runsRow.holds Tryd.pinned (OpenSpec.ofChange runsWrong)

/-- 'triagelaw.Fuel': WHATEVER THE INPUT: true; the input reads as it did. -/
def fuelSpec : ChangeSpec := { name := "fuel", fn := fun _ => fun
  | [d1, d2, d3, d4] => { results := [.lit (.bool true)], args := [d1, d2, d3, d4] }
  | _ => none }
def fuelRow : OpenClaim := { program := "ytbmaiioecnmopaadoor", sum := "e9c9e7d93152ace9ea607b6f8c71db7da5ca37ce021c26637d1bd7088e7de081", func := "triage/triagelaw.Fuel", spec := "fuel", inPlace := ["internal/reflectlite.TypeOf", "internal/reflectlite.ValueOf", "(internal/reflectlite.Value).Type", "(internal/reflectlite.Value).IsNil", "(internal/reflectlite.Value).Elem", "(internal/reflectlite.Value).Set"], unfollowed := true, recurses := true, named := ["triage/triage.traits", "triage/triage.Broken", "errors.errorType"], plainKeys := false, apart := false, laid := [("errors.errorType", laid_errors_errorType), ("triage/triage.Broken", laid_triage_triage_Broken), ("triage/triage.traits", laid_triage_triage_traits)] }
def FuelSaid : Prop := fuelRow.holds Tryd.pinned (OpenSpec.ofChange fuelSpec)

/-- ITS FALSE NEIGHBOUR: 'it returns false'. Refute it at one input. -/
def fuelWrong : ChangeSpec := { name := "fuel", fn := fun _ => fun
  | [d1, d2, d3, d4] => { results := [.lit (.bool false)], args := [d1, d2, d3, d4] }
  | _ => none }
def FuelWrongFalsely : Prop := fuelRow.holds Tryd.pinned (OpenSpec.ofChange fuelWrong)

/-- 'triagelaw.Sorts': WHATEVER THE INPUT: true; the input reads as it did. -/
def sortsSpec : ChangeSpec := { name := "sorts", fn := fun _ => fun
  | [d1, d2, d3, d4] => { results := [.lit (.bool true)], args := [d1, d2, d3, d4] }
  | _ => none }
def sortsRow : OpenClaim := { program := "ytbmaiioecnmopaadoor", sum := "e9c9e7d93152ace9ea607b6f8c71db7da5ca37ce021c26637d1bd7088e7de081", func := "triage/triagelaw.Sorts", spec := "sorts", inPlace := ["internal/reflectlite.TypeOf", "internal/reflectlite.ValueOf", "(internal/reflectlite.Value).Type", "(internal/reflectlite.Value).IsNil", "(internal/reflectlite.Value).Elem", "(internal/reflectlite.Value).Set"], unfollowed := true, recurses := true, named := ["triage/triage.traits", "triage/triage.Broken", "errors.errorType"], plainKeys := false, apart := false, laid := [("errors.errorType", laid_errors_errorType), ("triage/triage.Broken", laid_triage_triage_Broken), ("triage/triage.traits", laid_triage_triage_traits)] }
def SortsSaid : Prop := sortsRow.holds Tryd.pinned (OpenSpec.ofChange sortsSpec)

/-- ITS FALSE NEIGHBOUR: 'it returns false'. Refute it at one input. -/
def sortsWrong : ChangeSpec := { name := "sorts", fn := fun _ => fun
  | [d1, d2, d3, d4] => { results := [.lit (.bool false)], args := [d1, d2, d3, d4] }
  | _ => none }
def SortsWrongFalsely : Prop := sortsRow.holds Tryd.pinned (OpenSpec.ofChange sortsWrong)

/-- 'triagelaw.Packs': WHATEVER THE INPUT: true; the input reads as it did. -/
def packsSpec : ChangeSpec := { name := "packs", fn := fun _ => fun
  | [d] => { results := [.lit (.bool true)], args := [d] }
  | _ => none }
def packsRow : OpenClaim := { program := "ytbmaiioecnmopaadoor", sum := "e9c9e7d93152ace9ea607b6f8c71db7da5ca37ce021c26637d1bd7088e7de081", func := "triage/triagelaw.Packs", spec := "packs", inPlace := ["internal/reflectlite.TypeOf", "internal/reflectlite.ValueOf", "(internal/reflectlite.Value).Type", "(internal/reflectlite.Value).IsNil", "(internal/reflectlite.Value).Elem", "(internal/reflectlite.Value).Set"], unfollowed := true, recurses := true, named := ["triage/triage.traits", "triage/triage.Broken", "errors.errorType"], plainKeys := false, apart := false, laid := [("errors.errorType", laid_errors_errorType), ("triage/triage.Broken", laid_triage_triage_Broken), ("triage/triage.traits", laid_triage_triage_traits)] }
def PacksSaid : Prop := packsRow.holds Tryd.pinned (OpenSpec.ofChange packsSpec)

/-- ITS FALSE NEIGHBOUR: 'it returns false'. Refute it at one input. -/
def packsWrong : ChangeSpec := { name := "packs", fn := fun _ => fun
  | [d] => { results := [.lit (.bool false)], args := [d] }
  | _ => none }
def PacksWrongFalsely : Prop := packsRow.holds Tryd.pinned (OpenSpec.ofChange packsWrong)

/-- 'triagelaw.Unpacks': WHATEVER THE INPUT: true; the input reads as it did. -/
def unpacksSpec : ChangeSpec := { name := "unpacks", fn := fun _ => fun
  | [d] => { results := [.lit (.bool true)], args := [d] }
  | _ => none }
def unpacksRow : OpenClaim := { program := "ytbmaiioecnmopaadoor", sum := "e9c9e7d93152ace9ea607b6f8c71db7da5ca37ce021c26637d1bd7088e7de081", func := "triage/triagelaw.Unpacks", spec := "unpacks", inPlace := ["internal/reflectlite.TypeOf", "internal/reflectlite.ValueOf", "(internal/reflectlite.Value).Type", "(internal/reflectlite.Value).IsNil", "(internal/reflectlite.Value).Elem", "(internal/reflectlite.Value).Set"], unfollowed := true, recurses := true, named := ["triage/triage.traits", "triage/triage.Broken", "errors.errorType"], plainKeys := false, apart := false, laid := [("errors.errorType", laid_errors_errorType), ("triage/triage.Broken", laid_triage_triage_Broken), ("triage/triage.traits", laid_triage_triage_traits)] }
def UnpacksSaid : Prop := unpacksRow.holds Tryd.pinned (OpenSpec.ofChange unpacksSpec)

/-- ITS FALSE NEIGHBOUR: 'it returns false'. Refute it at one input. -/
def unpacksWrong : ChangeSpec := { name := "unpacks", fn := fun _ => fun
  | [d] => { results := [.lit (.bool false)], args := [d] }
  | _ => none }
def UnpacksWrongFalsely : Prop := unpacksRow.holds Tryd.pinned (OpenSpec.ofChange unpacksWrong)

/-- 'triagelaw.Bursts': WHATEVER THE INPUT: true; the input reads as it did. -/
def burstsSpec : ChangeSpec := { name := "bursts", fn := fun _ => fun
  | [d1, d2, d3] => { results := [.lit (.bool true)], args := [d1, d2, d3] }
  | _ => none }
def burstsRow : OpenClaim := { program := "ytbmaiioecnmopaadoor", sum := "e9c9e7d93152ace9ea607b6f8c71db7da5ca37ce021c26637d1bd7088e7de081", func := "triage/triagelaw.Bursts", spec := "bursts", inPlace := ["internal/reflectlite.TypeOf", "internal/reflectlite.ValueOf", "(internal/reflectlite.Value).Type", "(internal/reflectlite.Value).IsNil", "(internal/reflectlite.Value).Elem", "(internal/reflectlite.Value).Set"], unfollowed := true, recurses := true, named := ["triage/triage.traits", "triage/triage.Broken", "errors.errorType"], plainKeys := false, apart := false, laid := [("errors.errorType", laid_errors_errorType), ("triage/triage.Broken", laid_triage_triage_Broken), ("triage/triage.traits", laid_triage_triage_traits)] }
def BurstsSaid : Prop := burstsRow.holds Tryd.pinned (OpenSpec.ofChange burstsSpec)

/-- ITS FALSE NEIGHBOUR: 'it returns false'. Refute it at one input. -/
def burstsWrong : ChangeSpec := { name := "bursts", fn := fun _ => fun
  | [d1, d2, d3] => { results := [.lit (.bool false)], args := [d1, d2, d3] }
  | _ => none }
def BurstsWrongFalsely : Prop := burstsRow.holds Tryd.pinned (OpenSpec.ofChange burstsWrong)

/- THE SECOND FORM. 'bulk': how many values and letters a reading holds, each counted each time it is reached (what is shared counts as often as it is met; a slice's spare places count too). A statement '..UptoSaid' is the law's where the arguments, and the package variables that the reading takes, are together of bulk at most 1048576: NARROWER than '..Said'. Prove '..Said' where nothing that the law and all that it calls make is longer than what came in: it says more and counts as full. Else prove '..UptoSaid'. A law counts once. -/
mutual
def uptoBulk {H : Type} : DataW H → Nat
  | .lit (.string bytes) => bytes.length + 1
  | .lit _ => 1
  | .nil => 1
  | .ptr d => uptoBulk d + 1
  | .slice elems spare => uptoBulkAll elems + uptoBulkAll spare + 1
  | .agg parts => uptoBulkAll parts + 1
  | .iface _ d => uptoBulk d + 1
  | .map entries => uptoBulkEntries entries + 1
  | .held _ => 1
def uptoBulkAll {H : Type} : List (DataW H) → Nat
  | [] => 0
  | d :: r => uptoBulk d + uptoBulkAll r
def uptoBulkEntries {H : Type} : List (Lit × DataW H) → Nat
  | [] => 0
  | x :: r => uptoBulkEntry x + uptoBulkEntries r
def uptoBulkEntry {H : Type} : Lit × DataW H → Nat
  | (.string bytes, d) => bytes.length + uptoBulk d + 1
  | (_, d) => uptoBulk d + 1
 end
def uptoSmall : (H : Type) → List (DataW H) → Bool := fun _ ds => decide (uptoBulkAll ds ≤ 1048576)
def OpenSpec.upto (s : _root_.Go.ChangeSpec) : _root_.Go.OpenSpec := { _root_.Go.OpenSpec.ofChange s with cond := some uptoSmall }

/-- 'triagelaw.Checks', WHERE WHAT IT READS IS OF BULK AT MOST 1048576: true; the input reads as it did. -/
def checksUptoRow : OpenClaim := { program := "ytbmaiioecnmopaadoor", sum := "e9c9e7d93152ace9ea607b6f8c71db7da5ca37ce021c26637d1bd7088e7de081", func := "triage/triagelaw.Checks", spec := "checks", inPlace := ["internal/reflectlite.TypeOf", "internal/reflectlite.ValueOf", "(internal/reflectlite.Value).Type", "(internal/reflectlite.Value).IsNil", "(internal/reflectlite.Value).Elem", "(internal/reflectlite.Value).Set"], unfollowed := true, recurses := true, named := ["triage/triage.traits", "triage/triage.Broken", "errors.errorType"], plainKeys := false, apart := false, laid := [("errors.errorType", laid_errors_errorType), ("triage/triage.Broken", laid_triage_triage_Broken), ("triage/triage.traits", laid_triage_triage_traits)], narrowed := true }
def ChecksUptoSaid : Prop := checksUptoRow.holds Tryd.pinned (OpenSpec.upto checksSpec)

/-- 'triagelaw.Explains', WHERE WHAT IT READS IS OF BULK AT MOST 1048576: true; the input reads as it did. -/
def explainsUptoRow : OpenClaim := { program := "ytbmaiioecnmopaadoor", sum := "e9c9e7d93152ace9ea607b6f8c71db7da5ca37ce021c26637d1bd7088e7de081", func := "triage/triagelaw.Explains", spec := "explains", inPlace := ["internal/reflectlite.ValueOf", "(internal/reflectlite.Value).Type", "(internal/reflectlite.Value).IsNil", "internal/reflectlite.TypeOf", "(internal/reflectlite.Value).Elem", "(internal/reflectlite.Value).Set"], unfollowed := true, recurses := true, named := ["triage/triage.Broken", "triage/triage.traits", "errors.errorType"], plainKeys := false, apart := false, laid := [("errors.errorType", laid_errors_errorType), ("triage/triage.Broken", laid_triage_triage_Broken), ("triage/triage.traits", laid_triage_triage_traits)], narrowed := true }
def ExplainsUptoSaid : Prop := explainsUptoRow.holds Tryd.pinned (OpenSpec.upto explainsSpec)

/-- 'triagelaw.Runs', WHERE WHAT IT READS IS OF BULK AT MOST 1048576: true; the input reads as it did. -/
def runsUptoRow : OpenClaim := { program := "ytbmaiioecnmopaadoor", sum := "e9c9e7d93152ace9ea607b6f8c71db7da5ca37ce021c26637d1bd7088e7de081", func := "triage/triagelaw.Runs", spec := "runs", inPlace := ["internal/reflectlite.TypeOf", "internal/reflectlite.ValueOf", "(internal/reflectlite.Value).Type", "(internal/reflectlite.Value).IsNil", "(internal/reflectlite.Value).Elem", "(internal/reflectlite.Value).Set"], unfollowed := true, recurses := true, named := ["triage/triage.traits", "triage/triage.Broken", "errors.errorType"], plainKeys := false, apart := false, laid := [("errors.errorType", laid_errors_errorType), ("triage/triage.Broken", laid_triage_triage_Broken), ("triage/triage.traits", laid_triage_triage_traits)], narrowed := true }
def RunsUptoSaid : Prop := runsUptoRow.holds Tryd.pinned (OpenSpec.upto runsSpec)

/-- 'triagelaw.Fuel', WHERE WHAT IT READS IS OF BULK AT MOST 1048576: true; the input reads as it did. -/
def fuelUptoRow : OpenClaim := { program := "ytbmaiioecnmopaadoor", sum := "e9c9e7d93152ace9ea607b6f8c71db7da5ca37ce021c26637d1bd7088e7de081", func := "triage/triagelaw.Fuel", spec := "fuel", inPlace := ["internal/reflectlite.TypeOf", "internal/reflectlite.ValueOf", "(internal/reflectlite.Value).Type", "(internal/reflectlite.Value).IsNil", "(internal/reflectlite.Value).Elem", "(internal/reflectlite.Value).Set"], unfollowed := true, recurses := true, named := ["triage/triage.traits", "triage/triage.Broken", "errors.errorType"], plainKeys := false, apart := false, laid := [("errors.errorType", laid_errors_errorType), ("triage/triage.Broken", laid_triage_triage_Broken), ("triage/triage.traits", laid_triage_triage_traits)], narrowed := true }
def FuelUptoSaid : Prop := fuelUptoRow.holds Tryd.pinned (OpenSpec.upto fuelSpec)

/-- 'triagelaw.Sorts', WHERE WHAT IT READS IS OF BULK AT MOST 1048576: true; the input reads as it did. -/
def sortsUptoRow : OpenClaim := { program := "ytbmaiioecnmopaadoor", sum := "e9c9e7d93152ace9ea607b6f8c71db7da5ca37ce021c26637d1bd7088e7de081", func := "triage/triagelaw.Sorts", spec := "sorts", inPlace := ["internal/reflectlite.TypeOf", "internal/reflectlite.ValueOf", "(internal/reflectlite.Value).Type", "(internal/reflectlite.Value).IsNil", "(internal/reflectlite.Value).Elem", "(internal/reflectlite.Value).Set"], unfollowed := true, recurses := true, named := ["triage/triage.traits", "triage/triage.Broken", "errors.errorType"], plainKeys := false, apart := false, laid := [("errors.errorType", laid_errors_errorType), ("triage/triage.Broken", laid_triage_triage_Broken), ("triage/triage.traits", laid_triage_triage_traits)], narrowed := true }
def SortsUptoSaid : Prop := sortsUptoRow.holds Tryd.pinned (OpenSpec.upto sortsSpec)

/-- 'triagelaw.Packs', WHERE WHAT IT READS IS OF BULK AT MOST 1048576: true; the input reads as it did. -/
def packsUptoRow : OpenClaim := { program := "ytbmaiioecnmopaadoor", sum := "e9c9e7d93152ace9ea607b6f8c71db7da5ca37ce021c26637d1bd7088e7de081", func := "triage/triagelaw.Packs", spec := "packs", inPlace := ["internal/reflectlite.TypeOf", "internal/reflectlite.ValueOf", "(internal/reflectlite.Value).Type", "(internal/reflectlite.Value).IsNil", "(internal/reflectlite.Value).Elem", "(internal/reflectlite.Value).Set"], unfollowed := true, recurses := true, named := ["triage/triage.traits", "triage/triage.Broken", "errors.errorType"], plainKeys := false, apart := false, laid := [("errors.errorType", laid_errors_errorType), ("triage/triage.Broken", laid_triage_triage_Broken), ("triage/triage.traits", laid_triage_triage_traits)], narrowed := true }
def PacksUptoSaid : Prop := packsUptoRow.holds Tryd.pinned (OpenSpec.upto packsSpec)

/-- 'triagelaw.Unpacks', WHERE WHAT IT READS IS OF BULK AT MOST 1048576: true; the input reads as it did. -/
def unpacksUptoRow : OpenClaim := { program := "ytbmaiioecnmopaadoor", sum := "e9c9e7d93152ace9ea607b6f8c71db7da5ca37ce021c26637d1bd7088e7de081", func := "triage/triagelaw.Unpacks", spec := "unpacks", inPlace := ["internal/reflectlite.TypeOf", "internal/reflectlite.ValueOf", "(internal/reflectlite.Value).Type", "(internal/reflectlite.Value).IsNil", "(internal/reflectlite.Value).Elem", "(internal/reflectlite.Value).Set"], unfollowed := true, recurses := true, named := ["triage/triage.traits", "triage/triage.Broken", "errors.errorType"], plainKeys := false, apart := false, laid := [("errors.errorType", laid_errors_errorType), ("triage/triage.Broken", laid_triage_triage_Broken), ("triage/triage.traits", laid_triage_triage_traits)], narrowed := true }
def UnpacksUptoSaid : Prop := unpacksUptoRow.holds Tryd.pinned (OpenSpec.upto unpacksSpec)

/-- 'triagelaw.Bursts', WHERE WHAT IT READS IS OF BULK AT MOST 1048576: true; the input reads as it did. -/
def burstsUptoRow : OpenClaim := { program := "ytbmaiioecnmopaadoor", sum := "e9c9e7d93152ace9ea607b6f8c71db7da5ca37ce021c26637d1bd7088e7de081", func := "triage/triagelaw.Bursts", spec := "bursts", inPlace := ["internal/reflectlite.TypeOf", "internal/reflectlite.ValueOf", "(internal/reflectlite.Value).Type", "(internal/reflectlite.Value).IsNil", "(internal/reflectlite.Value).Elem", "(internal/reflectlite.Value).Set"], unfollowed := true, recurses := true, named := ["triage/triage.traits", "triage/triage.Broken", "errors.errorType"], plainKeys := false, apart := false, laid := [("errors.errorType", laid_errors_errorType), ("triage/triage.Broken", laid_triage_triage_Broken), ("triage/triage.traits", laid_triage_triage_traits)], narrowed := true }
def BurstsUptoSaid : Prop := burstsUptoRow.holds Tryd.pinned (OpenSpec.upto burstsSpec)

end Rows
end Go.Proofs.YtbmaiioecnmopaaDoor
