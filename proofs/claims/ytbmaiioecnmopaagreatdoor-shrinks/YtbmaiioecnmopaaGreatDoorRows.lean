/-
  NARROWER THAN 'FOR EVERY INPUT', by the rows' own cells (each row's printed sentence says how): Parts: laid · Shrinks: laid · Trims: laid · Covers: laid.
  DERIVED. THE GIVEN ROWS OF THIS SEAT. 4 by the template 'for every input the law returns true; each argument reads behind the call as it read before'; 0 by the template 'total and deterministic' (their statements: YtbmaiioecnmopaaGreatDoorTotals.lean).
  GIVEN WITH THE SEED: the statements are not yours to turn. If you find one false, say at which input.
  Laid BY PROGRAM, IN A SANDBOX (cutbox-rows.mjs): the forced cells as the released guide's own fill.sh prints them over the translation d9e0d161e6301167… (all of the seat's roots in one cut). By AI agents, Wed Nov 11 2026. No macro, syntax, notation, axiom, sorry.
-/
import Derived.Test.YtbmaiioecnmopaaGreatDoorChecked
import GoSem.Claim
import GoSem.ClaimJoined
import GoSem.ClaimMapViews
import Derived.JoinedTies
import Derived.KernelRfl
namespace Go.Proofs.YtbmaiioecnmopaaGreatDoor
/- THE CELL 'sum', in the pinned program and in every row, IS THE sha256 OF THE DUMP (.gsa) THAT YtbmaiioecnmopaaGreatDoorProg.lean LOADS. Nothing in Lean hashes anything: it is a label: what it is worth is what the hold of that sum in a sandbox is worth. -/
noncomputable def Tryz.pinned : Pinned := { name := "ytbmaiioecnmopaagreatdoor", sum := "d9e0d161e63011674e73869492928adf2718244da2a69fccb7e4c7854503d902", checked := Tryz.checked }
namespace Rows
def none {H : Type} : Left H := { results := [], args := [] }

/- WHAT THE LISTED PACKAGE-LEVEL VARIABLES READ AS WHEN THE CALL BEGINS. Each datum BY PROGRAM (the guide's laid-datum.mjs) off the statement by which the dump's own 'gosem.cut.vars' lays the variable. In a bare row this is a premise. The card (YtbmaiioecnmopaaGreatDoorCards.lean) ties it to the program's text. -/
def laid_errors_errorType {H : Type} : DataW H := .iface "internal/reflectlite.rtype" (.agg [.ptr (.lit (.string [101, 114, 114, 111, 114]))])
def laid_triage_triage_Broken {H : Type} : DataW H := .iface "*errors.errorString" (.ptr (.agg [.lit (.string [116, 114, 105, 97, 103, 101, 58, 32, 97, 32, 98, 114, 111, 107, 101, 110, 32, 105, 109, 97, 103, 101])]))
def laid_triage_triage_traits {H : Type} : DataW H := .agg [.agg [.lit (.int .i64 0), .lit (.int .i64 1)], .agg [.lit (.int .i64 0), .lit (.int .i64 2)], .agg [.lit (.int .i64 1), .lit (.int .i64 1)], .agg [.lit (.int .i64 1), .lit (.int .i64 1)], .agg [.lit (.int .i64 2), .lit (.int .i64 1)], .agg [.lit (.int .i64 2), .lit (.int .i64 1)], .agg [.lit (.int .i64 2), .lit (.int .i64 1)], .agg [.lit (.int .i64 2), .lit (.int .i64 1)], .agg [.lit (.int .i64 2), .lit (.int .i64 1)], .agg [.lit (.int .i64 2), .lit (.int .i64 1)], .agg [.lit (.int .i64 0), .lit (.int .i64 2)], .agg [.lit (.int .i64 1), .lit (.int .i64 2)], .agg [.lit (.int .i64 0), .lit (.int .i64 2)], .agg [.lit (.int .i64 0), .lit (.int .i64 1)], .agg [.lit (.int .i64 0), .lit (.int .i64 1)], .agg [.lit (.int .i64 1), .lit (.int .i64 1)], .agg [.lit (.int .i64 2), .lit (.int .i64 1)], .agg [.lit (.int .i64 0), .lit (.int .i64 1)]]

/-- 'triagelaw.Parts': WHATEVER THE INPUT: true; the input reads as it did. -/
def partsSpec : ChangeSpec := { name := "parts", fn := fun _ => fun
  | [d1, d2, d3, d4] => { results := [.lit (.bool true)], args := [d1, d2, d3, d4] }
  | _ => none }
def partsRow : OpenClaim := { program := "ytbmaiioecnmopaagreatdoor", sum := "d9e0d161e63011674e73869492928adf2718244da2a69fccb7e4c7854503d902", func := "triage/triagelaw.Parts", spec := "parts", inPlace := ["internal/reflectlite.TypeOf", "internal/reflectlite.ValueOf", "(internal/reflectlite.Value).Type", "(internal/reflectlite.Value).IsNil", "(internal/reflectlite.Value).Elem", "(internal/reflectlite.Value).Set"], unfollowed := true, recurses := true, named := ["triage/triage.traits", "triage/triage.Broken", "errors.errorType"], plainKeys := false, apart := false, laid := [("errors.errorType", laid_errors_errorType), ("triage/triage.Broken", laid_triage_triage_Broken), ("triage/triage.traits", laid_triage_triage_traits)] }
def PartsSaid : Prop := partsRow.holds Tryz.pinned (OpenSpec.ofChange partsSpec)

/-- ITS FALSE NEIGHBOUR: 'it returns false'. Refute it at one input. -/
def partsWrong : ChangeSpec := { name := "parts", fn := fun _ => fun
  | [d1, d2, d3, d4] => { results := [.lit (.bool false)], args := [d1, d2, d3, d4] }
  | _ => none }
def PartsWrongFalsely : Prop := partsRow.holds Tryz.pinned (OpenSpec.ofChange partsWrong)

/-- 'triagelaw.Shrinks': WHATEVER THE INPUT: true; the input reads as it did. -/
def shrinksSpec : ChangeSpec := { name := "shrinks", fn := fun _ => fun
  | [d1, d2, d3, d4] => { results := [.lit (.bool true)], args := [d1, d2, d3, d4] }
  | _ => none }
def shrinksRow : OpenClaim := { program := "ytbmaiioecnmopaagreatdoor", sum := "d9e0d161e63011674e73869492928adf2718244da2a69fccb7e4c7854503d902", func := "triage/triagelaw.Shrinks", spec := "shrinks", inPlace := ["internal/reflectlite.TypeOf", "internal/reflectlite.ValueOf", "(internal/reflectlite.Value).Type", "(internal/reflectlite.Value).IsNil", "(internal/reflectlite.Value).Elem", "(internal/reflectlite.Value).Set"], unfollowed := true, recurses := true, named := ["triage/triage.traits", "triage/triage.Broken", "errors.errorType"], plainKeys := false, apart := false, laid := [("errors.errorType", laid_errors_errorType), ("triage/triage.Broken", laid_triage_triage_Broken), ("triage/triage.traits", laid_triage_triage_traits)] }
def ShrinksSaid : Prop := shrinksRow.holds Tryz.pinned (OpenSpec.ofChange shrinksSpec)

/-- ITS FALSE NEIGHBOUR: 'it returns false'. Refute it at one input. -/
def shrinksWrong : ChangeSpec := { name := "shrinks", fn := fun _ => fun
  | [d1, d2, d3, d4] => { results := [.lit (.bool false)], args := [d1, d2, d3, d4] }
  | _ => none }
def ShrinksWrongFalsely : Prop := shrinksRow.holds Tryz.pinned (OpenSpec.ofChange shrinksWrong)

/-- 'triagelaw.Trims': WHATEVER THE INPUT: true; the input reads as it did. -/
def trimsSpec : ChangeSpec := { name := "trims", fn := fun _ => fun
  | [d1, d2, d3] => { results := [.lit (.bool true)], args := [d1, d2, d3] }
  | _ => none }
def trimsRow : OpenClaim := { program := "ytbmaiioecnmopaagreatdoor", sum := "d9e0d161e63011674e73869492928adf2718244da2a69fccb7e4c7854503d902", func := "triage/triagelaw.Trims", spec := "trims", inPlace := ["internal/reflectlite.TypeOf", "internal/reflectlite.ValueOf", "(internal/reflectlite.Value).Type", "(internal/reflectlite.Value).IsNil", "(internal/reflectlite.Value).Elem", "(internal/reflectlite.Value).Set"], unfollowed := true, recurses := true, named := ["triage/triage.traits", "triage/triage.Broken", "errors.errorType"], plainKeys := false, apart := false, laid := [("errors.errorType", laid_errors_errorType), ("triage/triage.Broken", laid_triage_triage_Broken), ("triage/triage.traits", laid_triage_triage_traits)] }
def TrimsSaid : Prop := trimsRow.holds Tryz.pinned (OpenSpec.ofChange trimsSpec)

/-- ITS FALSE NEIGHBOUR: 'it returns false'. Refute it at one input. -/
def trimsWrong : ChangeSpec := { name := "trims", fn := fun _ => fun
  | [d1, d2, d3] => { results := [.lit (.bool false)], args := [d1, d2, d3] }
  | _ => none }
def TrimsWrongFalsely : Prop := trimsRow.holds Tryz.pinned (OpenSpec.ofChange trimsWrong)

/-- 'triagelaw.Covers': WHATEVER THE INPUT: true; the input reads as it did. -/
def coversSpec : ChangeSpec := { name := "covers", fn := fun _ => fun
  | [d1, d2, d3] => { results := [.lit (.bool true)], args := [d1, d2, d3] }
  | _ => none }
def coversRow : OpenClaim := { program := "ytbmaiioecnmopaagreatdoor", sum := "d9e0d161e63011674e73869492928adf2718244da2a69fccb7e4c7854503d902", func := "triage/triagelaw.Covers", spec := "covers", inPlace := ["internal/reflectlite.TypeOf", "internal/reflectlite.ValueOf", "(internal/reflectlite.Value).Type", "(internal/reflectlite.Value).IsNil", "(internal/reflectlite.Value).Elem", "(internal/reflectlite.Value).Set"], unfollowed := true, recurses := true, named := ["triage/triage.traits", "triage/triage.Broken", "errors.errorType"], plainKeys := false, apart := false, laid := [("errors.errorType", laid_errors_errorType), ("triage/triage.Broken", laid_triage_triage_Broken), ("triage/triage.traits", laid_triage_triage_traits)] }
def CoversSaid : Prop := coversRow.holds Tryz.pinned (OpenSpec.ofChange coversSpec)

/-- ITS FALSE NEIGHBOUR: 'it returns false'. Refute it at one input. -/
def coversWrong : ChangeSpec := { name := "covers", fn := fun _ => fun
  | [d1, d2, d3] => { results := [.lit (.bool false)], args := [d1, d2, d3] }
  | _ => none }
def CoversWrongFalsely : Prop := coversRow.holds Tryz.pinned (OpenSpec.ofChange coversWrong)

/- THE SECOND FORM. 'bulk': how many values and letters a reading holds, each counted each time it is reached (what is shared counts as often as it is met; a slice's spare places count too). A statement '..UptoSaid' is the law's where the arguments, and the package variables that the reading takes, are together of bulk at most 1048576: NARROWER than '..Said'. Prove '..Said' where nothing that the law and all that it calls make is longer than what came in: it says more and counts as full. Else prove '..UptoSaid'. A law counts once. -/
mutual
def uptoBulk {H : Type} : DataW H → Nat
  | .lit (.string bytes) => bytes.length + 1
  | .lit _ => 1
  | .nil => 1
  | .ptr d => uptoBulk d + 1
  | .slice elems spare => uptoBulkAll elems + uptoBulkAll spare + 1
  | .agg parts => uptoBulkAll parts + 1
  | .iface _ d => uptoBulk d + 1
  | .map entries => uptoBulkEntries entries + 1
  | .held _ => 1
def uptoBulkAll {H : Type} : List (DataW H) → Nat
  | [] => 0
  | d :: r => uptoBulk d + uptoBulkAll r
def uptoBulkEntries {H : Type} : List (Lit × DataW H) → Nat
  | [] => 0
  | x :: r => uptoBulkEntry x + uptoBulkEntries r
def uptoBulkEntry {H : Type} : Lit × DataW H → Nat
  | (.string bytes, d) => bytes.length + uptoBulk d + 1
  | (_, d) => uptoBulk d + 1
 end
def uptoSmall : (H : Type) → List (DataW H) → Bool := fun _ ds => decide (uptoBulkAll ds ≤ 1048576)
def OpenSpec.upto (s : _root_.Go.ChangeSpec) : _root_.Go.OpenSpec := { _root_.Go.OpenSpec.ofChange s with cond := some uptoSmall }

/-- 'triagelaw.Parts', WHERE WHAT IT READS IS OF BULK AT MOST 1048576: true; the input reads as it did. -/
def partsUptoRow : OpenClaim := { program := "ytbmaiioecnmopaagreatdoor", sum := "d9e0d161e63011674e73869492928adf2718244da2a69fccb7e4c7854503d902", func := "triage/triagelaw.Parts", spec := "parts", inPlace := ["internal/reflectlite.TypeOf", "internal/reflectlite.ValueOf", "(internal/reflectlite.Value).Type", "(internal/reflectlite.Value).IsNil", "(internal/reflectlite.Value).Elem", "(internal/reflectlite.Value).Set"], unfollowed := true, recurses := true, named := ["triage/triage.traits", "triage/triage.Broken", "errors.errorType"], plainKeys := false, apart := false, laid := [("errors.errorType", laid_errors_errorType), ("triage/triage.Broken", laid_triage_triage_Broken), ("triage/triage.traits", laid_triage_triage_traits)], narrowed := true }
def PartsUptoSaid : Prop := partsUptoRow.holds Tryz.pinned (OpenSpec.upto partsSpec)

/-- 'triagelaw.Shrinks', WHERE WHAT IT READS IS OF BULK AT MOST 1048576: true; the input reads as it did. -/
def shrinksUptoRow : OpenClaim := { program := "ytbmaiioecnmopaagreatdoor", sum := "d9e0d161e63011674e73869492928adf2718244da2a69fccb7e4c7854503d902", func := "triage/triagelaw.Shrinks", spec := "shrinks", inPlace := ["internal/reflectlite.TypeOf", "internal/reflectlite.ValueOf", "(internal/reflectlite.Value).Type", "(internal/reflectlite.Value).IsNil", "(internal/reflectlite.Value).Elem", "(internal/reflectlite.Value).Set"], unfollowed := true, recurses := true, named := ["triage/triage.traits", "triage/triage.Broken", "errors.errorType"], plainKeys := false, apart := false, laid := [("errors.errorType", laid_errors_errorType), ("triage/triage.Broken", laid_triage_triage_Broken), ("triage/triage.traits", laid_triage_triage_traits)], narrowed := true }
def ShrinksUptoSaid : Prop := shrinksUptoRow.holds Tryz.pinned (OpenSpec.upto shrinksSpec)

/-- 'triagelaw.Trims', WHERE WHAT IT READS IS OF BULK AT MOST 1048576: true; the input reads as it did. -/
def trimsUptoRow : OpenClaim := { program := "ytbmaiioecnmopaagreatdoor", sum := "d9e0d161e63011674e73869492928adf2718244da2a69fccb7e4c7854503d902", func := "triage/triagelaw.Trims", spec := "trims", inPlace := ["internal/reflectlite.TypeOf", "internal/reflectlite.ValueOf", "(internal/reflectlite.Value).Type", "(internal/reflectlite.Value).IsNil", "(internal/reflectlite.Value).Elem", "(internal/reflectlite.Value).Set"], unfollowed := true, recurses := true, named := ["triage/triage.traits", "triage/triage.Broken", "errors.errorType"], plainKeys := false, apart := false, laid := [("errors.errorType", laid_errors_errorType), ("triage/triage.Broken", laid_triage_triage_Broken), ("triage/triage.traits", laid_triage_triage_traits)], narrowed := true }
def TrimsUptoSaid : Prop := trimsUptoRow.holds Tryz.pinned (OpenSpec.upto trimsSpec)

/-- 'triagelaw.Covers', WHERE WHAT IT READS IS OF BULK AT MOST 1048576: true; the input reads as it did. -/
def coversUptoRow : OpenClaim := { program := "ytbmaiioecnmopaagreatdoor", sum := "d9e0d161e63011674e73869492928adf2718244da2a69fccb7e4c7854503d902", func := "triage/triagelaw.Covers", spec := "covers", inPlace := ["internal/reflectlite.TypeOf", "internal/reflectlite.ValueOf", "(internal/reflectlite.Value).Type", "(internal/reflectlite.Value).IsNil", "(internal/reflectlite.Value).Elem", "(internal/reflectlite.Value).Set"], unfollowed := true, recurses := true, named := ["triage/triage.traits", "triage/triage.Broken", "errors.errorType"], plainKeys := false, apart := false, laid := [("errors.errorType", laid_errors_errorType), ("triage/triage.Broken", laid_triage_triage_Broken), ("triage/triage.traits", laid_triage_triage_traits)], narrowed := true }
def CoversUptoSaid : Prop := coversUptoRow.holds Tryz.pinned (OpenSpec.upto coversSpec)

end Rows
end Go.Proofs.YtbmaiioecnmopaaGreatDoor
