/-
  No cell of these rows narrows 'for every input' (looked for: loops, veiled, ifaces, maps, wideKeys, modest, calm, conditions, laid).
  DERIVED. THE GIVEN ROWS OF THIS SEAT. 14 by the template 'for every input the law returns true; each argument reads behind the call as it read before'; 0 by the template 'total and deterministic' (their statements: YtekkhadlchfjnaaTotals.lean).
  GIVEN WITH THE SEED: the statements are not yours to turn. If you find one false, say at which input.
  Laid BY PROGRAM, IN A SANDBOX (cutbox-rows.mjs): the forced cells as the released guide's own fill.sh prints them over the translation 3f4a735fafcb26d9… (all of the seat's roots in one cut). By AI agents, Wed Nov 11 2026. No macro, syntax, notation, axiom, sorry.
-/
import Derived.Test.YtekkhadlchfjnaaChecked
import GoSem.Claim
import GoSem.ClaimJoined
import GoSem.ClaimMapViews
import Derived.JoinedTies
import Derived.KernelRfl
namespace Go.Proofs.Ytekkhadlchfjnaa
/- THE CELL 'sum', in the pinned program and in every row, IS THE sha256 OF THE DUMP (.gsa) THAT YtekkhadlchfjnaaProg.lean LOADS. Nothing in Lean hashes anything: it is a label: what it is worth is what the hold of that sum in a sandbox is worth. -/
noncomputable def Try.pinned : Pinned := { name := "ytekkhadlchfjnaa", sum := "3f4a735fafcb26d96eb12cd5ba39cb4bbd24af28863c034b445bc841da2a6f9f", checked := Try.checked }
namespace Rows
def none {H : Type} : Left H := { results := [], args := [] }

/-- 'laws.FnAllowedTests': WHATEVER THE INPUT: true; the input reads as it did. -/
def fnAllowedTestsSpec : ChangeSpec := { name := "fnAllowedTests", fn := fun _ => fun
  | [d] => { results := [.lit (.bool true)], args := [d] }
  | _ => none }
def fnAllowedTestsRow : OpenClaim := { program := "ytekkhadlchfjnaa", sum := "3f4a735fafcb26d96eb12cd5ba39cb4bbd24af28863c034b445bc841da2a6f9f", func := "loop.example/coveringtests/laws.FnAllowedTests", spec := "fnAllowedTests", unfollowed := true, recurses := true, plainKeys := false, apart := false }
def FnAllowedTestsSaid : Prop := fnAllowedTestsRow.holds Try.pinned (OpenSpec.ofChange fnAllowedTestsSpec)

/-- ITS FALSE NEIGHBOUR: 'it returns false'. Refute it at one input. -/
def fnAllowedTestsWrong : ChangeSpec := { name := "fnAllowedTests", fn := fun _ => fun
  | [d] => { results := [.lit (.bool false)], args := [d] }
  | _ => none }
def FnAllowedTestsWrongFalsely : Prop := fnAllowedTestsRow.holds Try.pinned (OpenSpec.ofChange fnAllowedTestsWrong)

/-- 'laws.FnCompleteTest': WHATEVER THE INPUT: true; the input reads as it did. -/
def fnCompleteTestSpec : ChangeSpec := { name := "fnCompleteTest", fn := fun _ => fun
  | [d] => { results := [.lit (.bool true)], args := [d] }
  | _ => none }
def fnCompleteTestRow : OpenClaim := { program := "ytekkhadlchfjnaa", sum := "3f4a735fafcb26d96eb12cd5ba39cb4bbd24af28863c034b445bc841da2a6f9f", func := "loop.example/coveringtests/laws.FnCompleteTest", spec := "fnCompleteTest", unfollowed := true, recurses := true, plainKeys := false, apart := false }
def FnCompleteTestSaid : Prop := fnCompleteTestRow.holds Try.pinned (OpenSpec.ofChange fnCompleteTestSpec)

/-- ITS FALSE NEIGHBOUR: 'it returns false'. Refute it at one input. -/
def fnCompleteTestWrong : ChangeSpec := { name := "fnCompleteTest", fn := fun _ => fun
  | [d] => { results := [.lit (.bool false)], args := [d] }
  | _ => none }
def FnCompleteTestWrongFalsely : Prop := fnCompleteTestRow.holds Try.pinned (OpenSpec.ofChange fnCompleteTestWrong)

/-- 'laws.FnLeastBans': WHATEVER THE INPUT: true; the input reads as it did. -/
def fnLeastBansSpec : ChangeSpec := { name := "fnLeastBans", fn := fun _ => fun
  | [d] => { results := [.lit (.bool true)], args := [d] }
  | _ => none }
def fnLeastBansRow : OpenClaim := { program := "ytekkhadlchfjnaa", sum := "3f4a735fafcb26d96eb12cd5ba39cb4bbd24af28863c034b445bc841da2a6f9f", func := "loop.example/coveringtests/laws.FnLeastBans", spec := "fnLeastBans", unfollowed := true, recurses := true, plainKeys := false, apart := false }
def FnLeastBansSaid : Prop := fnLeastBansRow.holds Try.pinned (OpenSpec.ofChange fnLeastBansSpec)

/-- ITS FALSE NEIGHBOUR: 'it returns false'. Refute it at one input. -/
def fnLeastBansWrong : ChangeSpec := { name := "fnLeastBans", fn := fun _ => fun
  | [d] => { results := [.lit (.bool false)], args := [d] }
  | _ => none }
def FnLeastBansWrongFalsely : Prop := fnLeastBansRow.holds Try.pinned (OpenSpec.ofChange fnLeastBansWrong)

/-- 'laws.FnSameBans': WHATEVER THE INPUT: true; the input reads as it did. -/
def fnSameBansSpec : ChangeSpec := { name := "fnSameBans", fn := fun _ => fun
  | [d] => { results := [.lit (.bool true)], args := [d] }
  | _ => none }
def fnSameBansRow : OpenClaim := { program := "ytekkhadlchfjnaa", sum := "3f4a735fafcb26d96eb12cd5ba39cb4bbd24af28863c034b445bc841da2a6f9f", func := "loop.example/coveringtests/laws.FnSameBans", spec := "fnSameBans", unfollowed := true, recurses := true, plainKeys := false, apart := false }
def FnSameBansSaid : Prop := fnSameBansRow.holds Try.pinned (OpenSpec.ofChange fnSameBansSpec)

/-- ITS FALSE NEIGHBOUR: 'it returns false'. Refute it at one input. -/
def fnSameBansWrong : ChangeSpec := { name := "fnSameBans", fn := fun _ => fun
  | [d] => { results := [.lit (.bool false)], args := [d] }
  | _ => none }
def FnSameBansWrongFalsely : Prop := fnSameBansRow.holds Try.pinned (OpenSpec.ofChange fnSameBansWrong)

/-- 'laws.FnBestTest': WHATEVER THE INPUT: true; the input reads as it did. -/
def fnBestTestSpec : ChangeSpec := { name := "fnBestTest", fn := fun _ => fun
  | [d] => { results := [.lit (.bool true)], args := [d] }
  | _ => none }
def fnBestTestRow : OpenClaim := { program := "ytekkhadlchfjnaa", sum := "3f4a735fafcb26d96eb12cd5ba39cb4bbd24af28863c034b445bc841da2a6f9f", func := "loop.example/coveringtests/laws.FnBestTest", spec := "fnBestTest", unfollowed := true, recurses := true, plainKeys := false, apart := false }
def FnBestTestSaid : Prop := fnBestTestRow.holds Try.pinned (OpenSpec.ofChange fnBestTestSpec)

/-- ITS FALSE NEIGHBOUR: 'it returns false'. Refute it at one input. -/
def fnBestTestWrong : ChangeSpec := { name := "fnBestTest", fn := fun _ => fun
  | [d] => { results := [.lit (.bool false)], args := [d] }
  | _ => none }
def FnBestTestWrongFalsely : Prop := fnBestTestRow.holds Try.pinned (OpenSpec.ofChange fnBestTestWrong)

/-- 'laws.FnGrowSuite': WHATEVER THE INPUT: true; the input reads as it did. -/
def fnGrowSuiteSpec : ChangeSpec := { name := "fnGrowSuite", fn := fun _ => fun
  | [d] => { results := [.lit (.bool true)], args := [d] }
  | _ => none }
def fnGrowSuiteRow : OpenClaim := { program := "ytekkhadlchfjnaa", sum := "3f4a735fafcb26d96eb12cd5ba39cb4bbd24af28863c034b445bc841da2a6f9f", func := "loop.example/coveringtests/laws.FnGrowSuite", spec := "fnGrowSuite", unfollowed := true, recurses := true, plainKeys := false, apart := false }
def FnGrowSuiteSaid : Prop := fnGrowSuiteRow.holds Try.pinned (OpenSpec.ofChange fnGrowSuiteSpec)

/-- ITS FALSE NEIGHBOUR: 'it returns false'. Refute it at one input. -/
def fnGrowSuiteWrong : ChangeSpec := { name := "fnGrowSuite", fn := fun _ => fun
  | [d] => { results := [.lit (.bool false)], args := [d] }
  | _ => none }
def FnGrowSuiteWrongFalsely : Prop := fnGrowSuiteRow.holds Try.pinned (OpenSpec.ofChange fnGrowSuiteWrong)

/-- 'laws.FnResultsOf': WHATEVER THE INPUT: true; the input reads as it did. -/
def fnResultsOfSpec : ChangeSpec := { name := "fnResultsOf", fn := fun _ => fun
  | [d] => { results := [.lit (.bool true)], args := [d] }
  | _ => none }
def fnResultsOfRow : OpenClaim := { program := "ytekkhadlchfjnaa", sum := "3f4a735fafcb26d96eb12cd5ba39cb4bbd24af28863c034b445bc841da2a6f9f", func := "loop.example/coveringtests/laws.FnResultsOf", spec := "fnResultsOf", unfollowed := true, recurses := true, plainKeys := false, apart := false }
def FnResultsOfSaid : Prop := fnResultsOfRow.holds Try.pinned (OpenSpec.ofChange fnResultsOfSpec)

/-- ITS FALSE NEIGHBOUR: 'it returns false'. Refute it at one input. -/
def fnResultsOfWrong : ChangeSpec := { name := "fnResultsOf", fn := fun _ => fun
  | [d] => { results := [.lit (.bool false)], args := [d] }
  | _ => none }
def FnResultsOfWrongFalsely : Prop := fnResultsOfRow.holds Try.pinned (OpenSpec.ofChange fnResultsOfWrong)

/-- 'laws.FnSuspectsOf': WHATEVER THE INPUT: true; the input reads as it did. -/
def fnSuspectsOfSpec : ChangeSpec := { name := "fnSuspectsOf", fn := fun _ => fun
  | [d] => { results := [.lit (.bool true)], args := [d] }
  | _ => none }
def fnSuspectsOfRow : OpenClaim := { program := "ytekkhadlchfjnaa", sum := "3f4a735fafcb26d96eb12cd5ba39cb4bbd24af28863c034b445bc841da2a6f9f", func := "loop.example/coveringtests/laws.FnSuspectsOf", spec := "fnSuspectsOf", unfollowed := true, recurses := true, plainKeys := false, apart := false }
def FnSuspectsOfSaid : Prop := fnSuspectsOfRow.holds Try.pinned (OpenSpec.ofChange fnSuspectsOfSpec)

/-- ITS FALSE NEIGHBOUR: 'it returns false'. Refute it at one input. -/
def fnSuspectsOfWrong : ChangeSpec := { name := "fnSuspectsOf", fn := fun _ => fun
  | [d] => { results := [.lit (.bool false)], args := [d] }
  | _ => none }
def FnSuspectsOfWrongFalsely : Prop := fnSuspectsOfRow.holds Try.pinned (OpenSpec.ofChange fnSuspectsOfWrong)

/-- 'laws.FnSuspectsOfFault': WHATEVER THE INPUT: true; the input reads as it did. -/
def fnSuspectsOfFaultSpec : ChangeSpec := { name := "fnSuspectsOfFault", fn := fun _ => fun
  | [d] => { results := [.lit (.bool true)], args := [d] }
  | _ => none }
def fnSuspectsOfFaultRow : OpenClaim := { program := "ytekkhadlchfjnaa", sum := "3f4a735fafcb26d96eb12cd5ba39cb4bbd24af28863c034b445bc841da2a6f9f", func := "loop.example/coveringtests/laws.FnSuspectsOfFault", spec := "fnSuspectsOfFault", unfollowed := true, recurses := true, plainKeys := false, apart := false }
def FnSuspectsOfFaultSaid : Prop := fnSuspectsOfFaultRow.holds Try.pinned (OpenSpec.ofChange fnSuspectsOfFaultSpec)

/-- ITS FALSE NEIGHBOUR: 'it returns false'. Refute it at one input. -/
def fnSuspectsOfFaultWrong : ChangeSpec := { name := "fnSuspectsOfFault", fn := fun _ => fun
  | [d] => { results := [.lit (.bool false)], args := [d] }
  | _ => none }
def FnSuspectsOfFaultWrongFalsely : Prop := fnSuspectsOfFaultRow.holds Try.pinned (OpenSpec.ofChange fnSuspectsOfFaultWrong)

/-- 'laws.FnCulpritsOf': WHATEVER THE INPUT: true; the input reads as it did. -/
def fnCulpritsOfSpec : ChangeSpec := { name := "fnCulpritsOf", fn := fun _ => fun
  | [d] => { results := [.lit (.bool true)], args := [d] }
  | _ => none }
def fnCulpritsOfRow : OpenClaim := { program := "ytekkhadlchfjnaa", sum := "3f4a735fafcb26d96eb12cd5ba39cb4bbd24af28863c034b445bc841da2a6f9f", func := "loop.example/coveringtests/laws.FnCulpritsOf", spec := "fnCulpritsOf", unfollowed := true, recurses := true, plainKeys := false, apart := false }
def FnCulpritsOfSaid : Prop := fnCulpritsOfRow.holds Try.pinned (OpenSpec.ofChange fnCulpritsOfSpec)

/-- ITS FALSE NEIGHBOUR: 'it returns false'. Refute it at one input. -/
def fnCulpritsOfWrong : ChangeSpec := { name := "fnCulpritsOf", fn := fun _ => fun
  | [d] => { results := [.lit (.bool false)], args := [d] }
  | _ => none }
def FnCulpritsOfWrongFalsely : Prop := fnCulpritsOfRow.holds Try.pinned (OpenSpec.ofChange fnCulpritsOfWrong)

/-- 'laws.FnIsLocating': WHATEVER THE INPUT: true; the input reads as it did. -/
def fnIsLocatingSpec : ChangeSpec := { name := "fnIsLocating", fn := fun _ => fun
  | [d] => { results := [.lit (.bool true)], args := [d] }
  | _ => none }
def fnIsLocatingRow : OpenClaim := { program := "ytekkhadlchfjnaa", sum := "3f4a735fafcb26d96eb12cd5ba39cb4bbd24af28863c034b445bc841da2a6f9f", func := "loop.example/coveringtests/laws.FnIsLocating", spec := "fnIsLocating", unfollowed := true, recurses := true, plainKeys := false, apart := false }
def FnIsLocatingSaid : Prop := fnIsLocatingRow.holds Try.pinned (OpenSpec.ofChange fnIsLocatingSpec)

/-- ITS FALSE NEIGHBOUR: 'it returns false'. Refute it at one input. -/
def fnIsLocatingWrong : ChangeSpec := { name := "fnIsLocating", fn := fun _ => fun
  | [d] => { results := [.lit (.bool false)], args := [d] }
  | _ => none }
def FnIsLocatingWrongFalsely : Prop := fnIsLocatingRow.holds Try.pinned (OpenSpec.ofChange fnIsLocatingWrong)

/-- 'laws.FnIsDetecting': WHATEVER THE INPUT: true; the input reads as it did. -/
def fnIsDetectingSpec : ChangeSpec := { name := "fnIsDetecting", fn := fun _ => fun
  | [d] => { results := [.lit (.bool true)], args := [d] }
  | _ => none }
def fnIsDetectingRow : OpenClaim := { program := "ytekkhadlchfjnaa", sum := "3f4a735fafcb26d96eb12cd5ba39cb4bbd24af28863c034b445bc841da2a6f9f", func := "loop.example/coveringtests/laws.FnIsDetecting", spec := "fnIsDetecting", recurses := true, plainKeys := false, apart := false }
def FnIsDetectingSaid : Prop := fnIsDetectingRow.holds Try.pinned (OpenSpec.ofChange fnIsDetectingSpec)

/-- ITS FALSE NEIGHBOUR: 'it returns false'. Refute it at one input. -/
def fnIsDetectingWrong : ChangeSpec := { name := "fnIsDetecting", fn := fun _ => fun
  | [d] => { results := [.lit (.bool false)], args := [d] }
  | _ => none }
def FnIsDetectingWrongFalsely : Prop := fnIsDetectingRow.holds Try.pinned (OpenSpec.ofChange fnIsDetectingWrong)

/-- 'laws.FnSplitTest': WHATEVER THE INPUT: true; the input reads as it did. -/
def fnSplitTestSpec : ChangeSpec := { name := "fnSplitTest", fn := fun _ => fun
  | [d] => { results := [.lit (.bool true)], args := [d] }
  | _ => none }
def fnSplitTestRow : OpenClaim := { program := "ytekkhadlchfjnaa", sum := "3f4a735fafcb26d96eb12cd5ba39cb4bbd24af28863c034b445bc841da2a6f9f", func := "loop.example/coveringtests/laws.FnSplitTest", spec := "fnSplitTest", unfollowed := true, recurses := true, plainKeys := false, apart := false }
def FnSplitTestSaid : Prop := fnSplitTestRow.holds Try.pinned (OpenSpec.ofChange fnSplitTestSpec)

/-- ITS FALSE NEIGHBOUR: 'it returns false'. Refute it at one input. -/
def fnSplitTestWrong : ChangeSpec := { name := "fnSplitTest", fn := fun _ => fun
  | [d] => { results := [.lit (.bool false)], args := [d] }
  | _ => none }
def FnSplitTestWrongFalsely : Prop := fnSplitTestRow.holds Try.pinned (OpenSpec.ofChange fnSplitTestWrong)

/-- 'laws.FnShrinkFailure': WHATEVER THE INPUT: true; the input reads as it did. -/
def fnShrinkFailureSpec : ChangeSpec := { name := "fnShrinkFailure", fn := fun _ => fun
  | [d] => { results := [.lit (.bool true)], args := [d] }
  | _ => none }
def fnShrinkFailureRow : OpenClaim := { program := "ytekkhadlchfjnaa", sum := "3f4a735fafcb26d96eb12cd5ba39cb4bbd24af28863c034b445bc841da2a6f9f", func := "loop.example/coveringtests/laws.FnShrinkFailure", spec := "fnShrinkFailure", unfollowed := true, recurses := true, plainKeys := false, apart := false }
def FnShrinkFailureSaid : Prop := fnShrinkFailureRow.holds Try.pinned (OpenSpec.ofChange fnShrinkFailureSpec)

/-- ITS FALSE NEIGHBOUR: 'it returns false'. Refute it at one input. -/
def fnShrinkFailureWrong : ChangeSpec := { name := "fnShrinkFailure", fn := fun _ => fun
  | [d] => { results := [.lit (.bool false)], args := [d] }
  | _ => none }
def FnShrinkFailureWrongFalsely : Prop := fnShrinkFailureRow.holds Try.pinned (OpenSpec.ofChange fnShrinkFailureWrong)

/- THE SECOND FORM. 'bulk': how many values and letters a reading holds, each counted each time it is reached (what is shared counts as often as it is met; a slice's spare places count too). A statement '..UptoSaid' is the law's where the arguments, and the package variables that the reading takes, are together of bulk at most 1048576: NARROWER than '..Said'. Prove '..Said' where nothing that the law and all that it calls make is longer than what came in: it says more and counts as full. Else prove '..UptoSaid'. A law counts once. -/
mutual
def uptoBulk {H : Type} : DataW H → Nat
  | .lit (.string bytes) => bytes.length + 1
  | .lit _ => 1
  | .nil => 1
  | .ptr d => uptoBulk d + 1
  | .slice elems spare => uptoBulkAll elems + uptoBulkAll spare + 1
  | .agg parts => uptoBulkAll parts + 1
  | .iface _ d => uptoBulk d + 1
  | .map entries => uptoBulkEntries entries + 1
  | .held _ => 1
def uptoBulkAll {H : Type} : List (DataW H) → Nat
  | [] => 0
  | d :: r => uptoBulk d + uptoBulkAll r
def uptoBulkEntries {H : Type} : List (Lit × DataW H) → Nat
  | [] => 0
  | x :: r => uptoBulkEntry x + uptoBulkEntries r
def uptoBulkEntry {H : Type} : Lit × DataW H → Nat
  | (.string bytes, d) => bytes.length + uptoBulk d + 1
  | (_, d) => uptoBulk d + 1
 end
def uptoSmall : (H : Type) → List (DataW H) → Bool := fun _ ds => decide (uptoBulkAll ds ≤ 1048576)
def OpenSpec.upto (s : _root_.Go.ChangeSpec) : _root_.Go.OpenSpec := { _root_.Go.OpenSpec.ofChange s with cond := some uptoSmall }

/-- 'laws.FnAllowedTests', WHERE WHAT IT READS IS OF BULK AT MOST 1048576: true; the input reads as it did. -/
def fnAllowedTestsUptoRow : OpenClaim := { program := "ytekkhadlchfjnaa", sum := "3f4a735fafcb26d96eb12cd5ba39cb4bbd24af28863c034b445bc841da2a6f9f", func := "loop.example/coveringtests/laws.FnAllowedTests", spec := "fnAllowedTests", unfollowed := true, recurses := true, plainKeys := false, apart := false, narrowed := true }
def FnAllowedTestsUptoSaid : Prop := fnAllowedTestsUptoRow.holds Try.pinned (OpenSpec.upto fnAllowedTestsSpec)

/-- 'laws.FnCompleteTest', WHERE WHAT IT READS IS OF BULK AT MOST 1048576: true; the input reads as it did. -/
def fnCompleteTestUptoRow : OpenClaim := { program := "ytekkhadlchfjnaa", sum := "3f4a735fafcb26d96eb12cd5ba39cb4bbd24af28863c034b445bc841da2a6f9f", func := "loop.example/coveringtests/laws.FnCompleteTest", spec := "fnCompleteTest", unfollowed := true, recurses := true, plainKeys := false, apart := false, narrowed := true }
def FnCompleteTestUptoSaid : Prop := fnCompleteTestUptoRow.holds Try.pinned (OpenSpec.upto fnCompleteTestSpec)

/-- 'laws.FnLeastBans', WHERE WHAT IT READS IS OF BULK AT MOST 1048576: true; the input reads as it did. -/
def fnLeastBansUptoRow : OpenClaim := { program := "ytekkhadlchfjnaa", sum := "3f4a735fafcb26d96eb12cd5ba39cb4bbd24af28863c034b445bc841da2a6f9f", func := "loop.example/coveringtests/laws.FnLeastBans", spec := "fnLeastBans", unfollowed := true, recurses := true, plainKeys := false, apart := false, narrowed := true }
def FnLeastBansUptoSaid : Prop := fnLeastBansUptoRow.holds Try.pinned (OpenSpec.upto fnLeastBansSpec)

/-- 'laws.FnSameBans', WHERE WHAT IT READS IS OF BULK AT MOST 1048576: true; the input reads as it did. -/
def fnSameBansUptoRow : OpenClaim := { program := "ytekkhadlchfjnaa", sum := "3f4a735fafcb26d96eb12cd5ba39cb4bbd24af28863c034b445bc841da2a6f9f", func := "loop.example/coveringtests/laws.FnSameBans", spec := "fnSameBans", unfollowed := true, recurses := true, plainKeys := false, apart := false, narrowed := true }
def FnSameBansUptoSaid : Prop := fnSameBansUptoRow.holds Try.pinned (OpenSpec.upto fnSameBansSpec)

/-- 'laws.FnBestTest', WHERE WHAT IT READS IS OF BULK AT MOST 1048576: true; the input reads as it did. -/
def fnBestTestUptoRow : OpenClaim := { program := "ytekkhadlchfjnaa", sum := "3f4a735fafcb26d96eb12cd5ba39cb4bbd24af28863c034b445bc841da2a6f9f", func := "loop.example/coveringtests/laws.FnBestTest", spec := "fnBestTest", unfollowed := true, recurses := true, plainKeys := false, apart := false, narrowed := true }
def FnBestTestUptoSaid : Prop := fnBestTestUptoRow.holds Try.pinned (OpenSpec.upto fnBestTestSpec)

/-- 'laws.FnGrowSuite', WHERE WHAT IT READS IS OF BULK AT MOST 1048576: true; the input reads as it did. -/
def fnGrowSuiteUptoRow : OpenClaim := { program := "ytekkhadlchfjnaa", sum := "3f4a735fafcb26d96eb12cd5ba39cb4bbd24af28863c034b445bc841da2a6f9f", func := "loop.example/coveringtests/laws.FnGrowSuite", spec := "fnGrowSuite", unfollowed := true, recurses := true, plainKeys := false, apart := false, narrowed := true }
def FnGrowSuiteUptoSaid : Prop := fnGrowSuiteUptoRow.holds Try.pinned (OpenSpec.upto fnGrowSuiteSpec)

/-- 'laws.FnResultsOf', WHERE WHAT IT READS IS OF BULK AT MOST 1048576: true; the input reads as it did. -/
def fnResultsOfUptoRow : OpenClaim := { program := "ytekkhadlchfjnaa", sum := "3f4a735fafcb26d96eb12cd5ba39cb4bbd24af28863c034b445bc841da2a6f9f", func := "loop.example/coveringtests/laws.FnResultsOf", spec := "fnResultsOf", unfollowed := true, recurses := true, plainKeys := false, apart := false, narrowed := true }
def FnResultsOfUptoSaid : Prop := fnResultsOfUptoRow.holds Try.pinned (OpenSpec.upto fnResultsOfSpec)

/-- 'laws.FnSuspectsOf', WHERE WHAT IT READS IS OF BULK AT MOST 1048576: true; the input reads as it did. -/
def fnSuspectsOfUptoRow : OpenClaim := { program := "ytekkhadlchfjnaa", sum := "3f4a735fafcb26d96eb12cd5ba39cb4bbd24af28863c034b445bc841da2a6f9f", func := "loop.example/coveringtests/laws.FnSuspectsOf", spec := "fnSuspectsOf", unfollowed := true, recurses := true, plainKeys := false, apart := false, narrowed := true }
def FnSuspectsOfUptoSaid : Prop := fnSuspectsOfUptoRow.holds Try.pinned (OpenSpec.upto fnSuspectsOfSpec)

/-- 'laws.FnSuspectsOfFault', WHERE WHAT IT READS IS OF BULK AT MOST 1048576: true; the input reads as it did. -/
def fnSuspectsOfFaultUptoRow : OpenClaim := { program := "ytekkhadlchfjnaa", sum := "3f4a735fafcb26d96eb12cd5ba39cb4bbd24af28863c034b445bc841da2a6f9f", func := "loop.example/coveringtests/laws.FnSuspectsOfFault", spec := "fnSuspectsOfFault", unfollowed := true, recurses := true, plainKeys := false, apart := false, narrowed := true }
def FnSuspectsOfFaultUptoSaid : Prop := fnSuspectsOfFaultUptoRow.holds Try.pinned (OpenSpec.upto fnSuspectsOfFaultSpec)

/-- 'laws.FnCulpritsOf', WHERE WHAT IT READS IS OF BULK AT MOST 1048576: true; the input reads as it did. -/
def fnCulpritsOfUptoRow : OpenClaim := { program := "ytekkhadlchfjnaa", sum := "3f4a735fafcb26d96eb12cd5ba39cb4bbd24af28863c034b445bc841da2a6f9f", func := "loop.example/coveringtests/laws.FnCulpritsOf", spec := "fnCulpritsOf", unfollowed := true, recurses := true, plainKeys := false, apart := false, narrowed := true }
def FnCulpritsOfUptoSaid : Prop := fnCulpritsOfUptoRow.holds Try.pinned (OpenSpec.upto fnCulpritsOfSpec)

/-- 'laws.FnIsLocating', WHERE WHAT IT READS IS OF BULK AT MOST 1048576: true; the input reads as it did. -/
def fnIsLocatingUptoRow : OpenClaim := { program := "ytekkhadlchfjnaa", sum := "3f4a735fafcb26d96eb12cd5ba39cb4bbd24af28863c034b445bc841da2a6f9f", func := "loop.example/coveringtests/laws.FnIsLocating", spec := "fnIsLocating", unfollowed := true, recurses := true, plainKeys := false, apart := false, narrowed := true }
def FnIsLocatingUptoSaid : Prop := fnIsLocatingUptoRow.holds Try.pinned (OpenSpec.upto fnIsLocatingSpec)

/-- 'laws.FnIsDetecting', WHERE WHAT IT READS IS OF BULK AT MOST 1048576: true; the input reads as it did. -/
def fnIsDetectingUptoRow : OpenClaim := { program := "ytekkhadlchfjnaa", sum := "3f4a735fafcb26d96eb12cd5ba39cb4bbd24af28863c034b445bc841da2a6f9f", func := "loop.example/coveringtests/laws.FnIsDetecting", spec := "fnIsDetecting", recurses := true, plainKeys := false, apart := false, narrowed := true }
def FnIsDetectingUptoSaid : Prop := fnIsDetectingUptoRow.holds Try.pinned (OpenSpec.upto fnIsDetectingSpec)

/-- 'laws.FnSplitTest', WHERE WHAT IT READS IS OF BULK AT MOST 1048576: true; the input reads as it did. -/
def fnSplitTestUptoRow : OpenClaim := { program := "ytekkhadlchfjnaa", sum := "3f4a735fafcb26d96eb12cd5ba39cb4bbd24af28863c034b445bc841da2a6f9f", func := "loop.example/coveringtests/laws.FnSplitTest", spec := "fnSplitTest", unfollowed := true, recurses := true, plainKeys := false, apart := false, narrowed := true }
def FnSplitTestUptoSaid : Prop := fnSplitTestUptoRow.holds Try.pinned (OpenSpec.upto fnSplitTestSpec)

/-- 'laws.FnShrinkFailure', WHERE WHAT IT READS IS OF BULK AT MOST 1048576: true; the input reads as it did. -/
def fnShrinkFailureUptoRow : OpenClaim := { program := "ytekkhadlchfjnaa", sum := "3f4a735fafcb26d96eb12cd5ba39cb4bbd24af28863c034b445bc841da2a6f9f", func := "loop.example/coveringtests/laws.FnShrinkFailure", spec := "fnShrinkFailure", unfollowed := true, recurses := true, plainKeys := false, apart := false, narrowed := true }
def FnShrinkFailureUptoSaid : Prop := fnShrinkFailureUptoRow.holds Try.pinned (OpenSpec.upto fnShrinkFailureSpec)

end Rows
end Go.Proofs.Ytekkhadlchfjnaa
