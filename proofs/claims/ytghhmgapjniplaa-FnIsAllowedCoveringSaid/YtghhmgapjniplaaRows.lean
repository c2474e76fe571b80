/-
  No cell of these rows narrows 'for every input' (looked for: loops, veiled, ifaces, maps, wideKeys, modest, calm, conditions, laid).
  DERIVED. THE GIVEN ROWS OF THIS SEAT. 21 by the template 'for every input the law returns true; each argument reads behind the call as it read before'; 0 by the template 'total and deterministic' (their statements: YtghhmgapjniplaaTotals.lean).
  GIVEN WITH THE SEED: the statements are not yours to turn. If you find one false, say at which input.
  Laid BY PROGRAM, IN A SANDBOX (cutbox-rows.mjs): the forced cells as the released guide's own fill.sh prints them over the translation 716fbe5b2517de12… (all of the seat's roots in one cut). By AI agents, Wed Nov 11 2026. No macro, syntax, notation, axiom, sorry.
-/
import Derived.Test.YtghhmgapjniplaaChecked
import GoSem.Claim
import GoSem.ClaimJoined
import GoSem.ClaimMapViews
import Derived.JoinedTies
import Derived.KernelRfl
namespace Go.Proofs.Ytghhmgapjniplaa
/- THE CELL 'sum', in the pinned program and in every row, IS THE sha256 OF THE DUMP (.gsa) THAT YtghhmgapjniplaaProg.lean LOADS. Nothing in Lean hashes anything: it is a label: what it is worth is what the hold of that sum in a sandbox is worth. -/
noncomputable def Try.pinned : Pinned := { name := "ytghhmgapjniplaa", sum := "716fbe5b2517de125be3a4e0a3582a2e1fa16d9cfea4e2a95e04ab4d3e9665b9", checked := Try.checked }
namespace Rows
def none {H : Type} : Left H := { results := [], args := [] }

/-- 'laws.FnIsCovering': WHATEVER THE INPUT: true; the input reads as it did. -/
def fnIsCoveringSpec : ChangeSpec := { name := "fnIsCovering", fn := fun _ => fun
  | [d] => { results := [.lit (.bool true)], args := [d] }
  | _ => none }
def fnIsCoveringRow : OpenClaim := { program := "ytghhmgapjniplaa", sum := "716fbe5b2517de125be3a4e0a3582a2e1fa16d9cfea4e2a95e04ab4d3e9665b9", func := "loop.example/coveringtests/laws.FnIsCovering", spec := "fnIsCovering", unfollowed := true, recurses := true, plainKeys := false, apart := false }
def FnIsCoveringSaid : Prop := fnIsCoveringRow.holds Try.pinned (OpenSpec.ofChange fnIsCoveringSpec)

/-- ITS FALSE NEIGHBOUR: 'it returns false'. Refute it at one input. -/
def fnIsCoveringWrong : ChangeSpec := { name := "fnIsCovering", fn := fun _ => fun
  | [d] => { results := [.lit (.bool false)], args := [d] }
  | _ => none }
def FnIsCoveringWrongFalsely : Prop := fnIsCoveringRow.holds Try.pinned (OpenSpec.ofChange fnIsCoveringWrong)

/-- 'laws.FnIsBalanced': WHATEVER THE INPUT: true; the input reads as it did. -/
def fnIsBalancedSpec : ChangeSpec := { name := "fnIsBalanced", fn := fun _ => fun
  | [d] => { results := [.lit (.bool true)], args := [d] }
  | _ => none }
def fnIsBalancedRow : OpenClaim := { program := "ytghhmgapjniplaa", sum := "716fbe5b2517de125be3a4e0a3582a2e1fa16d9cfea4e2a95e04ab4d3e9665b9", func := "loop.example/coveringtests/laws.FnIsBalanced", spec := "fnIsBalanced", recurses := true, plainKeys := false, apart := false }
def FnIsBalancedSaid : Prop := fnIsBalancedRow.holds Try.pinned (OpenSpec.ofChange fnIsBalancedSpec)

/-- ITS FALSE NEIGHBOUR: 'it returns false'. Refute it at one input. -/
def fnIsBalancedWrong : ChangeSpec := { name := "fnIsBalanced", fn := fun _ => fun
  | [d] => { results := [.lit (.bool false)], args := [d] }
  | _ => none }
def FnIsBalancedWrongFalsely : Prop := fnIsBalancedRow.holds Try.pinned (OpenSpec.ofChange fnIsBalancedWrong)

/-- 'laws.FnBestTest': WHATEVER THE INPUT: true; the input reads as it did. -/
def fnBestTestSpec : ChangeSpec := { name := "fnBestTest", fn := fun _ => fun
  | [d] => { results := [.lit (.bool true)], args := [d] }
  | _ => none }
def fnBestTestRow : OpenClaim := { program := "ytghhmgapjniplaa", sum := "716fbe5b2517de125be3a4e0a3582a2e1fa16d9cfea4e2a95e04ab4d3e9665b9", func := "loop.example/coveringtests/laws.FnBestTest", spec := "fnBestTest", unfollowed := true, recurses := true, plainKeys := false, apart := false }
def FnBestTestSaid : Prop := fnBestTestRow.holds Try.pinned (OpenSpec.ofChange fnBestTestSpec)

/-- ITS FALSE NEIGHBOUR: 'it returns false'. Refute it at one input. -/
def fnBestTestWrong : ChangeSpec := { name := "fnBestTest", fn := fun _ => fun
  | [d] => { results := [.lit (.bool false)], args := [d] }
  | _ => none }
def FnBestTestWrongFalsely : Prop := fnBestTestRow.holds Try.pinned (OpenSpec.ofChange fnBestTestWrong)

/-- 'laws.FnGrowSuite': WHATEVER THE INPUT: true; the input reads as it did. -/
def fnGrowSuiteSpec : ChangeSpec := { name := "fnGrowSuite", fn := fun _ => fun
  | [d] => { results := [.lit (.bool true)], args := [d] }
  | _ => none }
def fnGrowSuiteRow : OpenClaim := { program := "ytghhmgapjniplaa", sum := "716fbe5b2517de125be3a4e0a3582a2e1fa16d9cfea4e2a95e04ab4d3e9665b9", func := "loop.example/coveringtests/laws.FnGrowSuite", spec := "fnGrowSuite", unfollowed := true, recurses := true, plainKeys := false, apart := false }
def FnGrowSuiteSaid : Prop := fnGrowSuiteRow.holds Try.pinned (OpenSpec.ofChange fnGrowSuiteSpec)

/-- ITS FALSE NEIGHBOUR: 'it returns false'. Refute it at one input. -/
def fnGrowSuiteWrong : ChangeSpec := { name := "fnGrowSuite", fn := fun _ => fun
  | [d] => { results := [.lit (.bool false)], args := [d] }
  | _ => none }
def FnGrowSuiteWrongFalsely : Prop := fnGrowSuiteRow.holds Try.pinned (OpenSpec.ofChange fnGrowSuiteWrong)

/-- 'laws.FnLeastTests': WHATEVER THE INPUT: true; the input reads as it did. -/
def fnLeastTestsSpec : ChangeSpec := { name := "fnLeastTests", fn := fun _ => fun
  | [d] => { results := [.lit (.bool true)], args := [d] }
  | _ => none }
def fnLeastTestsRow : OpenClaim := { program := "ytghhmgapjniplaa", sum := "716fbe5b2517de125be3a4e0a3582a2e1fa16d9cfea4e2a95e04ab4d3e9665b9", func := "loop.example/coveringtests/laws.FnLeastTests", spec := "fnLeastTests", unfollowed := true, recurses := true, plainKeys := false, apart := false }
def FnLeastTestsSaid : Prop := fnLeastTestsRow.holds Try.pinned (OpenSpec.ofChange fnLeastTestsSpec)

/-- ITS FALSE NEIGHBOUR: 'it returns false'. Refute it at one input. -/
def fnLeastTestsWrong : ChangeSpec := { name := "fnLeastTests", fn := fun _ => fun
  | [d] => { results := [.lit (.bool false)], args := [d] }
  | _ => none }
def FnLeastTestsWrongFalsely : Prop := fnLeastTestsRow.holds Try.pinned (OpenSpec.ofChange fnLeastTestsWrong)

/-- 'laws.FnFewestTests': WHATEVER THE INPUT: true; the input reads as it did. -/
def fnFewestTestsSpec : ChangeSpec := { name := "fnFewestTests", fn := fun _ => fun
  | [d] => { results := [.lit (.bool true)], args := [d] }
  | _ => none }
def fnFewestTestsRow : OpenClaim := { program := "ytghhmgapjniplaa", sum := "716fbe5b2517de125be3a4e0a3582a2e1fa16d9cfea4e2a95e04ab4d3e9665b9", func := "loop.example/coveringtests/laws.FnFewestTests", spec := "fnFewestTests", unfollowed := true, recurses := true, plainKeys := false, apart := false }
def FnFewestTestsSaid : Prop := fnFewestTestsRow.holds Try.pinned (OpenSpec.ofChange fnFewestTestsSpec)

/-- ITS FALSE NEIGHBOUR: 'it returns false'. Refute it at one input. -/
def fnFewestTestsWrong : ChangeSpec := { name := "fnFewestTests", fn := fun _ => fun
  | [d] => { results := [.lit (.bool false)], args := [d] }
  | _ => none }
def FnFewestTestsWrongFalsely : Prop := fnFewestTestsRow.holds Try.pinned (OpenSpec.ofChange fnFewestTestsWrong)

/-- 'laws.FnSquareSuite': WHATEVER THE INPUT: true; the input reads as it did. -/
def fnSquareSuiteSpec : ChangeSpec := { name := "fnSquareSuite", fn := fun _ => fun
  | [d] => { results := [.lit (.bool true)], args := [d] }
  | _ => none }
def fnSquareSuiteRow : OpenClaim := { program := "ytghhmgapjniplaa", sum := "716fbe5b2517de125be3a4e0a3582a2e1fa16d9cfea4e2a95e04ab4d3e9665b9", func := "loop.example/coveringtests/laws.FnSquareSuite", spec := "fnSquareSuite", recurses := true, plainKeys := false, apart := false }
def FnSquareSuiteSaid : Prop := fnSquareSuiteRow.holds Try.pinned (OpenSpec.ofChange fnSquareSuiteSpec)

/-- ITS FALSE NEIGHBOUR: 'it returns false'. Refute it at one input. -/
def fnSquareSuiteWrong : ChangeSpec := { name := "fnSquareSuite", fn := fun _ => fun
  | [d] => { results := [.lit (.bool false)], args := [d] }
  | _ => none }
def FnSquareSuiteWrongFalsely : Prop := fnSquareSuiteRow.holds Try.pinned (OpenSpec.ofChange fnSquareSuiteWrong)

/-- 'laws.FnAddFactor': WHATEVER THE INPUT: true; the input reads as it did. -/
def fnAddFactorSpec : ChangeSpec := { name := "fnAddFactor", fn := fun _ => fun
  | [d] => { results := [.lit (.bool true)], args := [d] }
  | _ => none }
def fnAddFactorRow : OpenClaim := { program := "ytghhmgapjniplaa", sum := "716fbe5b2517de125be3a4e0a3582a2e1fa16d9cfea4e2a95e04ab4d3e9665b9", func := "loop.example/coveringtests/laws.FnAddFactor", spec := "fnAddFactor", unfollowed := true, recurses := true, plainKeys := false, apart := false }
def FnAddFactorSaid : Prop := fnAddFactorRow.holds Try.pinned (OpenSpec.ofChange fnAddFactorSpec)

/-- ITS FALSE NEIGHBOUR: 'it returns false'. Refute it at one input. -/
def fnAddFactorWrong : ChangeSpec := { name := "fnAddFactor", fn := fun _ => fun
  | [d] => { results := [.lit (.bool false)], args := [d] }
  | _ => none }
def FnAddFactorWrongFalsely : Prop := fnAddFactorRow.holds Try.pinned (OpenSpec.ofChange fnAddFactorWrong)

/-- 'laws.FnJoinPatterns': WHATEVER THE INPUT: true; the input reads as it did. -/
def fnJoinPatternsSpec : ChangeSpec := { name := "fnJoinPatterns", fn := fun _ => fun
  | [d] => { results := [.lit (.bool true)], args := [d] }
  | _ => none }
def fnJoinPatternsRow : OpenClaim := { program := "ytghhmgapjniplaa", sum := "716fbe5b2517de125be3a4e0a3582a2e1fa16d9cfea4e2a95e04ab4d3e9665b9", func := "loop.example/coveringtests/laws.FnJoinPatterns", spec := "fnJoinPatterns", recurses := true, plainKeys := false, apart := false }
def FnJoinPatternsSaid : Prop := fnJoinPatternsRow.holds Try.pinned (OpenSpec.ofChange fnJoinPatternsSpec)

/-- ITS FALSE NEIGHBOUR: 'it returns false'. Refute it at one input. -/
def fnJoinPatternsWrong : ChangeSpec := { name := "fnJoinPatterns", fn := fun _ => fun
  | [d] => { results := [.lit (.bool false)], args := [d] }
  | _ => none }
def FnJoinPatternsWrongFalsely : Prop := fnJoinPatternsRow.holds Try.pinned (OpenSpec.ofChange fnJoinPatternsWrong)

/-- 'laws.FnParsePattern': WHATEVER THE INPUT: true; the input reads as it did. -/
def fnParsePatternSpec : ChangeSpec := { name := "fnParsePattern", fn := fun _ => fun
  | [d] => { results := [.lit (.bool true)], args := [d] }
  | _ => none }
def fnParsePatternRow : OpenClaim := { program := "ytghhmgapjniplaa", sum := "716fbe5b2517de125be3a4e0a3582a2e1fa16d9cfea4e2a95e04ab4d3e9665b9", func := "loop.example/coveringtests/laws.FnParsePattern", spec := "fnParsePattern", plainKeys := false, apart := false }
def FnParsePatternSaid : Prop := fnParsePatternRow.holds Try.pinned (OpenSpec.ofChange fnParsePatternSpec)

/-- ITS FALSE NEIGHBOUR: 'it returns false'. Refute it at one input. -/
def fnParsePatternWrong : ChangeSpec := { name := "fnParsePattern", fn := fun _ => fun
  | [d] => { results := [.lit (.bool false)], args := [d] }
  | _ => none }
def FnParsePatternWrongFalsely : Prop := fnParsePatternRow.holds Try.pinned (OpenSpec.ofChange fnParsePatternWrong)

/-- 'laws.FnValidBans': WHATEVER THE INPUT: true; the input reads as it did. -/
def fnValidBansSpec : ChangeSpec := { name := "fnValidBans", fn := fun _ => fun
  | [d] => { results := [.lit (.bool true)], args := [d] }
  | _ => none }
def fnValidBansRow : OpenClaim := { program := "ytghhmgapjniplaa", sum := "716fbe5b2517de125be3a4e0a3582a2e1fa16d9cfea4e2a95e04ab4d3e9665b9", func := "loop.example/coveringtests/laws.FnValidBans", spec := "fnValidBans", plainKeys := false, apart := false }
def FnValidBansSaid : Prop := fnValidBansRow.holds Try.pinned (OpenSpec.ofChange fnValidBansSpec)

/-- ITS FALSE NEIGHBOUR: 'it returns false'. Refute it at one input. -/
def fnValidBansWrong : ChangeSpec := { name := "fnValidBans", fn := fun _ => fun
  | [d] => { results := [.lit (.bool false)], args := [d] }
  | _ => none }
def FnValidBansWrongFalsely : Prop := fnValidBansRow.holds Try.pinned (OpenSpec.ofChange fnValidBansWrong)

/-- 'laws.FnAllowedTests': WHATEVER THE INPUT: true; the input reads as it did. -/
def fnAllowedTestsSpec : ChangeSpec := { name := "fnAllowedTests", fn := fun _ => fun
  | [d] => { results := [.lit (.bool true)], args := [d] }
  | _ => none }
def fnAllowedTestsRow : OpenClaim := { program := "ytghhmgapjniplaa", sum := "716fbe5b2517de125be3a4e0a3582a2e1fa16d9cfea4e2a95e04ab4d3e9665b9", func := "loop.example/coveringtests/laws.FnAllowedTests", spec := "fnAllowedTests", unfollowed := true, recurses := true, plainKeys := false, apart := false }
def FnAllowedTestsSaid : Prop := fnAllowedTestsRow.holds Try.pinned (OpenSpec.ofChange fnAllowedTestsSpec)

/-- ITS FALSE NEIGHBOUR: 'it returns false'. Refute it at one input. -/
def fnAllowedTestsWrong : ChangeSpec := { name := "fnAllowedTests", fn := fun _ => fun
  | [d] => { results := [.lit (.bool false)], args := [d] }
  | _ => none }
def FnAllowedTestsWrongFalsely : Prop := fnAllowedTestsRow.holds Try.pinned (OpenSpec.ofChange fnAllowedTestsWrong)

/-- 'laws.FnIsPossible': WHATEVER THE INPUT: true; the input reads as it did. -/
def fnIsPossibleSpec : ChangeSpec := { name := "fnIsPossible", fn := fun _ => fun
  | [d] => { results := [.lit (.bool true)], args := [d] }
  | _ => none }
def fnIsPossibleRow : OpenClaim := { program := "ytghhmgapjniplaa", sum := "716fbe5b2517de125be3a4e0a3582a2e1fa16d9cfea4e2a95e04ab4d3e9665b9", func := "loop.example/coveringtests/laws.FnIsPossible", spec := "fnIsPossible", unfollowed := true, recurses := true, plainKeys := false, apart := false }
def FnIsPossibleSaid : Prop := fnIsPossibleRow.holds Try.pinned (OpenSpec.ofChange fnIsPossibleSpec)

/-- ITS FALSE NEIGHBOUR: 'it returns false'. Refute it at one input. -/
def fnIsPossibleWrong : ChangeSpec := { name := "fnIsPossible", fn := fun _ => fun
  | [d] => { results := [.lit (.bool false)], args := [d] }
  | _ => none }
def FnIsPossibleWrongFalsely : Prop := fnIsPossibleRow.holds Try.pinned (OpenSpec.ofChange fnIsPossibleWrong)

/-- 'laws.FnCompleteTest': WHATEVER THE INPUT: true; the input reads as it did. -/
def fnCompleteTestSpec : ChangeSpec := { name := "fnCompleteTest", fn := fun _ => fun
  | [d] => { results := [.lit (.bool true)], args := [d] }
  | _ => none }
def fnCompleteTestRow : OpenClaim := { program := "ytghhmgapjniplaa", sum := "716fbe5b2517de125be3a4e0a3582a2e1fa16d9cfea4e2a95e04ab4d3e9665b9", func := "loop.example/coveringtests/laws.FnCompleteTest", spec := "fnCompleteTest", unfollowed := true, recurses := true, plainKeys := false, apart := false }
def FnCompleteTestSaid : Prop := fnCompleteTestRow.holds Try.pinned (OpenSpec.ofChange fnCompleteTestSpec)

/-- ITS FALSE NEIGHBOUR: 'it returns false'. Refute it at one input. -/
def fnCompleteTestWrong : ChangeSpec := { name := "fnCompleteTest", fn := fun _ => fun
  | [d] => { results := [.lit (.bool false)], args := [d] }
  | _ => none }
def FnCompleteTestWrongFalsely : Prop := fnCompleteTestRow.holds Try.pinned (OpenSpec.ofChange fnCompleteTestWrong)

/-- 'laws.FnPossiblePatterns': WHATEVER THE INPUT: true; the input reads as it did. -/
def fnPossiblePatternsSpec : ChangeSpec := { name := "fnPossiblePatterns", fn := fun _ => fun
  | [d] => { results := [.lit (.bool true)], args := [d] }
  | _ => none }
def fnPossiblePatternsRow : OpenClaim := { program := "ytghhmgapjniplaa", sum := "716fbe5b2517de125be3a4e0a3582a2e1fa16d9cfea4e2a95e04ab4d3e9665b9", func := "loop.example/coveringtests/laws.FnPossiblePatterns", spec := "fnPossiblePatterns", unfollowed := true, recurses := true, plainKeys := false, apart := false }
def FnPossiblePatternsSaid : Prop := fnPossiblePatternsRow.holds Try.pinned (OpenSpec.ofChange fnPossiblePatternsSpec)

/-- ITS FALSE NEIGHBOUR: 'it returns false'. Refute it at one input. -/
def fnPossiblePatternsWrong : ChangeSpec := { name := "fnPossiblePatterns", fn := fun _ => fun
  | [d] => { results := [.lit (.bool false)], args := [d] }
  | _ => none }
def FnPossiblePatternsWrongFalsely : Prop := fnPossiblePatternsRow.holds Try.pinned (OpenSpec.ofChange fnPossiblePatternsWrong)

/-- 'laws.FnImpliedBans': WHATEVER THE INPUT: true; the input reads as it did. -/
def fnImpliedBansSpec : ChangeSpec := { name := "fnImpliedBans", fn := fun _ => fun
  | [d] => { results := [.lit (.bool true)], args := [d] }
  | _ => none }
def fnImpliedBansRow : OpenClaim := { program := "ytghhmgapjniplaa", sum := "716fbe5b2517de125be3a4e0a3582a2e1fa16d9cfea4e2a95e04ab4d3e9665b9", func := "loop.example/coveringtests/laws.FnImpliedBans", spec := "fnImpliedBans", unfollowed := true, recurses := true, plainKeys := false, apart := false }
def FnImpliedBansSaid : Prop := fnImpliedBansRow.holds Try.pinned (OpenSpec.ofChange fnImpliedBansSpec)

/-- ITS FALSE NEIGHBOUR: 'it returns false'. Refute it at one input. -/
def fnImpliedBansWrong : ChangeSpec := { name := "fnImpliedBans", fn := fun _ => fun
  | [d] => { results := [.lit (.bool false)], args := [d] }
  | _ => none }
def FnImpliedBansWrongFalsely : Prop := fnImpliedBansRow.holds Try.pinned (OpenSpec.ofChange fnImpliedBansWrong)

/-- 'laws.FnLeastBans': WHATEVER THE INPUT: true; the input reads as it did. -/
def fnLeastBansSpec : ChangeSpec := { name := "fnLeastBans", fn := fun _ => fun
  | [d] => { results := [.lit (.bool true)], args := [d] }
  | _ => none }
def fnLeastBansRow : OpenClaim := { program := "ytghhmgapjniplaa", sum := "716fbe5b2517de125be3a4e0a3582a2e1fa16d9cfea4e2a95e04ab4d3e9665b9", func := "loop.example/coveringtests/laws.FnLeastBans", spec := "fnLeastBans", unfollowed := true, recurses := true, plainKeys := false, apart := false }
def FnLeastBansSaid : Prop := fnLeastBansRow.holds Try.pinned (OpenSpec.ofChange fnLeastBansSpec)

/-- ITS FALSE NEIGHBOUR: 'it returns false'. Refute it at one input. -/
def fnLeastBansWrong : ChangeSpec := { name := "fnLeastBans", fn := fun _ => fun
  | [d] => { results := [.lit (.bool false)], args := [d] }
  | _ => none }
def FnLeastBansWrongFalsely : Prop := fnLeastBansRow.holds Try.pinned (OpenSpec.ofChange fnLeastBansWrong)

/-- 'laws.FnSameBans': WHATEVER THE INPUT: true; the input reads as it did. -/
def fnSameBansSpec : ChangeSpec := { name := "fnSameBans", fn := fun _ => fun
  | [d] => { results := [.lit (.bool true)], args := [d] }
  | _ => none }
def fnSameBansRow : OpenClaim := { program := "ytghhmgapjniplaa", sum := "716fbe5b2517de125be3a4e0a3582a2e1fa16d9cfea4e2a95e04ab4d3e9665b9", func := "loop.example/coveringtests/laws.FnSameBans", spec := "fnSameBans", unfollowed := true, recurses := true, plainKeys := false, apart := false }
def FnSameBansSaid : Prop := fnSameBansRow.holds Try.pinned (OpenSpec.ofChange fnSameBansSpec)

/-- ITS FALSE NEIGHBOUR: 'it returns false'. Refute it at one input. -/
def fnSameBansWrong : ChangeSpec := { name := "fnSameBans", fn := fun _ => fun
  | [d] => { results := [.lit (.bool false)], args := [d] }
  | _ => none }
def FnSameBansWrongFalsely : Prop := fnSameBansRow.holds Try.pinned (OpenSpec.ofChange fnSameBansWrong)

/-- 'laws.FnIsAllowedCovering': WHATEVER THE INPUT: true; the input reads as it did. -/
def fnIsAllowedCoveringSpec : ChangeSpec := { name := "fnIsAllowedCovering", fn := fun _ => fun
  | [d] => { results := [.lit (.bool true)], args := [d] }
  | _ => none }
def fnIsAllowedCoveringRow : OpenClaim := { program := "ytghhmgapjniplaa", sum := "716fbe5b2517de125be3a4e0a3582a2e1fa16d9cfea4e2a95e04ab4d3e9665b9", func := "loop.example/coveringtests/laws.FnIsAllowedCovering", spec := "fnIsAllowedCovering", unfollowed := true, recurses := true, plainKeys := false, apart := false }
def FnIsAllowedCoveringSaid : Prop := fnIsAllowedCoveringRow.holds Try.pinned (OpenSpec.ofChange fnIsAllowedCoveringSpec)

/-- ITS FALSE NEIGHBOUR: 'it returns false'. Refute it at one input. -/
def fnIsAllowedCoveringWrong : ChangeSpec := { name := "fnIsAllowedCovering", fn := fun _ => fun
  | [d] => { results := [.lit (.bool false)], args := [d] }
  | _ => none }
def FnIsAllowedCoveringWrongFalsely : Prop := fnIsAllowedCoveringRow.holds Try.pinned (OpenSpec.ofChange fnIsAllowedCoveringWrong)

/-- 'laws.FnGrowAllowed': WHATEVER THE INPUT: true; the input reads as it did. -/
def fnGrowAllowedSpec : ChangeSpec := { name := "fnGrowAllowed", fn := fun _ => fun
  | [d] => { results := [.lit (.bool true)], args := [d] }
  | _ => none }
def fnGrowAllowedRow : OpenClaim := { program := "ytghhmgapjniplaa", sum := "716fbe5b2517de125be3a4e0a3582a2e1fa16d9cfea4e2a95e04ab4d3e9665b9", func := "loop.example/coveringtests/laws.FnGrowAllowed", spec := "fnGrowAllowed", unfollowed := true, recurses := true, plainKeys := false, apart := false }
def FnGrowAllowedSaid : Prop := fnGrowAllowedRow.holds Try.pinned (OpenSpec.ofChange fnGrowAllowedSpec)

/-- ITS FALSE NEIGHBOUR: 'it returns false'. Refute it at one input. -/
def fnGrowAllowedWrong : ChangeSpec := { name := "fnGrowAllowed", fn := fun _ => fun
  | [d] => { results := [.lit (.bool false)], args := [d] }
  | _ => none }
def FnGrowAllowedWrongFalsely : Prop := fnGrowAllowedRow.holds Try.pinned (OpenSpec.ofChange fnGrowAllowedWrong)

/-- 'laws.FnExplainBans': WHATEVER THE INPUT: true; the input reads as it did. -/
def fnExplainBansSpec : ChangeSpec := { name := "fnExplainBans", fn := fun _ => fun
  | [d] => { results := [.lit (.bool true)], args := [d] }
  | _ => none }
def fnExplainBansRow : OpenClaim := { program := "ytghhmgapjniplaa", sum := "716fbe5b2517de125be3a4e0a3582a2e1fa16d9cfea4e2a95e04ab4d3e9665b9", func := "loop.example/coveringtests/laws.FnExplainBans", spec := "fnExplainBans", unfollowed := true, recurses := true, plainKeys := false, apart := false }
def FnExplainBansSaid : Prop := fnExplainBansRow.holds Try.pinned (OpenSpec.ofChange fnExplainBansSpec)

/-- ITS FALSE NEIGHBOUR: 'it returns false'. Refute it at one input. -/
def fnExplainBansWrong : ChangeSpec := { name := "fnExplainBans", fn := fun _ => fun
  | [d] => { results := [.lit (.bool false)], args := [d] }
  | _ => none }
def FnExplainBansWrongFalsely : Prop := fnExplainBansRow.holds Try.pinned (OpenSpec.ofChange fnExplainBansWrong)

/- THE SECOND FORM. 'bulk': how many values and letters a reading holds, each counted each time it is reached (what is shared counts as often as it is met; a slice's spare places count too). A statement '..UptoSaid' is the law's where the arguments, and the package variables that the reading takes, are together of bulk at most 1048576: NARROWER than '..Said'. Prove '..Said' where nothing that the law and all that it calls make is longer than what came in: it says more and counts as full. Else prove '..UptoSaid'. A law counts once. -/
mutual
def uptoBulk {H : Type} : DataW H → Nat
  | .lit (.string bytes) => bytes.length + 1
  | .lit _ => 1
  | .nil => 1
  | .ptr d => uptoBulk d + 1
  | .slice elems spare => uptoBulkAll elems + uptoBulkAll spare + 1
  | .agg parts => uptoBulkAll parts + 1
  | .iface _ d => uptoBulk d + 1
  | .map entries => uptoBulkEntries entries + 1
  | .held _ => 1
def uptoBulkAll {H : Type} : List (DataW H) → Nat
  | [] => 0
  | d :: r => uptoBulk d + uptoBulkAll r
def uptoBulkEntries {H : Type} : List (Lit × DataW H) → Nat
  | [] => 0
  | x :: r => uptoBulkEntry x + uptoBulkEntries r
def uptoBulkEntry {H : Type} : Lit × DataW H → Nat
  | (.string bytes, d) => bytes.length + uptoBulk d + 1
  | (_, d) => uptoBulk d + 1
 end
def uptoSmall : (H : Type) → List (DataW H) → Bool := fun _ ds => decide (uptoBulkAll ds ≤ 1048576)
def OpenSpec.upto (s : _root_.Go.ChangeSpec) : _root_.Go.OpenSpec := { _root_.Go.OpenSpec.ofChange s with cond := some uptoSmall }

/-- 'laws.FnIsCovering', WHERE WHAT IT READS IS OF BULK AT MOST 1048576: true; the input reads as it did. -/
def fnIsCoveringUptoRow : OpenClaim := { program := "ytghhmgapjniplaa", sum := "716fbe5b2517de125be3a4e0a3582a2e1fa16d9cfea4e2a95e04ab4d3e9665b9", func := "loop.example/coveringtests/laws.FnIsCovering", spec := "fnIsCovering", unfollowed := true, recurses := true, plainKeys := false, apart := false, narrowed := true }
def FnIsCoveringUptoSaid : Prop := fnIsCoveringUptoRow.holds Try.pinned (OpenSpec.upto fnIsCoveringSpec)

/-- 'laws.FnIsBalanced', WHERE WHAT IT READS IS OF BULK AT MOST 1048576: true; the input reads as it did. -/
def fnIsBalancedUptoRow : OpenClaim := { program := "ytghhmgapjniplaa", sum := "716fbe5b2517de125be3a4e0a3582a2e1fa16d9cfea4e2a95e04ab4d3e9665b9", func := "loop.example/coveringtests/laws.FnIsBalanced", spec := "fnIsBalanced", recurses := true, plainKeys := false, apart := false, narrowed := true }
def FnIsBalancedUptoSaid : Prop := fnIsBalancedUptoRow.holds Try.pinned (OpenSpec.upto fnIsBalancedSpec)

/-- 'laws.FnBestTest', WHERE WHAT IT READS IS OF BULK AT MOST 1048576: true; the input reads as it did. -/
def fnBestTestUptoRow : OpenClaim := { program := "ytghhmgapjniplaa", sum := "716fbe5b2517de125be3a4e0a3582a2e1fa16d9cfea4e2a95e04ab4d3e9665b9", func := "loop.example/coveringtests/laws.FnBestTest", spec := "fnBestTest", unfollowed := true, recurses := true, plainKeys := false, apart := false, narrowed := true }
def FnBestTestUptoSaid : Prop := fnBestTestUptoRow.holds Try.pinned (OpenSpec.upto fnBestTestSpec)

/-- 'laws.FnGrowSuite', WHERE WHAT IT READS IS OF BULK AT MOST 1048576: true; the input reads as it did. -/
def fnGrowSuiteUptoRow : OpenClaim := { program := "ytghhmgapjniplaa", sum := "716fbe5b2517de125be3a4e0a3582a2e1fa16d9cfea4e2a95e04ab4d3e9665b9", func := "loop.example/coveringtests/laws.FnGrowSuite", spec := "fnGrowSuite", unfollowed := true, recurses := true, plainKeys := false, apart := false, narrowed := true }
def FnGrowSuiteUptoSaid : Prop := fnGrowSuiteUptoRow.holds Try.pinned (OpenSpec.upto fnGrowSuiteSpec)

/-- 'laws.FnLeastTests', WHERE WHAT IT READS IS OF BULK AT MOST 1048576: true; the input reads as it did. -/
def fnLeastTestsUptoRow : OpenClaim := { program := "ytghhmgapjniplaa", sum := "716fbe5b2517de125be3a4e0a3582a2e1fa16d9cfea4e2a95e04ab4d3e9665b9", func := "loop.example/coveringtests/laws.FnLeastTests", spec := "fnLeastTests", unfollowed := true, recurses := true, plainKeys := false, apart := false, narrowed := true }
def FnLeastTestsUptoSaid : Prop := fnLeastTestsUptoRow.holds Try.pinned (OpenSpec.upto fnLeastTestsSpec)

/-- 'laws.FnFewestTests', WHERE WHAT IT READS IS OF BULK AT MOST 1048576: true; the input reads as it did. -/
def fnFewestTestsUptoRow : OpenClaim := { program := "ytghhmgapjniplaa", sum := "716fbe5b2517de125be3a4e0a3582a2e1fa16d9cfea4e2a95e04ab4d3e9665b9", func := "loop.example/coveringtests/laws.FnFewestTests", spec := "fnFewestTests", unfollowed := true, recurses := true, plainKeys := false, apart := false, narrowed := true }
def FnFewestTestsUptoSaid : Prop := fnFewestTestsUptoRow.holds Try.pinned (OpenSpec.upto fnFewestTestsSpec)

/-- 'laws.FnSquareSuite', WHERE WHAT IT READS IS OF BULK AT MOST 1048576: true; the input reads as it did. -/
def fnSquareSuiteUptoRow : OpenClaim := { program := "ytghhmgapjniplaa", sum := "716fbe5b2517de125be3a4e0a3582a2e1fa16d9cfea4e2a95e04ab4d3e9665b9", func := "loop.example/coveringtests/laws.FnSquareSuite", spec := "fnSquareSuite", recurses := true, plainKeys := false, apart := false, narrowed := true }
def FnSquareSuiteUptoSaid : Prop := fnSquareSuiteUptoRow.holds Try.pinned (OpenSpec.upto fnSquareSuiteSpec)

/-- 'laws.FnAddFactor', WHERE WHAT IT READS IS OF BULK AT MOST 1048576: true; the input reads as it did. -/
def fnAddFactorUptoRow : OpenClaim := { program := "ytghhmgapjniplaa", sum := "716fbe5b2517de125be3a4e0a3582a2e1fa16d9cfea4e2a95e04ab4d3e9665b9", func := "loop.example/coveringtests/laws.FnAddFactor", spec := "fnAddFactor", unfollowed := true, recurses := true, plainKeys := false, apart := false, narrowed := true }
def FnAddFactorUptoSaid : Prop := fnAddFactorUptoRow.holds Try.pinned (OpenSpec.upto fnAddFactorSpec)

/-- 'laws.FnJoinPatterns', WHERE WHAT IT READS IS OF BULK AT MOST 1048576: true; the input reads as it did. -/
def fnJoinPatternsUptoRow : OpenClaim := { program := "ytghhmgapjniplaa", sum := "716fbe5b2517de125be3a4e0a3582a2e1fa16d9cfea4e2a95e04ab4d3e9665b9", func := "loop.example/coveringtests/laws.FnJoinPatterns", spec := "fnJoinPatterns", recurses := true, plainKeys := false, apart := false, narrowed := true }
def FnJoinPatternsUptoSaid : Prop := fnJoinPatternsUptoRow.holds Try.pinned (OpenSpec.upto fnJoinPatternsSpec)

/-- 'laws.FnParsePattern', WHERE WHAT IT READS IS OF BULK AT MOST 1048576: true; the input reads as it did. -/
def fnParsePatternUptoRow : OpenClaim := { program := "ytghhmgapjniplaa", sum := "716fbe5b2517de125be3a4e0a3582a2e1fa16d9cfea4e2a95e04ab4d3e9665b9", func := "loop.example/coveringtests/laws.FnParsePattern", spec := "fnParsePattern", plainKeys := false, apart := false, narrowed := true }
def FnParsePatternUptoSaid : Prop := fnParsePatternUptoRow.holds Try.pinned (OpenSpec.upto fnParsePatternSpec)

/-- 'laws.FnValidBans', WHERE WHAT IT READS IS OF BULK AT MOST 1048576: true; the input reads as it did. -/
def fnValidBansUptoRow : OpenClaim := { program := "ytghhmgapjniplaa", sum := "716fbe5b2517de125be3a4e0a3582a2e1fa16d9cfea4e2a95e04ab4d3e9665b9", func := "loop.example/coveringtests/laws.FnValidBans", spec := "fnValidBans", plainKeys := false, apart := false, narrowed := true }
def FnValidBansUptoSaid : Prop := fnValidBansUptoRow.holds Try.pinned (OpenSpec.upto fnValidBansSpec)

/-- 'laws.FnAllowedTests', WHERE WHAT IT READS IS OF BULK AT MOST 1048576: true; the input reads as it did. -/
def fnAllowedTestsUptoRow : OpenClaim := { program := "ytghhmgapjniplaa", sum := "716fbe5b2517de125be3a4e0a3582a2e1fa16d9cfea4e2a95e04ab4d3e9665b9", func := "loop.example/coveringtests/laws.FnAllowedTests", spec := "fnAllowedTests", unfollowed := true, recurses := true, plainKeys := false, apart := false, narrowed := true }
def FnAllowedTestsUptoSaid : Prop := fnAllowedTestsUptoRow.holds Try.pinned (OpenSpec.upto fnAllowedTestsSpec)

/-- 'laws.FnIsPossible', WHERE WHAT IT READS IS OF BULK AT MOST 1048576: true; the input reads as it did. -/
def fnIsPossibleUptoRow : OpenClaim := { program := "ytghhmgapjniplaa", sum := "716fbe5b2517de125be3a4e0a3582a2e1fa16d9cfea4e2a95e04ab4d3e9665b9", func := "loop.example/coveringtests/laws.FnIsPossible", spec := "fnIsPossible", unfollowed := true, recurses := true, plainKeys := false, apart := false, narrowed := true }
def FnIsPossibleUptoSaid : Prop := fnIsPossibleUptoRow.holds Try.pinned (OpenSpec.upto fnIsPossibleSpec)

/-- 'laws.FnCompleteTest', WHERE WHAT IT READS IS OF BULK AT MOST 1048576: true; the input reads as it did. -/
def fnCompleteTestUptoRow : OpenClaim := { program := "ytghhmgapjniplaa", sum := "716fbe5b2517de125be3a4e0a3582a2e1fa16d9cfea4e2a95e04ab4d3e9665b9", func := "loop.example/coveringtests/laws.FnCompleteTest", spec := "fnCompleteTest", unfollowed := true, recurses := true, plainKeys := false, apart := false, narrowed := true }
def FnCompleteTestUptoSaid : Prop := fnCompleteTestUptoRow.holds Try.pinned (OpenSpec.upto fnCompleteTestSpec)

/-- 'laws.FnPossiblePatterns', WHERE WHAT IT READS IS OF BULK AT MOST 1048576: true; the input reads as it did. -/
def fnPossiblePatternsUptoRow : OpenClaim := { program := "ytghhmgapjniplaa", sum := "716fbe5b2517de125be3a4e0a3582a2e1fa16d9cfea4e2a95e04ab4d3e9665b9", func := "loop.example/coveringtests/laws.FnPossiblePatterns", spec := "fnPossiblePatterns", unfollowed := true, recurses := true, plainKeys := false, apart := false, narrowed := true }
def FnPossiblePatternsUptoSaid : Prop := fnPossiblePatternsUptoRow.holds Try.pinned (OpenSpec.upto fnPossiblePatternsSpec)

/-- 'laws.FnImpliedBans', WHERE WHAT IT READS IS OF BULK AT MOST 1048576: true; the input reads as it did. -/
def fnImpliedBansUptoRow : OpenClaim := { program := "ytghhmgapjniplaa", sum := "716fbe5b2517de125be3a4e0a3582a2e1fa16d9cfea4e2a95e04ab4d3e9665b9", func := "loop.example/coveringtests/laws.FnImpliedBans", spec := "fnImpliedBans", unfollowed := true, recurses := true, plainKeys := false, apart := false, narrowed := true }
def FnImpliedBansUptoSaid : Prop := fnImpliedBansUptoRow.holds Try.pinned (OpenSpec.upto fnImpliedBansSpec)

/-- 'laws.FnLeastBans', WHERE WHAT IT READS IS OF BULK AT MOST 1048576: true; the input reads as it did. -/
def fnLeastBansUptoRow : OpenClaim := { program := "ytghhmgapjniplaa", sum := "716fbe5b2517de125be3a4e0a3582a2e1fa16d9cfea4e2a95e04ab4d3e9665b9", func := "loop.example/coveringtests/laws.FnLeastBans", spec := "fnLeastBans", unfollowed := true, recurses := true, plainKeys := false, apart := false, narrowed := true }
def FnLeastBansUptoSaid : Prop := fnLeastBansUptoRow.holds Try.pinned (OpenSpec.upto fnLeastBansSpec)

/-- 'laws.FnSameBans', WHERE WHAT IT READS IS OF BULK AT MOST 1048576: true; the input reads as it did. -/
def fnSameBansUptoRow : OpenClaim := { program := "ytghhmgapjniplaa", sum := "716fbe5b2517de125be3a4e0a3582a2e1fa16d9cfea4e2a95e04ab4d3e9665b9", func := "loop.example/coveringtests/laws.FnSameBans", spec := "fnSameBans", unfollowed := true, recurses := true, plainKeys := false, apart := false, narrowed := true }
def FnSameBansUptoSaid : Prop := fnSameBansUptoRow.holds Try.pinned (OpenSpec.upto fnSameBansSpec)

/-- 'laws.FnIsAllowedCovering', WHERE WHAT IT READS IS OF BULK AT MOST 1048576: true; the input reads as it did. -/
def fnIsAllowedCoveringUptoRow : OpenClaim := { program := "ytghhmgapjniplaa", sum := "716fbe5b2517de125be3a4e0a3582a2e1fa16d9cfea4e2a95e04ab4d3e9665b9", func := "loop.example/coveringtests/laws.FnIsAllowedCovering", spec := "fnIsAllowedCovering", unfollowed := true, recurses := true, plainKeys := false, apart := false, narrowed := true }
def FnIsAllowedCoveringUptoSaid : Prop := fnIsAllowedCoveringUptoRow.holds Try.pinned (OpenSpec.upto fnIsAllowedCoveringSpec)

/-- 'laws.FnGrowAllowed', WHERE WHAT IT READS IS OF BULK AT MOST 1048576: true; the input reads as it did. -/
def fnGrowAllowedUptoRow : OpenClaim := { program := "ytghhmgapjniplaa", sum := "716fbe5b2517de125be3a4e0a3582a2e1fa16d9cfea4e2a95e04ab4d3e9665b9", func := "loop.example/coveringtests/laws.FnGrowAllowed", spec := "fnGrowAllowed", unfollowed := true, recurses := true, plainKeys := false, apart := false, narrowed := true }
def FnGrowAllowedUptoSaid : Prop := fnGrowAllowedUptoRow.holds Try.pinned (OpenSpec.upto fnGrowAllowedSpec)

/-- 'laws.FnExplainBans', WHERE WHAT IT READS IS OF BULK AT MOST 1048576: true; the input reads as it did. -/
def fnExplainBansUptoRow : OpenClaim := { program := "ytghhmgapjniplaa", sum := "716fbe5b2517de125be3a4e0a3582a2e1fa16d9cfea4e2a95e04ab4d3e9665b9", func := "loop.example/coveringtests/laws.FnExplainBans", spec := "fnExplainBans", unfollowed := true, recurses := true, plainKeys := false, apart := false, narrowed := true }
def FnExplainBansUptoSaid : Prop := fnExplainBansUptoRow.holds Try.pinned (OpenSpec.upto fnExplainBansSpec)

end Rows
end Go.Proofs.Ytghhmgapjniplaa
