/-
  No cell of these rows narrows 'for every input' (looked for: loops, veiled, ifaces, maps, wideKeys, modest, calm, conditions, laid).
  DERIVED. THE GIVEN ROWS OF THIS SEAT. 24 by the template 'for every input the law returns true; each argument reads behind the call as it read before'; 0 by the template 'total and deterministic' (their statements: YtehoagbpgahopaaTotals.lean).
  GIVEN WITH THE SEED: the statements are not yours to turn. If you find one false, say at which input.
  Laid BY PROGRAM, IN A SANDBOX (cutbox-rows.mjs): the forced cells as the released guide's own fill.sh prints them over the translation 188f84f42aaf0da2… (all of the seat's roots in one cut). By AI agents, Wed Nov 11 2026. No macro, syntax, notation, axiom, sorry.
-/
import Derived.Test.YtehoagbpgahopaaChecked
import GoSem.Claim
import GoSem.ClaimJoined
import GoSem.ClaimMapViews
import Derived.JoinedTies
import Derived.KernelRfl
namespace Go.Proofs.Ytehoagbpgahopaa
/- THE CELL 'sum', in the pinned program and in every row, IS THE sha256 OF THE DUMP (.gsa) THAT YtehoagbpgahopaaProg.lean LOADS. Nothing in Lean hashes anything: it is a label: what it is worth is what the hold of that sum in a sandbox is worth. -/
noncomputable def Try.pinned : Pinned := { name := "ytehoagbpgahopaa", sum := "188f84f42aaf0da2c7ce26a79aa1c11687792c96f30e516bfd0e8c83e1dc1ffb", checked := Try.checked }
namespace Rows
def none {H : Type} : Left H := { results := [], args := [] }

/-- 'laws.FnValidBans': WHATEVER THE INPUT: true; the input reads as it did. -/
def fnValidBansSpec : ChangeSpec := { name := "fnValidBans", fn := fun _ => fun
  | [d] => { results := [.lit (.bool true)], args := [d] }
  | _ => none }
def fnValidBansRow : OpenClaim := { program := "ytehoagbpgahopaa", sum := "188f84f42aaf0da2c7ce26a79aa1c11687792c96f30e516bfd0e8c83e1dc1ffb", func := "loop.example/coveringtests/laws.FnValidBans", spec := "fnValidBans", plainKeys := false, apart := false }
def FnValidBansSaid : Prop := fnValidBansRow.holds Try.pinned (OpenSpec.ofChange fnValidBansSpec)

/-- ITS FALSE NEIGHBOUR: 'it returns false'. Refute it at one input. -/
def fnValidBansWrong : ChangeSpec := { name := "fnValidBans", fn := fun _ => fun
  | [d] => { results := [.lit (.bool false)], args := [d] }
  | _ => none }
def FnValidBansWrongFalsely : Prop := fnValidBansRow.holds Try.pinned (OpenSpec.ofChange fnValidBansWrong)

/-- 'laws.FnIsPossible': WHATEVER THE INPUT: true; the input reads as it did. -/
def fnIsPossibleSpec : ChangeSpec := { name := "fnIsPossible", fn := fun _ => fun
  | [d] => { results := [.lit (.bool true)], args := [d] }
  | _ => none }
def fnIsPossibleRow : OpenClaim := { program := "ytehoagbpgahopaa", sum := "188f84f42aaf0da2c7ce26a79aa1c11687792c96f30e516bfd0e8c83e1dc1ffb", func := "loop.example/coveringtests/laws.FnIsPossible", spec := "fnIsPossible", unfollowed := true, recurses := true, plainKeys := false, apart := false }
def FnIsPossibleSaid : Prop := fnIsPossibleRow.holds Try.pinned (OpenSpec.ofChange fnIsPossibleSpec)

/-- ITS FALSE NEIGHBOUR: 'it returns false'. Refute it at one input. -/
def fnIsPossibleWrong : ChangeSpec := { name := "fnIsPossible", fn := fun _ => fun
  | [d] => { results := [.lit (.bool false)], args := [d] }
  | _ => none }
def FnIsPossibleWrongFalsely : Prop := fnIsPossibleRow.holds Try.pinned (OpenSpec.ofChange fnIsPossibleWrong)

/-- 'laws.FnPossiblePatterns': WHATEVER THE INPUT: true; the input reads as it did. -/
def fnPossiblePatternsSpec : ChangeSpec := { name := "fnPossiblePatterns", fn := fun _ => fun
  | [d] => { results := [.lit (.bool true)], args := [d] }
  | _ => none }
def fnPossiblePatternsRow : OpenClaim := { program := "ytehoagbpgahopaa", sum := "188f84f42aaf0da2c7ce26a79aa1c11687792c96f30e516bfd0e8c83e1dc1ffb", func := "loop.example/coveringtests/laws.FnPossiblePatterns", spec := "fnPossiblePatterns", unfollowed := true, recurses := true, plainKeys := false, apart := false }
def FnPossiblePatternsSaid : Prop := fnPossiblePatternsRow.holds Try.pinned (OpenSpec.ofChange fnPossiblePatternsSpec)

/-- ITS FALSE NEIGHBOUR: 'it returns false'. Refute it at one input. -/
def fnPossiblePatternsWrong : ChangeSpec := { name := "fnPossiblePatterns", fn := fun _ => fun
  | [d] => { results := [.lit (.bool false)], args := [d] }
  | _ => none }
def FnPossiblePatternsWrongFalsely : Prop := fnPossiblePatternsRow.holds Try.pinned (OpenSpec.ofChange fnPossiblePatternsWrong)

/-- 'laws.FnIsAllowedCovering': WHATEVER THE INPUT: true; the input reads as it did. -/
def fnIsAllowedCoveringSpec : ChangeSpec := { name := "fnIsAllowedCovering", fn := fun _ => fun
  | [d] => { results := [.lit (.bool true)], args := [d] }
  | _ => none }
def fnIsAllowedCoveringRow : OpenClaim := { program := "ytehoagbpgahopaa", sum := "188f84f42aaf0da2c7ce26a79aa1c11687792c96f30e516bfd0e8c83e1dc1ffb", func := "loop.example/coveringtests/laws.FnIsAllowedCovering", spec := "fnIsAllowedCovering", unfollowed := true, recurses := true, plainKeys := false, apart := false }
def FnIsAllowedCoveringSaid : Prop := fnIsAllowedCoveringRow.holds Try.pinned (OpenSpec.ofChange fnIsAllowedCoveringSpec)

/-- ITS FALSE NEIGHBOUR: 'it returns false'. Refute it at one input. -/
def fnIsAllowedCoveringWrong : ChangeSpec := { name := "fnIsAllowedCovering", fn := fun _ => fun
  | [d] => { results := [.lit (.bool false)], args := [d] }
  | _ => none }
def FnIsAllowedCoveringWrongFalsely : Prop := fnIsAllowedCoveringRow.holds Try.pinned (OpenSpec.ofChange fnIsAllowedCoveringWrong)

/-- 'laws.FnIsCovering': WHATEVER THE INPUT: true; the input reads as it did. -/
def fnIsCoveringSpec : ChangeSpec := { name := "fnIsCovering", fn := fun _ => fun
  | [d] => { results := [.lit (.bool true)], args := [d] }
  | _ => none }
def fnIsCoveringRow : OpenClaim := { program := "ytehoagbpgahopaa", sum := "188f84f42aaf0da2c7ce26a79aa1c11687792c96f30e516bfd0e8c83e1dc1ffb", func := "loop.example/coveringtests/laws.FnIsCovering", spec := "fnIsCovering", unfollowed := true, recurses := true, plainKeys := false, apart := false }
def FnIsCoveringSaid : Prop := fnIsCoveringRow.holds Try.pinned (OpenSpec.ofChange fnIsCoveringSpec)

/-- ITS FALSE NEIGHBOUR: 'it returns false'. Refute it at one input. -/
def fnIsCoveringWrong : ChangeSpec := { name := "fnIsCovering", fn := fun _ => fun
  | [d] => { results := [.lit (.bool false)], args := [d] }
  | _ => none }
def FnIsCoveringWrongFalsely : Prop := fnIsCoveringRow.holds Try.pinned (OpenSpec.ofChange fnIsCoveringWrong)

/-- 'laws.FnIsBalanced': WHATEVER THE INPUT: true; the input reads as it did. -/
def fnIsBalancedSpec : ChangeSpec := { name := "fnIsBalanced", fn := fun _ => fun
  | [d] => { results := [.lit (.bool true)], args := [d] }
  | _ => none }
def fnIsBalancedRow : OpenClaim := { program := "ytehoagbpgahopaa", sum := "188f84f42aaf0da2c7ce26a79aa1c11687792c96f30e516bfd0e8c83e1dc1ffb", func := "loop.example/coveringtests/laws.FnIsBalanced", spec := "fnIsBalanced", recurses := true, plainKeys := false, apart := false }
def FnIsBalancedSaid : Prop := fnIsBalancedRow.holds Try.pinned (OpenSpec.ofChange fnIsBalancedSpec)

/-- ITS FALSE NEIGHBOUR: 'it returns false'. Refute it at one input. -/
def fnIsBalancedWrong : ChangeSpec := { name := "fnIsBalanced", fn := fun _ => fun
  | [d] => { results := [.lit (.bool false)], args := [d] }
  | _ => none }
def FnIsBalancedWrongFalsely : Prop := fnIsBalancedRow.holds Try.pinned (OpenSpec.ofChange fnIsBalancedWrong)

/-- 'laws.FnJoinPatterns': WHATEVER THE INPUT: true; the input reads as it did. -/
def fnJoinPatternsSpec : ChangeSpec := { name := "fnJoinPatterns", fn := fun _ => fun
  | [d] => { results := [.lit (.bool true)], args := [d] }
  | _ => none }
def fnJoinPatternsRow : OpenClaim := { program := "ytehoagbpgahopaa", sum := "188f84f42aaf0da2c7ce26a79aa1c11687792c96f30e516bfd0e8c83e1dc1ffb", func := "loop.example/coveringtests/laws.FnJoinPatterns", spec := "fnJoinPatterns", recurses := true, plainKeys := false, apart := false }
def FnJoinPatternsSaid : Prop := fnJoinPatternsRow.holds Try.pinned (OpenSpec.ofChange fnJoinPatternsSpec)

/-- ITS FALSE NEIGHBOUR: 'it returns false'. Refute it at one input. -/
def fnJoinPatternsWrong : ChangeSpec := { name := "fnJoinPatterns", fn := fun _ => fun
  | [d] => { results := [.lit (.bool false)], args := [d] }
  | _ => none }
def FnJoinPatternsWrongFalsely : Prop := fnJoinPatternsRow.holds Try.pinned (OpenSpec.ofChange fnJoinPatternsWrong)

/-- 'laws.FnParsePattern': WHATEVER THE INPUT: true; the input reads as it did. -/
def fnParsePatternSpec : ChangeSpec := { name := "fnParsePattern", fn := fun _ => fun
  | [d] => { results := [.lit (.bool true)], args := [d] }
  | _ => none }
def fnParsePatternRow : OpenClaim := { program := "ytehoagbpgahopaa", sum := "188f84f42aaf0da2c7ce26a79aa1c11687792c96f30e516bfd0e8c83e1dc1ffb", func := "loop.example/coveringtests/laws.FnParsePattern", spec := "fnParsePattern", plainKeys := false, apart := false }
def FnParsePatternSaid : Prop := fnParsePatternRow.holds Try.pinned (OpenSpec.ofChange fnParsePatternSpec)

/-- ITS FALSE NEIGHBOUR: 'it returns false'. Refute it at one input. -/
def fnParsePatternWrong : ChangeSpec := { name := "fnParsePattern", fn := fun _ => fun
  | [d] => { results := [.lit (.bool false)], args := [d] }
  | _ => none }
def FnParsePatternWrongFalsely : Prop := fnParsePatternRow.holds Try.pinned (OpenSpec.ofChange fnParsePatternWrong)

/-- 'laws.FnLeastTests': WHATEVER THE INPUT: true; the input reads as it did. -/
def fnLeastTestsSpec : ChangeSpec := { name := "fnLeastTests", fn := fun _ => fun
  | [d] => { results := [.lit (.bool true)], args := [d] }
  | _ => none }
def fnLeastTestsRow : OpenClaim := { program := "ytehoagbpgahopaa", sum := "188f84f42aaf0da2c7ce26a79aa1c11687792c96f30e516bfd0e8c83e1dc1ffb", func := "loop.example/coveringtests/laws.FnLeastTests", spec := "fnLeastTests", unfollowed := true, recurses := true, plainKeys := false, apart := false }
def FnLeastTestsSaid : Prop := fnLeastTestsRow.holds Try.pinned (OpenSpec.ofChange fnLeastTestsSpec)

/-- ITS FALSE NEIGHBOUR: 'it returns false'. Refute it at one input. -/
def fnLeastTestsWrong : ChangeSpec := { name := "fnLeastTests", fn := fun _ => fun
  | [d] => { results := [.lit (.bool false)], args := [d] }
  | _ => none }
def FnLeastTestsWrongFalsely : Prop := fnLeastTestsRow.holds Try.pinned (OpenSpec.ofChange fnLeastTestsWrong)

/-- 'laws.FnFewestTests': WHATEVER THE INPUT: true; the input reads as it did. -/
def fnFewestTestsSpec : ChangeSpec := { name := "fnFewestTests", fn := fun _ => fun
  | [d] => { results := [.lit (.bool true)], args := [d] }
  | _ => none }
def fnFewestTestsRow : OpenClaim := { program := "ytehoagbpgahopaa", sum := "188f84f42aaf0da2c7ce26a79aa1c11687792c96f30e516bfd0e8c83e1dc1ffb", func := "loop.example/coveringtests/laws.FnFewestTests", spec := "fnFewestTests", unfollowed := true, recurses := true, plainKeys := false, apart := false }
def FnFewestTestsSaid : Prop := fnFewestTestsRow.holds Try.pinned (OpenSpec.ofChange fnFewestTestsSpec)

/-- ITS FALSE NEIGHBOUR: 'it returns false'. Refute it at one input. -/
def fnFewestTestsWrong : ChangeSpec := { name := "fnFewestTests", fn := fun _ => fun
  | [d] => { results := [.lit (.bool false)], args := [d] }
  | _ => none }
def FnFewestTestsWrongFalsely : Prop := fnFewestTestsRow.holds Try.pinned (OpenSpec.ofChange fnFewestTestsWrong)

/-- 'laws.FnSquareSuite': WHATEVER THE INPUT: true; the input reads as it did. -/
def fnSquareSuiteSpec : ChangeSpec := { name := "fnSquareSuite", fn := fun _ => fun
  | [d] => { results := [.lit (.bool true)], args := [d] }
  | _ => none }
def fnSquareSuiteRow : OpenClaim := { program := "ytehoagbpgahopaa", sum := "188f84f42aaf0da2c7ce26a79aa1c11687792c96f30e516bfd0e8c83e1dc1ffb", func := "loop.example/coveringtests/laws.FnSquareSuite", spec := "fnSquareSuite", recurses := true, plainKeys := false, apart := false }
def FnSquareSuiteSaid : Prop := fnSquareSuiteRow.holds Try.pinned (OpenSpec.ofChange fnSquareSuiteSpec)

/-- ITS FALSE NEIGHBOUR: 'it returns false'. Refute it at one input. -/
def fnSquareSuiteWrong : ChangeSpec := { name := "fnSquareSuite", fn := fun _ => fun
  | [d] => { results := [.lit (.bool false)], args := [d] }
  | _ => none }
def FnSquareSuiteWrongFalsely : Prop := fnSquareSuiteRow.holds Try.pinned (OpenSpec.ofChange fnSquareSuiteWrong)

/-- 'laws.FnAddFactor': WHATEVER THE INPUT: true; the input reads as it did. -/
def fnAddFactorSpec : ChangeSpec := { name := "fnAddFactor", fn := fun _ => fun
  | [d] => { results := [.lit (.bool true)], args := [d] }
  | _ => none }
def fnAddFactorRow : OpenClaim := { program := "ytehoagbpgahopaa", sum := "188f84f42aaf0da2c7ce26a79aa1c11687792c96f30e516bfd0e8c83e1dc1ffb", func := "loop.example/coveringtests/laws.FnAddFactor", spec := "fnAddFactor", unfollowed := true, recurses := true, plainKeys := false, apart := false }
def FnAddFactorSaid : Prop := fnAddFactorRow.holds Try.pinned (OpenSpec.ofChange fnAddFactorSpec)

/-- ITS FALSE NEIGHBOUR: 'it returns false'. Refute it at one input. -/
def fnAddFactorWrong : ChangeSpec := { name := "fnAddFactor", fn := fun _ => fun
  | [d] => { results := [.lit (.bool false)], args := [d] }
  | _ => none }
def FnAddFactorWrongFalsely : Prop := fnAddFactorRow.holds Try.pinned (OpenSpec.ofChange fnAddFactorWrong)

/-- 'laws.FnImpliedBans': WHATEVER THE INPUT: true; the input reads as it did. -/
def fnImpliedBansSpec : ChangeSpec := { name := "fnImpliedBans", fn := fun _ => fun
  | [d] => { results := [.lit (.bool true)], args := [d] }
  | _ => none }
def fnImpliedBansRow : OpenClaim := { program := "ytehoagbpgahopaa", sum := "188f84f42aaf0da2c7ce26a79aa1c11687792c96f30e516bfd0e8c83e1dc1ffb", func := "loop.example/coveringtests/laws.FnImpliedBans", spec := "fnImpliedBans", unfollowed := true, recurses := true, plainKeys := false, apart := false }
def FnImpliedBansSaid : Prop := fnImpliedBansRow.holds Try.pinned (OpenSpec.ofChange fnImpliedBansSpec)

/-- ITS FALSE NEIGHBOUR: 'it returns false'. Refute it at one input. -/
def fnImpliedBansWrong : ChangeSpec := { name := "fnImpliedBans", fn := fun _ => fun
  | [d] => { results := [.lit (.bool false)], args := [d] }
  | _ => none }
def FnImpliedBansWrongFalsely : Prop := fnImpliedBansRow.holds Try.pinned (OpenSpec.ofChange fnImpliedBansWrong)

/-- 'laws.FnGrowAllowed': WHATEVER THE INPUT: true; the input reads as it did. -/
def fnGrowAllowedSpec : ChangeSpec := { name := "fnGrowAllowed", fn := fun _ => fun
  | [d] => { results := [.lit (.bool true)], args := [d] }
  | _ => none }
def fnGrowAllowedRow : OpenClaim := { program := "ytehoagbpgahopaa", sum := "188f84f42aaf0da2c7ce26a79aa1c11687792c96f30e516bfd0e8c83e1dc1ffb", func := "loop.example/coveringtests/laws.FnGrowAllowed", spec := "fnGrowAllowed", unfollowed := true, recurses := true, plainKeys := false, apart := false }
def FnGrowAllowedSaid : Prop := fnGrowAllowedRow.holds Try.pinned (OpenSpec.ofChange fnGrowAllowedSpec)

/-- ITS FALSE NEIGHBOUR: 'it returns false'. Refute it at one input. -/
def fnGrowAllowedWrong : ChangeSpec := { name := "fnGrowAllowed", fn := fun _ => fun
  | [d] => { results := [.lit (.bool false)], args := [d] }
  | _ => none }
def FnGrowAllowedWrongFalsely : Prop := fnGrowAllowedRow.holds Try.pinned (OpenSpec.ofChange fnGrowAllowedWrong)

/-- 'laws.FnExplainBans': WHATEVER THE INPUT: true; the input reads as it did. -/
def fnExplainBansSpec : ChangeSpec := { name := "fnExplainBans", fn := fun _ => fun
  | [d] => { results := [.lit (.bool true)], args := [d] }
  | _ => none }
def fnExplainBansRow : OpenClaim := { program := "ytehoagbpgahopaa", sum := "188f84f42aaf0da2c7ce26a79aa1c11687792c96f30e516bfd0e8c83e1dc1ffb", func := "loop.example/coveringtests/laws.FnExplainBans", spec := "fnExplainBans", unfollowed := true, recurses := true, plainKeys := false, apart := false }
def FnExplainBansSaid : Prop := fnExplainBansRow.holds Try.pinned (OpenSpec.ofChange fnExplainBansSpec)

/-- ITS FALSE NEIGHBOUR: 'it returns false'. Refute it at one input. -/
def fnExplainBansWrong : ChangeSpec := { name := "fnExplainBans", fn := fun _ => fun
  | [d] => { results := [.lit (.bool false)], args := [d] }
  | _ => none }
def FnExplainBansWrongFalsely : Prop := fnExplainBansRow.holds Try.pinned (OpenSpec.ofChange fnExplainBansWrong)

/-- 'laws.FnResultsOf': WHATEVER THE INPUT: true; the input reads as it did. -/
def fnResultsOfSpec : ChangeSpec := { name := "fnResultsOf", fn := fun _ => fun
  | [d] => { results := [.lit (.bool true)], args := [d] }
  | _ => none }
def fnResultsOfRow : OpenClaim := { program := "ytehoagbpgahopaa", sum := "188f84f42aaf0da2c7ce26a79aa1c11687792c96f30e516bfd0e8c83e1dc1ffb", func := "loop.example/coveringtests/laws.FnResultsOf", spec := "fnResultsOf", unfollowed := true, recurses := true, plainKeys := false, apart := false }
def FnResultsOfSaid : Prop := fnResultsOfRow.holds Try.pinned (OpenSpec.ofChange fnResultsOfSpec)

/-- ITS FALSE NEIGHBOUR: 'it returns false'. Refute it at one input. -/
def fnResultsOfWrong : ChangeSpec := { name := "fnResultsOf", fn := fun _ => fun
  | [d] => { results := [.lit (.bool false)], args := [d] }
  | _ => none }
def FnResultsOfWrongFalsely : Prop := fnResultsOfRow.holds Try.pinned (OpenSpec.ofChange fnResultsOfWrong)

/-- 'laws.FnSuspectsOf': WHATEVER THE INPUT: true; the input reads as it did. -/
def fnSuspectsOfSpec : ChangeSpec := { name := "fnSuspectsOf", fn := fun _ => fun
  | [d] => { results := [.lit (.bool true)], args := [d] }
  | _ => none }
def fnSuspectsOfRow : OpenClaim := { program := "ytehoagbpgahopaa", sum := "188f84f42aaf0da2c7ce26a79aa1c11687792c96f30e516bfd0e8c83e1dc1ffb", func := "loop.example/coveringtests/laws.FnSuspectsOf", spec := "fnSuspectsOf", unfollowed := true, recurses := true, plainKeys := false, apart := false }
def FnSuspectsOfSaid : Prop := fnSuspectsOfRow.holds Try.pinned (OpenSpec.ofChange fnSuspectsOfSpec)

/-- ITS FALSE NEIGHBOUR: 'it returns false'. Refute it at one input. -/
def fnSuspectsOfWrong : ChangeSpec := { name := "fnSuspectsOf", fn := fun _ => fun
  | [d] => { results := [.lit (.bool false)], args := [d] }
  | _ => none }
def FnSuspectsOfWrongFalsely : Prop := fnSuspectsOfRow.holds Try.pinned (OpenSpec.ofChange fnSuspectsOfWrong)

/-- 'laws.FnSuspectsOfFault': WHATEVER THE INPUT: true; the input reads as it did. -/
def fnSuspectsOfFaultSpec : ChangeSpec := { name := "fnSuspectsOfFault", fn := fun _ => fun
  | [d] => { results := [.lit (.bool true)], args := [d] }
  | _ => none }
def fnSuspectsOfFaultRow : OpenClaim := { program := "ytehoagbpgahopaa", sum := "188f84f42aaf0da2c7ce26a79aa1c11687792c96f30e516bfd0e8c83e1dc1ffb", func := "loop.example/coveringtests/laws.FnSuspectsOfFault", spec := "fnSuspectsOfFault", unfollowed := true, recurses := true, plainKeys := false, apart := false }
def FnSuspectsOfFaultSaid : Prop := fnSuspectsOfFaultRow.holds Try.pinned (OpenSpec.ofChange fnSuspectsOfFaultSpec)

/-- ITS FALSE NEIGHBOUR: 'it returns false'. Refute it at one input. -/
def fnSuspectsOfFaultWrong : ChangeSpec := { name := "fnSuspectsOfFault", fn := fun _ => fun
  | [d] => { results := [.lit (.bool false)], args := [d] }
  | _ => none }
def FnSuspectsOfFaultWrongFalsely : Prop := fnSuspectsOfFaultRow.holds Try.pinned (OpenSpec.ofChange fnSuspectsOfFaultWrong)

/-- 'laws.FnCulpritsOf': WHATEVER THE INPUT: true; the input reads as it did. -/
def fnCulpritsOfSpec : ChangeSpec := { name := "fnCulpritsOf", fn := fun _ => fun
  | [d] => { results := [.lit (.bool true)], args := [d] }
  | _ => none }
def fnCulpritsOfRow : OpenClaim := { program := "ytehoagbpgahopaa", sum := "188f84f42aaf0da2c7ce26a79aa1c11687792c96f30e516bfd0e8c83e1dc1ffb", func := "loop.example/coveringtests/laws.FnCulpritsOf", spec := "fnCulpritsOf", unfollowed := true, recurses := true, plainKeys := false, apart := false }
def FnCulpritsOfSaid : Prop := fnCulpritsOfRow.holds Try.pinned (OpenSpec.ofChange fnCulpritsOfSpec)

/-- ITS FALSE NEIGHBOUR: 'it returns false'. Refute it at one input. -/
def fnCulpritsOfWrong : ChangeSpec := { name := "fnCulpritsOf", fn := fun _ => fun
  | [d] => { results := [.lit (.bool false)], args := [d] }
  | _ => none }
def FnCulpritsOfWrongFalsely : Prop := fnCulpritsOfRow.holds Try.pinned (OpenSpec.ofChange fnCulpritsOfWrong)

/-- 'laws.FnIsLocating': WHATEVER THE INPUT: true; the input reads as it did. -/
def fnIsLocatingSpec : ChangeSpec := { name := "fnIsLocating", fn := fun _ => fun
  | [d] => { results := [.lit (.bool true)], args := [d] }
  | _ => none }
def fnIsLocatingRow : OpenClaim := { program := "ytehoagbpgahopaa", sum := "188f84f42aaf0da2c7ce26a79aa1c11687792c96f30e516bfd0e8c83e1dc1ffb", func := "loop.example/coveringtests/laws.FnIsLocating", spec := "fnIsLocating", unfollowed := true, recurses := true, plainKeys := false, apart := false }
def FnIsLocatingSaid : Prop := fnIsLocatingRow.holds Try.pinned (OpenSpec.ofChange fnIsLocatingSpec)

/-- ITS FALSE NEIGHBOUR: 'it returns false'. Refute it at one input. -/
def fnIsLocatingWrong : ChangeSpec := { name := "fnIsLocating", fn := fun _ => fun
  | [d] => { results := [.lit (.bool false)], args := [d] }
  | _ => none }
def FnIsLocatingWrongFalsely : Prop := fnIsLocatingRow.holds Try.pinned (OpenSpec.ofChange fnIsLocatingWrong)

/-- 'laws.FnIsDetecting': WHATEVER THE INPUT: true; the input reads as it did. -/
def fnIsDetectingSpec : ChangeSpec := { name := "fnIsDetecting", fn := fun _ => fun
  | [d] => { results := [.lit (.bool true)], args := [d] }
  | _ => none }
def fnIsDetectingRow : OpenClaim := { program := "ytehoagbpgahopaa", sum := "188f84f42aaf0da2c7ce26a79aa1c11687792c96f30e516bfd0e8c83e1dc1ffb", func := "loop.example/coveringtests/laws.FnIsDetecting", spec := "fnIsDetecting", recurses := true, plainKeys := false, apart := false }
def FnIsDetectingSaid : Prop := fnIsDetectingRow.holds Try.pinned (OpenSpec.ofChange fnIsDetectingSpec)

/-- ITS FALSE NEIGHBOUR: 'it returns false'. Refute it at one input. -/
def fnIsDetectingWrong : ChangeSpec := { name := "fnIsDetecting", fn := fun _ => fun
  | [d] => { results := [.lit (.bool false)], args := [d] }
  | _ => none }
def FnIsDetectingWrongFalsely : Prop := fnIsDetectingRow.holds Try.pinned (OpenSpec.ofChange fnIsDetectingWrong)

/-- 'laws.FnSplitTest': WHATEVER THE INPUT: true; the input reads as it did. -/
def fnSplitTestSpec : ChangeSpec := { name := "fnSplitTest", fn := fun _ => fun
  | [d] => { results := [.lit (.bool true)], args := [d] }
  | _ => none }
def fnSplitTestRow : OpenClaim := { program := "ytehoagbpgahopaa", sum := "188f84f42aaf0da2c7ce26a79aa1c11687792c96f30e516bfd0e8c83e1dc1ffb", func := "loop.example/coveringtests/laws.FnSplitTest", spec := "fnSplitTest", unfollowed := true, recurses := true, plainKeys := false, apart := false }
def FnSplitTestSaid : Prop := fnSplitTestRow.holds Try.pinned (OpenSpec.ofChange fnSplitTestSpec)

/-- ITS FALSE NEIGHBOUR: 'it returns false'. Refute it at one input. -/
def fnSplitTestWrong : ChangeSpec := { name := "fnSplitTest", fn := fun _ => fun
  | [d] => { results := [.lit (.bool false)], args := [d] }
  | _ => none }
def FnSplitTestWrongFalsely : Prop := fnSplitTestRow.holds Try.pinned (OpenSpec.ofChange fnSplitTestWrong)

/-- 'laws.FnHuntFault': WHATEVER THE INPUT: true; the input reads as it did. -/
def fnHuntFaultSpec : ChangeSpec := { name := "fnHuntFault", fn := fun _ => fun
  | [d] => { results := [.lit (.bool true)], args := [d] }
  | _ => none }
def fnHuntFaultRow : OpenClaim := { program := "ytehoagbpgahopaa", sum := "188f84f42aaf0da2c7ce26a79aa1c11687792c96f30e516bfd0e8c83e1dc1ffb", func := "loop.example/coveringtests/laws.FnHuntFault", spec := "fnHuntFault", unfollowed := true, recurses := true, plainKeys := false, apart := false }
def FnHuntFaultSaid : Prop := fnHuntFaultRow.holds Try.pinned (OpenSpec.ofChange fnHuntFaultSpec)

/-- ITS FALSE NEIGHBOUR: 'it returns false'. Refute it at one input. -/
def fnHuntFaultWrong : ChangeSpec := { name := "fnHuntFault", fn := fun _ => fun
  | [d] => { results := [.lit (.bool false)], args := [d] }
  | _ => none }
def FnHuntFaultWrongFalsely : Prop := fnHuntFaultRow.holds Try.pinned (OpenSpec.ofChange fnHuntFaultWrong)

/-- 'laws.FnShrinkFailure': WHATEVER THE INPUT: true; the input reads as it did. -/
def fnShrinkFailureSpec : ChangeSpec := { name := "fnShrinkFailure", fn := fun _ => fun
  | [d] => { results := [.lit (.bool true)], args := [d] }
  | _ => none }
def fnShrinkFailureRow : OpenClaim := { program := "ytehoagbpgahopaa", sum := "188f84f42aaf0da2c7ce26a79aa1c11687792c96f30e516bfd0e8c83e1dc1ffb", func := "loop.example/coveringtests/laws.FnShrinkFailure", spec := "fnShrinkFailure", unfollowed := true, recurses := true, plainKeys := false, apart := false }
def FnShrinkFailureSaid : Prop := fnShrinkFailureRow.holds Try.pinned (OpenSpec.ofChange fnShrinkFailureSpec)

/-- ITS FALSE NEIGHBOUR: 'it returns false'. Refute it at one input. -/
def fnShrinkFailureWrong : ChangeSpec := { name := "fnShrinkFailure", fn := fun _ => fun
  | [d] => { results := [.lit (.bool false)], args := [d] }
  | _ => none }
def FnShrinkFailureWrongFalsely : Prop := fnShrinkFailureRow.holds Try.pinned (OpenSpec.ofChange fnShrinkFailureWrong)

/- THE SECOND FORM. 'bulk': how many values and letters a reading holds, each counted each time it is reached (what is shared counts as often as it is met; a slice's spare places count too). A statement '..UptoSaid' is the law's where the arguments, and the package variables that the reading takes, are together of bulk at most 1048576: NARROWER than '..Said'. Prove '..Said' where nothing that the law and all that it calls make is longer than what came in: it says more and counts as full. Else prove '..UptoSaid'. A law counts once. -/
mutual
def uptoBulk {H : Type} : DataW H → Nat
  | .lit (.string bytes) => bytes.length + 1
  | .lit _ => 1
  | .nil => 1
  | .ptr d => uptoBulk d + 1
  | .slice elems spare => uptoBulkAll elems + uptoBulkAll spare + 1
  | .agg parts => uptoBulkAll parts + 1
  | .iface _ d => uptoBulk d + 1
  | .map entries => uptoBulkEntries entries + 1
  | .held _ => 1
def uptoBulkAll {H : Type} : List (DataW H) → Nat
  | [] => 0
  | d :: r => uptoBulk d + uptoBulkAll r
def uptoBulkEntries {H : Type} : List (Lit × DataW H) → Nat
  | [] => 0
  | x :: r => uptoBulkEntry x + uptoBulkEntries r
def uptoBulkEntry {H : Type} : Lit × DataW H → Nat
  | (.string bytes, d) => bytes.length + uptoBulk d + 1
  | (_, d) => uptoBulk d + 1
 end
def uptoSmall : (H : Type) → List (DataW H) → Bool := fun _ ds => decide (uptoBulkAll ds ≤ 1048576)
def OpenSpec.upto (s : _root_.Go.ChangeSpec) : _root_.Go.OpenSpec := { _root_.Go.OpenSpec.ofChange s with cond := some uptoSmall }

/-- 'laws.FnValidBans', WHERE WHAT IT READS IS OF BULK AT MOST 1048576: true; the input reads as it did. -/
def fnValidBansUptoRow : OpenClaim := { program := "ytehoagbpgahopaa", sum := "188f84f42aaf0da2c7ce26a79aa1c11687792c96f30e516bfd0e8c83e1dc1ffb", func := "loop.example/coveringtests/laws.FnValidBans", spec := "fnValidBans", plainKeys := false, apart := false, narrowed := true }
def FnValidBansUptoSaid : Prop := fnValidBansUptoRow.holds Try.pinned (OpenSpec.upto fnValidBansSpec)

/-- 'laws.FnIsPossible', WHERE WHAT IT READS IS OF BULK AT MOST 1048576: true; the input reads as it did. -/
def fnIsPossibleUptoRow : OpenClaim := { program := "ytehoagbpgahopaa", sum := "188f84f42aaf0da2c7ce26a79aa1c11687792c96f30e516bfd0e8c83e1dc1ffb", func := "loop.example/coveringtests/laws.FnIsPossible", spec := "fnIsPossible", unfollowed := true, recurses := true, plainKeys := false, apart := false, narrowed := true }
def FnIsPossibleUptoSaid : Prop := fnIsPossibleUptoRow.holds Try.pinned (OpenSpec.upto fnIsPossibleSpec)

/-- 'laws.FnPossiblePatterns', WHERE WHAT IT READS IS OF BULK AT MOST 1048576: true; the input reads as it did. -/
def fnPossiblePatternsUptoRow : OpenClaim := { program := "ytehoagbpgahopaa", sum := "188f84f42aaf0da2c7ce26a79aa1c11687792c96f30e516bfd0e8c83e1dc1ffb", func := "loop.example/coveringtests/laws.FnPossiblePatterns", spec := "fnPossiblePatterns", unfollowed := true, recurses := true, plainKeys := false, apart := false, narrowed := true }
def FnPossiblePatternsUptoSaid : Prop := fnPossiblePatternsUptoRow.holds Try.pinned (OpenSpec.upto fnPossiblePatternsSpec)

/-- 'laws.FnIsAllowedCovering', WHERE WHAT IT READS IS OF BULK AT MOST 1048576: true; the input reads as it did. -/
def fnIsAllowedCoveringUptoRow : OpenClaim := { program := "ytehoagbpgahopaa", sum := "188f84f42aaf0da2c7ce26a79aa1c11687792c96f30e516bfd0e8c83e1dc1ffb", func := "loop.example/coveringtests/laws.FnIsAllowedCovering", spec := "fnIsAllowedCovering", unfollowed := true, recurses := true, plainKeys := false, apart := false, narrowed := true }
def FnIsAllowedCoveringUptoSaid : Prop := fnIsAllowedCoveringUptoRow.holds Try.pinned (OpenSpec.upto fnIsAllowedCoveringSpec)

/-- 'laws.FnIsCovering', WHERE WHAT IT READS IS OF BULK AT MOST 1048576: true; the input reads as it did. -/
def fnIsCoveringUptoRow : OpenClaim := { program := "ytehoagbpgahopaa", sum := "188f84f42aaf0da2c7ce26a79aa1c11687792c96f30e516bfd0e8c83e1dc1ffb", func := "loop.example/coveringtests/laws.FnIsCovering", spec := "fnIsCovering", unfollowed := true, recurses := true, plainKeys := false, apart := false, narrowed := true }
def FnIsCoveringUptoSaid : Prop := fnIsCoveringUptoRow.holds Try.pinned (OpenSpec.upto fnIsCoveringSpec)

/-- 'laws.FnIsBalanced', WHERE WHAT IT READS IS OF BULK AT MOST 1048576: true; the input reads as it did. -/
def fnIsBalancedUptoRow : OpenClaim := { program := "ytehoagbpgahopaa", sum := "188f84f42aaf0da2c7ce26a79aa1c11687792c96f30e516bfd0e8c83e1dc1ffb", func := "loop.example/coveringtests/laws.FnIsBalanced", spec := "fnIsBalanced", recurses := true, plainKeys := false, apart := false, narrowed := true }
def FnIsBalancedUptoSaid : Prop := fnIsBalancedUptoRow.holds Try.pinned (OpenSpec.upto fnIsBalancedSpec)

/-- 'laws.FnJoinPatterns', WHERE WHAT IT READS IS OF BULK AT MOST 1048576: true; the input reads as it did. -/
def fnJoinPatternsUptoRow : OpenClaim := { program := "ytehoagbpgahopaa", sum := "188f84f42aaf0da2c7ce26a79aa1c11687792c96f30e516bfd0e8c83e1dc1ffb", func := "loop.example/coveringtests/laws.FnJoinPatterns", spec := "fnJoinPatterns", recurses := true, plainKeys := false, apart := false, narrowed := true }
def FnJoinPatternsUptoSaid : Prop := fnJoinPatternsUptoRow.holds Try.pinned (OpenSpec.upto fnJoinPatternsSpec)

/-- 'laws.FnParsePattern', WHERE WHAT IT READS IS OF BULK AT MOST 1048576: true; the input reads as it did. -/
def fnParsePatternUptoRow : OpenClaim := { program := "ytehoagbpgahopaa", sum := "188f84f42aaf0da2c7ce26a79aa1c11687792c96f30e516bfd0e8c83e1dc1ffb", func := "loop.example/coveringtests/laws.FnParsePattern", spec := "fnParsePattern", plainKeys := false, apart := false, narrowed := true }
def FnParsePatternUptoSaid : Prop := fnParsePatternUptoRow.holds Try.pinned (OpenSpec.upto fnParsePatternSpec)

/-- 'laws.FnLeastTests', WHERE WHAT IT READS IS OF BULK AT MOST 1048576: true; the input reads as it did. -/
def fnLeastTestsUptoRow : OpenClaim := { program := "ytehoagbpgahopaa", sum := "188f84f42aaf0da2c7ce26a79aa1c11687792c96f30e516bfd0e8c83e1dc1ffb", func := "loop.example/coveringtests/laws.FnLeastTests", spec := "fnLeastTests", unfollowed := true, recurses := true, plainKeys := false, apart := false, narrowed := true }
def FnLeastTestsUptoSaid : Prop := fnLeastTestsUptoRow.holds Try.pinned (OpenSpec.upto fnLeastTestsSpec)

/-- 'laws.FnFewestTests', WHERE WHAT IT READS IS OF BULK AT MOST 1048576: true; the input reads as it did. -/
def fnFewestTestsUptoRow : OpenClaim := { program := "ytehoagbpgahopaa", sum := "188f84f42aaf0da2c7ce26a79aa1c11687792c96f30e516bfd0e8c83e1dc1ffb", func := "loop.example/coveringtests/laws.FnFewestTests", spec := "fnFewestTests", unfollowed := true, recurses := true, plainKeys := false, apart := false, narrowed := true }
def FnFewestTestsUptoSaid : Prop := fnFewestTestsUptoRow.holds Try.pinned (OpenSpec.upto fnFewestTestsSpec)

/-- 'laws.FnSquareSuite', WHERE WHAT IT READS IS OF BULK AT MOST 1048576: true; the input reads as it did. -/
def fnSquareSuiteUptoRow : OpenClaim := { program := "ytehoagbpgahopaa", sum := "188f84f42aaf0da2c7ce26a79aa1c11687792c96f30e516bfd0e8c83e1dc1ffb", func := "loop.example/coveringtests/laws.FnSquareSuite", spec := "fnSquareSuite", recurses := true, plainKeys := false, apart := false, narrowed := true }
def FnSquareSuiteUptoSaid : Prop := fnSquareSuiteUptoRow.holds Try.pinned (OpenSpec.upto fnSquareSuiteSpec)

/-- 'laws.FnAddFactor', WHERE WHAT IT READS IS OF BULK AT MOST 1048576: true; the input reads as it did. -/
def fnAddFactorUptoRow : OpenClaim := { program := "ytehoagbpgahopaa", sum := "188f84f42aaf0da2c7ce26a79aa1c11687792c96f30e516bfd0e8c83e1dc1ffb", func := "loop.example/coveringtests/laws.FnAddFactor", spec := "fnAddFactor", unfollowed := true, recurses := true, plainKeys := false, apart := false, narrowed := true }
def FnAddFactorUptoSaid : Prop := fnAddFactorUptoRow.holds Try.pinned (OpenSpec.upto fnAddFactorSpec)

/-- 'laws.FnImpliedBans', WHERE WHAT IT READS IS OF BULK AT MOST 1048576: true; the input reads as it did. -/
def fnImpliedBansUptoRow : OpenClaim := { program := "ytehoagbpgahopaa", sum := "188f84f42aaf0da2c7ce26a79aa1c11687792c96f30e516bfd0e8c83e1dc1ffb", func := "loop.example/coveringtests/laws.FnImpliedBans", spec := "fnImpliedBans", unfollowed := true, recurses := true, plainKeys := false, apart := false, narrowed := true }
def FnImpliedBansUptoSaid : Prop := fnImpliedBansUptoRow.holds Try.pinned (OpenSpec.upto fnImpliedBansSpec)

/-- 'laws.FnGrowAllowed', WHERE WHAT IT READS IS OF BULK AT MOST 1048576: true; the input reads as it did. -/
def fnGrowAllowedUptoRow : OpenClaim := { program := "ytehoagbpgahopaa", sum := "188f84f42aaf0da2c7ce26a79aa1c11687792c96f30e516bfd0e8c83e1dc1ffb", func := "loop.example/coveringtests/laws.FnGrowAllowed", spec := "fnGrowAllowed", unfollowed := true, recurses := true, plainKeys := false, apart := false, narrowed := true }
def FnGrowAllowedUptoSaid : Prop := fnGrowAllowedUptoRow.holds Try.pinned (OpenSpec.upto fnGrowAllowedSpec)

/-- 'laws.FnExplainBans', WHERE WHAT IT READS IS OF BULK AT MOST 1048576: true; the input reads as it did. -/
def fnExplainBansUptoRow : OpenClaim := { program := "ytehoagbpgahopaa", sum := "188f84f42aaf0da2c7ce26a79aa1c11687792c96f30e516bfd0e8c83e1dc1ffb", func := "loop.example/coveringtests/laws.FnExplainBans", spec := "fnExplainBans", unfollowed := true, recurses := true, plainKeys := false, apart := false, narrowed := true }
def FnExplainBansUptoSaid : Prop := fnExplainBansUptoRow.holds Try.pinned (OpenSpec.upto fnExplainBansSpec)

/-- 'laws.FnResultsOf', WHERE WHAT IT READS IS OF BULK AT MOST 1048576: true; the input reads as it did. -/
def fnResultsOfUptoRow : OpenClaim := { program := "ytehoagbpgahopaa", sum := "188f84f42aaf0da2c7ce26a79aa1c11687792c96f30e516bfd0e8c83e1dc1ffb", func := "loop.example/coveringtests/laws.FnResultsOf", spec := "fnResultsOf", unfollowed := true, recurses := true, plainKeys := false, apart := false, narrowed := true }
def FnResultsOfUptoSaid : Prop := fnResultsOfUptoRow.holds Try.pinned (OpenSpec.upto fnResultsOfSpec)

/-- 'laws.FnSuspectsOf', WHERE WHAT IT READS IS OF BULK AT MOST 1048576: true; the input reads as it did. -/
def fnSuspectsOfUptoRow : OpenClaim := { program := "ytehoagbpgahopaa", sum := "188f84f42aaf0da2c7ce26a79aa1c11687792c96f30e516bfd0e8c83e1dc1ffb", func := "loop.example/coveringtests/laws.FnSuspectsOf", spec := "fnSuspectsOf", unfollowed := true, recurses := true, plainKeys := false, apart := false, narrowed := true }
def FnSuspectsOfUptoSaid : Prop := fnSuspectsOfUptoRow.holds Try.pinned (OpenSpec.upto fnSuspectsOfSpec)

/-- 'laws.FnSuspectsOfFault', WHERE WHAT IT READS IS OF BULK AT MOST 1048576: true; the input reads as it did. -/
def fnSuspectsOfFaultUptoRow : OpenClaim := { program := "ytehoagbpgahopaa", sum := "188f84f42aaf0da2c7ce26a79aa1c11687792c96f30e516bfd0e8c83e1dc1ffb", func := "loop.example/coveringtests/laws.FnSuspectsOfFault", spec := "fnSuspectsOfFault", unfollowed := true, recurses := true, plainKeys := false, apart := false, narrowed := true }
def FnSuspectsOfFaultUptoSaid : Prop := fnSuspectsOfFaultUptoRow.holds Try.pinned (OpenSpec.upto fnSuspectsOfFaultSpec)

/-- 'laws.FnCulpritsOf', WHERE WHAT IT READS IS OF BULK AT MOST 1048576: true; the input reads as it did. -/
def fnCulpritsOfUptoRow : OpenClaim := { program := "ytehoagbpgahopaa", sum := "188f84f42aaf0da2c7ce26a79aa1c11687792c96f30e516bfd0e8c83e1dc1ffb", func := "loop.example/coveringtests/laws.FnCulpritsOf", spec := "fnCulpritsOf", unfollowed := true, recurses := true, plainKeys := false, apart := false, narrowed := true }
def FnCulpritsOfUptoSaid : Prop := fnCulpritsOfUptoRow.holds Try.pinned (OpenSpec.upto fnCulpritsOfSpec)

/-- 'laws.FnIsLocating', WHERE WHAT IT READS IS OF BULK AT MOST 1048576: true; the input reads as it did. -/
def fnIsLocatingUptoRow : OpenClaim := { program := "ytehoagbpgahopaa", sum := "188f84f42aaf0da2c7ce26a79aa1c11687792c96f30e516bfd0e8c83e1dc1ffb", func := "loop.example/coveringtests/laws.FnIsLocating", spec := "fnIsLocating", unfollowed := true, recurses := true, plainKeys := false, apart := false, narrowed := true }
def FnIsLocatingUptoSaid : Prop := fnIsLocatingUptoRow.holds Try.pinned (OpenSpec.upto fnIsLocatingSpec)

/-- 'laws.FnIsDetecting', WHERE WHAT IT READS IS OF BULK AT MOST 1048576: true; the input reads as it did. -/
def fnIsDetectingUptoRow : OpenClaim := { program := "ytehoagbpgahopaa", sum := "188f84f42aaf0da2c7ce26a79aa1c11687792c96f30e516bfd0e8c83e1dc1ffb", func := "loop.example/coveringtests/laws.FnIsDetecting", spec := "fnIsDetecting", recurses := true, plainKeys := false, apart := false, narrowed := true }
def FnIsDetectingUptoSaid : Prop := fnIsDetectingUptoRow.holds Try.pinned (OpenSpec.upto fnIsDetectingSpec)

/-- 'laws.FnSplitTest', WHERE WHAT IT READS IS OF BULK AT MOST 1048576: true; the input reads as it did. -/
def fnSplitTestUptoRow : OpenClaim := { program := "ytehoagbpgahopaa", sum := "188f84f42aaf0da2c7ce26a79aa1c11687792c96f30e516bfd0e8c83e1dc1ffb", func := "loop.example/coveringtests/laws.FnSplitTest", spec := "fnSplitTest", unfollowed := true, recurses := true, plainKeys := false, apart := false, narrowed := true }
def FnSplitTestUptoSaid : Prop := fnSplitTestUptoRow.holds Try.pinned (OpenSpec.upto fnSplitTestSpec)

/-- 'laws.FnHuntFault', WHERE WHAT IT READS IS OF BULK AT MOST 1048576: true; the input reads as it did. -/
def fnHuntFaultUptoRow : OpenClaim := { program := "ytehoagbpgahopaa", sum := "188f84f42aaf0da2c7ce26a79aa1c11687792c96f30e516bfd0e8c83e1dc1ffb", func := "loop.example/coveringtests/laws.FnHuntFault", spec := "fnHuntFault", unfollowed := true, recurses := true, plainKeys := false, apart := false, narrowed := true }
def FnHuntFaultUptoSaid : Prop := fnHuntFaultUptoRow.holds Try.pinned (OpenSpec.upto fnHuntFaultSpec)

/-- 'laws.FnShrinkFailure', WHERE WHAT IT READS IS OF BULK AT MOST 1048576: true; the input reads as it did. -/
def fnShrinkFailureUptoRow : OpenClaim := { program := "ytehoagbpgahopaa", sum := "188f84f42aaf0da2c7ce26a79aa1c11687792c96f30e516bfd0e8c83e1dc1ffb", func := "loop.example/coveringtests/laws.FnShrinkFailure", spec := "fnShrinkFailure", unfollowed := true, recurses := true, plainKeys := false, apart := false, narrowed := true }
def FnShrinkFailureUptoSaid : Prop := fnShrinkFailureUptoRow.holds Try.pinned (OpenSpec.upto fnShrinkFailureSpec)

end Rows
end Go.Proofs.Ytehoagbpgahopaa
