/-
  No cell of these rows narrows 'for every input' (looked for: loops, veiled, ifaces, maps, wideKeys, modest, calm, conditions, laid).
  DERIVED. THE GIVEN ROWS OF THIS SEAT. 18 by the template 'for every input the law returns true; each argument reads behind the call as it read before'; 0 by the template 'total and deterministic' (their statements: YtpfojkhgelmciaaTotals.lean).
  GIVEN WITH THE SEED: the statements are not yours to turn. If you find one false, say at which input.
  Laid BY PROGRAM, IN A SANDBOX (cutbox-rows.mjs): the forced cells as the released guide's own fill.sh prints them over the translation 9e986620c78e6c35… (all of the seat's roots in one cut). By AI agents, Wed Nov 11 2026. No macro, syntax, notation, axiom, sorry.
-/
import Derived.Test.YtpfojkhgelmciaaChecked
import GoSem.Claim
import GoSem.ClaimJoined
import GoSem.ClaimMapViews
import Derived.JoinedTies
import Derived.KernelRfl
namespace Go.Proofs.Ytpfojkhgelmciaa
/- THE CELL 'sum', in the pinned program and in every row, IS THE sha256 OF THE DUMP (.gsa) THAT YtpfojkhgelmciaaProg.lean LOADS. Nothing in Lean hashes anything: it is a label: what it is worth is what the hold of that sum in a sandbox is worth. -/
noncomputable def Try.pinned : Pinned := { name := "ytpfojkhgelmciaa", sum := "9e986620c78e6c350f9865f4b171c58ce8cabab7fc1ca635979deceeffcdee08", checked := Try.checked }
namespace Rows
def none {H : Type} : Left H := { results := [], args := [] }

/-- 'laws.FnExactIsBalanced': WHATEVER THE INPUT: true; the input reads as it did. -/
def fnExactIsBalancedSpec : ChangeSpec := { name := "fnExactIsBalanced", fn := fun _ => fun
  | [d1, d2, d3] => { results := [.lit (.bool true)], args := [d1, d2, d3] }
  | _ => none }
def fnExactIsBalancedRow : OpenClaim := { program := "ytpfojkhgelmciaa", sum := "9e986620c78e6c350f9865f4b171c58ce8cabab7fc1ca635979deceeffcdee08", func := "loop.example/coveringtests/laws.FnExactIsBalanced", spec := "fnExactIsBalanced", recurses := true, plainKeys := false, apart := false }
def FnExactIsBalancedSaid : Prop := fnExactIsBalancedRow.holds Try.pinned (OpenSpec.ofChange fnExactIsBalancedSpec)

/-- ITS FALSE NEIGHBOUR: 'it returns false'. Refute it at one input. -/
def fnExactIsBalancedWrong : ChangeSpec := { name := "fnExactIsBalanced", fn := fun _ => fun
  | [d1, d2, d3] => { results := [.lit (.bool false)], args := [d1, d2, d3] }
  | _ => none }
def FnExactIsBalancedWrongFalsely : Prop := fnExactIsBalancedRow.holds Try.pinned (OpenSpec.ofChange fnExactIsBalancedWrong)

/-- 'laws.FnExactBestTest': WHATEVER THE INPUT: true; the input reads as it did. -/
def fnExactBestTestSpec : ChangeSpec := { name := "fnExactBestTest", fn := fun _ => fun
  | [d1, d2, d3] => { results := [.lit (.bool true)], args := [d1, d2, d3] }
  | _ => none }
def fnExactBestTestRow : OpenClaim := { program := "ytpfojkhgelmciaa", sum := "9e986620c78e6c350f9865f4b171c58ce8cabab7fc1ca635979deceeffcdee08", func := "loop.example/coveringtests/laws.FnExactBestTest", spec := "fnExactBestTest", unfollowed := true, recurses := true, plainKeys := false, apart := false }
def FnExactBestTestSaid : Prop := fnExactBestTestRow.holds Try.pinned (OpenSpec.ofChange fnExactBestTestSpec)

/-- ITS FALSE NEIGHBOUR: 'it returns false'. Refute it at one input. -/
def fnExactBestTestWrong : ChangeSpec := { name := "fnExactBestTest", fn := fun _ => fun
  | [d1, d2, d3] => { results := [.lit (.bool false)], args := [d1, d2, d3] }
  | _ => none }
def FnExactBestTestWrongFalsely : Prop := fnExactBestTestRow.holds Try.pinned (OpenSpec.ofChange fnExactBestTestWrong)

/-- 'laws.FnExactGrowSuite': WHATEVER THE INPUT: true; the input reads as it did. -/
def fnExactGrowSuiteSpec : ChangeSpec := { name := "fnExactGrowSuite", fn := fun _ => fun
  | [d1, d2, d3] => { results := [.lit (.bool true)], args := [d1, d2, d3] }
  | _ => none }
def fnExactGrowSuiteRow : OpenClaim := { program := "ytpfojkhgelmciaa", sum := "9e986620c78e6c350f9865f4b171c58ce8cabab7fc1ca635979deceeffcdee08", func := "loop.example/coveringtests/laws.FnExactGrowSuite", spec := "fnExactGrowSuite", unfollowed := true, recurses := true, plainKeys := false, apart := false }
def FnExactGrowSuiteSaid : Prop := fnExactGrowSuiteRow.holds Try.pinned (OpenSpec.ofChange fnExactGrowSuiteSpec)

/-- ITS FALSE NEIGHBOUR: 'it returns false'. Refute it at one input. -/
def fnExactGrowSuiteWrong : ChangeSpec := { name := "fnExactGrowSuite", fn := fun _ => fun
  | [d1, d2, d3] => { results := [.lit (.bool false)], args := [d1, d2, d3] }
  | _ => none }
def FnExactGrowSuiteWrongFalsely : Prop := fnExactGrowSuiteRow.holds Try.pinned (OpenSpec.ofChange fnExactGrowSuiteWrong)

/-- 'laws.FnExactLeastTests': WHATEVER THE INPUT: true; the input reads as it did. -/
def fnExactLeastTestsSpec : ChangeSpec := { name := "fnExactLeastTests", fn := fun _ => fun
  | [d1, d2] => { results := [.lit (.bool true)], args := [d1, d2] }
  | _ => none }
def fnExactLeastTestsRow : OpenClaim := { program := "ytpfojkhgelmciaa", sum := "9e986620c78e6c350f9865f4b171c58ce8cabab7fc1ca635979deceeffcdee08", func := "loop.example/coveringtests/laws.FnExactLeastTests", spec := "fnExactLeastTests", unfollowed := true, recurses := true, plainKeys := false, apart := false }
def FnExactLeastTestsSaid : Prop := fnExactLeastTestsRow.holds Try.pinned (OpenSpec.ofChange fnExactLeastTestsSpec)

/-- ITS FALSE NEIGHBOUR: 'it returns false'. Refute it at one input. -/
def fnExactLeastTestsWrong : ChangeSpec := { name := "fnExactLeastTests", fn := fun _ => fun
  | [d1, d2] => { results := [.lit (.bool false)], args := [d1, d2] }
  | _ => none }
def FnExactLeastTestsWrongFalsely : Prop := fnExactLeastTestsRow.holds Try.pinned (OpenSpec.ofChange fnExactLeastTestsWrong)

/-- 'laws.FnExactFewestTests': WHATEVER THE INPUT: true; the input reads as it did. -/
def fnExactFewestTestsSpec : ChangeSpec := { name := "fnExactFewestTests", fn := fun _ => fun
  | [d1, d2] => { results := [.lit (.bool true)], args := [d1, d2] }
  | _ => none }
def fnExactFewestTestsRow : OpenClaim := { program := "ytpfojkhgelmciaa", sum := "9e986620c78e6c350f9865f4b171c58ce8cabab7fc1ca635979deceeffcdee08", func := "loop.example/coveringtests/laws.FnExactFewestTests", spec := "fnExactFewestTests", unfollowed := true, recurses := true, plainKeys := false, apart := false }
def FnExactFewestTestsSaid : Prop := fnExactFewestTestsRow.holds Try.pinned (OpenSpec.ofChange fnExactFewestTestsSpec)

/-- ITS FALSE NEIGHBOUR: 'it returns false'. Refute it at one input. -/
def fnExactFewestTestsWrong : ChangeSpec := { name := "fnExactFewestTests", fn := fun _ => fun
  | [d1, d2] => { results := [.lit (.bool false)], args := [d1, d2] }
  | _ => none }
def FnExactFewestTestsWrongFalsely : Prop := fnExactFewestTestsRow.holds Try.pinned (OpenSpec.ofChange fnExactFewestTestsWrong)

/-- 'laws.FnExactSquareSuite': WHATEVER THE INPUT: true; the input reads as it did. -/
def fnExactSquareSuiteSpec : ChangeSpec := { name := "fnExactSquareSuite", fn := fun _ => fun
  | [d1, d2] => { results := [.lit (.bool true)], args := [d1, d2] }
  | _ => none }
def fnExactSquareSuiteRow : OpenClaim := { program := "ytpfojkhgelmciaa", sum := "9e986620c78e6c350f9865f4b171c58ce8cabab7fc1ca635979deceeffcdee08", func := "loop.example/coveringtests/laws.FnExactSquareSuite", spec := "fnExactSquareSuite", plainKeys := false, apart := false }
def FnExactSquareSuiteSaid : Prop := fnExactSquareSuiteRow.holds Try.pinned (OpenSpec.ofChange fnExactSquareSuiteSpec)

/-- ITS FALSE NEIGHBOUR: 'it returns false'. Refute it at one input. -/
def fnExactSquareSuiteWrong : ChangeSpec := { name := "fnExactSquareSuite", fn := fun _ => fun
  | [d1, d2] => { results := [.lit (.bool false)], args := [d1, d2] }
  | _ => none }
def FnExactSquareSuiteWrongFalsely : Prop := fnExactSquareSuiteRow.holds Try.pinned (OpenSpec.ofChange fnExactSquareSuiteWrong)

/-- 'laws.FnExactAddFactor': WHATEVER THE INPUT: true; the input reads as it did. -/
def fnExactAddFactorSpec : ChangeSpec := { name := "fnExactAddFactor", fn := fun _ => fun
  | [d1, d2, d3, d4] => { results := [.lit (.bool true)], args := [d1, d2, d3, d4] }
  | _ => none }
def fnExactAddFactorRow : OpenClaim := { program := "ytpfojkhgelmciaa", sum := "9e986620c78e6c350f9865f4b171c58ce8cabab7fc1ca635979deceeffcdee08", func := "loop.example/coveringtests/laws.FnExactAddFactor", spec := "fnExactAddFactor", unfollowed := true, recurses := true, plainKeys := false, apart := false }
def FnExactAddFactorSaid : Prop := fnExactAddFactorRow.holds Try.pinned (OpenSpec.ofChange fnExactAddFactorSpec)

/-- ITS FALSE NEIGHBOUR: 'it returns false'. Refute it at one input. -/
def fnExactAddFactorWrong : ChangeSpec := { name := "fnExactAddFactor", fn := fun _ => fun
  | [d1, d2, d3, d4] => { results := [.lit (.bool false)], args := [d1, d2, d3, d4] }
  | _ => none }
def FnExactAddFactorWrongFalsely : Prop := fnExactAddFactorRow.holds Try.pinned (OpenSpec.ofChange fnExactAddFactorWrong)

/-- 'laws.FnExactValidBans': WHATEVER THE INPUT: true; the input reads as it did. -/
def fnExactValidBansSpec : ChangeSpec := { name := "fnExactValidBans", fn := fun _ => fun
  | [d1, d2] => { results := [.lit (.bool true)], args := [d1, d2] }
  | _ => none }
def fnExactValidBansRow : OpenClaim := { program := "ytpfojkhgelmciaa", sum := "9e986620c78e6c350f9865f4b171c58ce8cabab7fc1ca635979deceeffcdee08", func := "loop.example/coveringtests/laws.FnExactValidBans", spec := "fnExactValidBans", plainKeys := false, apart := false }
def FnExactValidBansSaid : Prop := fnExactValidBansRow.holds Try.pinned (OpenSpec.ofChange fnExactValidBansSpec)

/-- ITS FALSE NEIGHBOUR: 'it returns false'. Refute it at one input. -/
def fnExactValidBansWrong : ChangeSpec := { name := "fnExactValidBans", fn := fun _ => fun
  | [d1, d2] => { results := [.lit (.bool false)], args := [d1, d2] }
  | _ => none }
def FnExactValidBansWrongFalsely : Prop := fnExactValidBansRow.holds Try.pinned (OpenSpec.ofChange fnExactValidBansWrong)

/-- 'laws.FnExactAllowedTests': WHATEVER THE INPUT: true; the input reads as it did. -/
def fnExactAllowedTestsSpec : ChangeSpec := { name := "fnExactAllowedTests", fn := fun _ => fun
  | [d1, d2] => { results := [.lit (.bool true)], args := [d1, d2] }
  | _ => none }
def fnExactAllowedTestsRow : OpenClaim := { program := "ytpfojkhgelmciaa", sum := "9e986620c78e6c350f9865f4b171c58ce8cabab7fc1ca635979deceeffcdee08", func := "loop.example/coveringtests/laws.FnExactAllowedTests", spec := "fnExactAllowedTests", unfollowed := true, recurses := true, plainKeys := false, apart := false }
def FnExactAllowedTestsSaid : Prop := fnExactAllowedTestsRow.holds Try.pinned (OpenSpec.ofChange fnExactAllowedTestsSpec)

/-- ITS FALSE NEIGHBOUR: 'it returns false'. Refute it at one input. -/
def fnExactAllowedTestsWrong : ChangeSpec := { name := "fnExactAllowedTests", fn := fun _ => fun
  | [d1, d2] => { results := [.lit (.bool false)], args := [d1, d2] }
  | _ => none }
def FnExactAllowedTestsWrongFalsely : Prop := fnExactAllowedTestsRow.holds Try.pinned (OpenSpec.ofChange fnExactAllowedTestsWrong)

/-- 'laws.FnExactIsPossible': WHATEVER THE INPUT: true; the input reads as it did. -/
def fnExactIsPossibleSpec : ChangeSpec := { name := "fnExactIsPossible", fn := fun _ => fun
  | [d1, d2, d3] => { results := [.lit (.bool true)], args := [d1, d2, d3] }
  | _ => none }
def fnExactIsPossibleRow : OpenClaim := { program := "ytpfojkhgelmciaa", sum := "9e986620c78e6c350f9865f4b171c58ce8cabab7fc1ca635979deceeffcdee08", func := "loop.example/coveringtests/laws.FnExactIsPossible", spec := "fnExactIsPossible", unfollowed := true, recurses := true, plainKeys := false, apart := false }
def FnExactIsPossibleSaid : Prop := fnExactIsPossibleRow.holds Try.pinned (OpenSpec.ofChange fnExactIsPossibleSpec)

/-- ITS FALSE NEIGHBOUR: 'it returns false'. Refute it at one input. -/
def fnExactIsPossibleWrong : ChangeSpec := { name := "fnExactIsPossible", fn := fun _ => fun
  | [d1, d2, d3] => { results := [.lit (.bool false)], args := [d1, d2, d3] }
  | _ => none }
def FnExactIsPossibleWrongFalsely : Prop := fnExactIsPossibleRow.holds Try.pinned (OpenSpec.ofChange fnExactIsPossibleWrong)

/-- 'laws.FnExactCompleteTest': WHATEVER THE INPUT: true; the input reads as it did. -/
def fnExactCompleteTestSpec : ChangeSpec := { name := "fnExactCompleteTest", fn := fun _ => fun
  | [d1, d2, d3] => { results := [.lit (.bool true)], args := [d1, d2, d3] }
  | _ => none }
def fnExactCompleteTestRow : OpenClaim := { program := "ytpfojkhgelmciaa", sum := "9e986620c78e6c350f9865f4b171c58ce8cabab7fc1ca635979deceeffcdee08", func := "loop.example/coveringtests/laws.FnExactCompleteTest", spec := "fnExactCompleteTest", unfollowed := true, recurses := true, plainKeys := false, apart := false }
def FnExactCompleteTestSaid : Prop := fnExactCompleteTestRow.holds Try.pinned (OpenSpec.ofChange fnExactCompleteTestSpec)

/-- ITS FALSE NEIGHBOUR: 'it returns false'. Refute it at one input. -/
def fnExactCompleteTestWrong : ChangeSpec := { name := "fnExactCompleteTest", fn := fun _ => fun
  | [d1, d2, d3] => { results := [.lit (.bool false)], args := [d1, d2, d3] }
  | _ => none }
def FnExactCompleteTestWrongFalsely : Prop := fnExactCompleteTestRow.holds Try.pinned (OpenSpec.ofChange fnExactCompleteTestWrong)

/-- 'laws.FnExactPossiblePatterns': WHATEVER THE INPUT: true; the input reads as it did. -/
def fnExactPossiblePatternsSpec : ChangeSpec := { name := "fnExactPossiblePatterns", fn := fun _ => fun
  | [d1, d2, d3] => { results := [.lit (.bool true)], args := [d1, d2, d3] }
  | _ => none }
def fnExactPossiblePatternsRow : OpenClaim := { program := "ytpfojkhgelmciaa", sum := "9e986620c78e6c350f9865f4b171c58ce8cabab7fc1ca635979deceeffcdee08", func := "loop.example/coveringtests/laws.FnExactPossiblePatterns", spec := "fnExactPossiblePatterns", unfollowed := true, recurses := true, plainKeys := false, apart := false }
def FnExactPossiblePatternsSaid : Prop := fnExactPossiblePatternsRow.holds Try.pinned (OpenSpec.ofChange fnExactPossiblePatternsSpec)

/-- ITS FALSE NEIGHBOUR: 'it returns false'. Refute it at one input. -/
def fnExactPossiblePatternsWrong : ChangeSpec := { name := "fnExactPossiblePatterns", fn := fun _ => fun
  | [d1, d2, d3] => { results := [.lit (.bool false)], args := [d1, d2, d3] }
  | _ => none }
def FnExactPossiblePatternsWrongFalsely : Prop := fnExactPossiblePatternsRow.holds Try.pinned (OpenSpec.ofChange fnExactPossiblePatternsWrong)

/-- 'laws.FnExactImpliedBans': WHATEVER THE INPUT: true; the input reads as it did. -/
def fnExactImpliedBansSpec : ChangeSpec := { name := "fnExactImpliedBans", fn := fun _ => fun
  | [d1, d2, d3] => { results := [.lit (.bool true)], args := [d1, d2, d3] }
  | _ => none }
def fnExactImpliedBansRow : OpenClaim := { program := "ytpfojkhgelmciaa", sum := "9e986620c78e6c350f9865f4b171c58ce8cabab7fc1ca635979deceeffcdee08", func := "loop.example/coveringtests/laws.FnExactImpliedBans", spec := "fnExactImpliedBans", unfollowed := true, recurses := true, plainKeys := false, apart := false }
def FnExactImpliedBansSaid : Prop := fnExactImpliedBansRow.holds Try.pinned (OpenSpec.ofChange fnExactImpliedBansSpec)

/-- ITS FALSE NEIGHBOUR: 'it returns false'. Refute it at one input. -/
def fnExactImpliedBansWrong : ChangeSpec := { name := "fnExactImpliedBans", fn := fun _ => fun
  | [d1, d2, d3] => { results := [.lit (.bool false)], args := [d1, d2, d3] }
  | _ => none }
def FnExactImpliedBansWrongFalsely : Prop := fnExactImpliedBansRow.holds Try.pinned (OpenSpec.ofChange fnExactImpliedBansWrong)

/-- 'laws.FnExactLeastBans': WHATEVER THE INPUT: true; the input reads as it did. -/
def fnExactLeastBansSpec : ChangeSpec := { name := "fnExactLeastBans", fn := fun _ => fun
  | [d1, d2] => { results := [.lit (.bool true)], args := [d1, d2] }
  | _ => none }
def fnExactLeastBansRow : OpenClaim := { program := "ytpfojkhgelmciaa", sum := "9e986620c78e6c350f9865f4b171c58ce8cabab7fc1ca635979deceeffcdee08", func := "loop.example/coveringtests/laws.FnExactLeastBans", spec := "fnExactLeastBans", unfollowed := true, recurses := true, plainKeys := false, apart := false }
def FnExactLeastBansSaid : Prop := fnExactLeastBansRow.holds Try.pinned (OpenSpec.ofChange fnExactLeastBansSpec)

/-- ITS FALSE NEIGHBOUR: 'it returns false'. Refute it at one input. -/
def fnExactLeastBansWrong : ChangeSpec := { name := "fnExactLeastBans", fn := fun _ => fun
  | [d1, d2] => { results := [.lit (.bool false)], args := [d1, d2] }
  | _ => none }
def FnExactLeastBansWrongFalsely : Prop := fnExactLeastBansRow.holds Try.pinned (OpenSpec.ofChange fnExactLeastBansWrong)

/-- 'laws.FnExactSameBans': WHATEVER THE INPUT: true; the input reads as it did. -/
def fnExactSameBansSpec : ChangeSpec := { name := "fnExactSameBans", fn := fun _ => fun
  | [d1, d2, d3] => { results := [.lit (.bool true)], args := [d1, d2, d3] }
  | _ => none }
def fnExactSameBansRow : OpenClaim := { program := "ytpfojkhgelmciaa", sum := "9e986620c78e6c350f9865f4b171c58ce8cabab7fc1ca635979deceeffcdee08", func := "loop.example/coveringtests/laws.FnExactSameBans", spec := "fnExactSameBans", unfollowed := true, recurses := true, plainKeys := false, apart := false }
def FnExactSameBansSaid : Prop := fnExactSameBansRow.holds Try.pinned (OpenSpec.ofChange fnExactSameBansSpec)

/-- ITS FALSE NEIGHBOUR: 'it returns false'. Refute it at one input. -/
def fnExactSameBansWrong : ChangeSpec := { name := "fnExactSameBans", fn := fun _ => fun
  | [d1, d2, d3] => { results := [.lit (.bool false)], args := [d1, d2, d3] }
  | _ => none }
def FnExactSameBansWrongFalsely : Prop := fnExactSameBansRow.holds Try.pinned (OpenSpec.ofChange fnExactSameBansWrong)

/-- 'laws.FnExactIsAllowedCovering': WHATEVER THE INPUT: true; the input reads as it did. -/
def fnExactIsAllowedCoveringSpec : ChangeSpec := { name := "fnExactIsAllowedCovering", fn := fun _ => fun
  | [d1, d2, d3, d4] => { results := [.lit (.bool true)], args := [d1, d2, d3, d4] }
  | _ => none }
def fnExactIsAllowedCoveringRow : OpenClaim := { program := "ytpfojkhgelmciaa", sum := "9e986620c78e6c350f9865f4b171c58ce8cabab7fc1ca635979deceeffcdee08", func := "loop.example/coveringtests/laws.FnExactIsAllowedCovering", spec := "fnExactIsAllowedCovering", unfollowed := true, recurses := true, plainKeys := false, apart := false }
def FnExactIsAllowedCoveringSaid : Prop := fnExactIsAllowedCoveringRow.holds Try.pinned (OpenSpec.ofChange fnExactIsAllowedCoveringSpec)

/-- ITS FALSE NEIGHBOUR: 'it returns false'. Refute it at one input. -/
def fnExactIsAllowedCoveringWrong : ChangeSpec := { name := "fnExactIsAllowedCovering", fn := fun _ => fun
  | [d1, d2, d3, d4] => { results := [.lit (.bool false)], args := [d1, d2, d3, d4] }
  | _ => none }
def FnExactIsAllowedCoveringWrongFalsely : Prop := fnExactIsAllowedCoveringRow.holds Try.pinned (OpenSpec.ofChange fnExactIsAllowedCoveringWrong)

/-- 'laws.FnExactGrowAllowed': WHATEVER THE INPUT: true; the input reads as it did. -/
def fnExactGrowAllowedSpec : ChangeSpec := { name := "fnExactGrowAllowed", fn := fun _ => fun
  | [d1, d2, d3] => { results := [.lit (.bool true)], args := [d1, d2, d3] }
  | _ => none }
def fnExactGrowAllowedRow : OpenClaim := { program := "ytpfojkhgelmciaa", sum := "9e986620c78e6c350f9865f4b171c58ce8cabab7fc1ca635979deceeffcdee08", func := "loop.example/coveringtests/laws.FnExactGrowAllowed", spec := "fnExactGrowAllowed", unfollowed := true, recurses := true, plainKeys := false, apart := false }
def FnExactGrowAllowedSaid : Prop := fnExactGrowAllowedRow.holds Try.pinned (OpenSpec.ofChange fnExactGrowAllowedSpec)

/-- ITS FALSE NEIGHBOUR: 'it returns false'. Refute it at one input. -/
def fnExactGrowAllowedWrong : ChangeSpec := { name := "fnExactGrowAllowed", fn := fun _ => fun
  | [d1, d2, d3] => { results := [.lit (.bool false)], args := [d1, d2, d3] }
  | _ => none }
def FnExactGrowAllowedWrongFalsely : Prop := fnExactGrowAllowedRow.holds Try.pinned (OpenSpec.ofChange fnExactGrowAllowedWrong)

/-- 'laws.FnExactExplainBans': WHATEVER THE INPUT: true; the input reads as it did. -/
def fnExactExplainBansSpec : ChangeSpec := { name := "fnExactExplainBans", fn := fun _ => fun
  | [d1, d2, d3] => { results := [.lit (.bool true)], args := [d1, d2, d3] }
  | _ => none }
def fnExactExplainBansRow : OpenClaim := { program := "ytpfojkhgelmciaa", sum := "9e986620c78e6c350f9865f4b171c58ce8cabab7fc1ca635979deceeffcdee08", func := "loop.example/coveringtests/laws.FnExactExplainBans", spec := "fnExactExplainBans", unfollowed := true, recurses := true, plainKeys := false, apart := false }
def FnExactExplainBansSaid : Prop := fnExactExplainBansRow.holds Try.pinned (OpenSpec.ofChange fnExactExplainBansSpec)

/-- ITS FALSE NEIGHBOUR: 'it returns false'. Refute it at one input. -/
def fnExactExplainBansWrong : ChangeSpec := { name := "fnExactExplainBans", fn := fun _ => fun
  | [d1, d2, d3] => { results := [.lit (.bool false)], args := [d1, d2, d3] }
  | _ => none }
def FnExactExplainBansWrongFalsely : Prop := fnExactExplainBansRow.holds Try.pinned (OpenSpec.ofChange fnExactExplainBansWrong)

/- THE SECOND FORM. 'bulk': how many values and letters a reading holds, each counted each time it is reached (what is shared counts as often as it is met; a slice's spare places count too). A statement '..UptoSaid' is the law's where the arguments, and the package variables that the reading takes, are together of bulk at most 1048576: NARROWER than '..Said'. Prove '..Said' where nothing that the law and all that it calls make is longer than what came in: it says more and counts as full. Else prove '..UptoSaid'. A law counts once. -/
mutual
def uptoBulk {H : Type} : DataW H → Nat
  | .lit (.string bytes) => bytes.length + 1
  | .lit _ => 1
  | .nil => 1
  | .ptr d => uptoBulk d + 1
  | .slice elems spare => uptoBulkAll elems + uptoBulkAll spare + 1
  | .agg parts => uptoBulkAll parts + 1
  | .iface _ d => uptoBulk d + 1
  | .map entries => uptoBulkEntries entries + 1
  | .held _ => 1
def uptoBulkAll {H : Type} : List (DataW H) → Nat
  | [] => 0
  | d :: r => uptoBulk d + uptoBulkAll r
def uptoBulkEntries {H : Type} : List (Lit × DataW H) → Nat
  | [] => 0
  | x :: r => uptoBulkEntry x + uptoBulkEntries r
def uptoBulkEntry {H : Type} : Lit × DataW H → Nat
  | (.string bytes, d) => bytes.length + uptoBulk d + 1
  | (_, d) => uptoBulk d + 1
 end
def uptoSmall : (H : Type) → List (DataW H) → Bool := fun _ ds => decide (uptoBulkAll ds ≤ 1048576)
def OpenSpec.upto (s : _root_.Go.ChangeSpec) : _root_.Go.OpenSpec := { _root_.Go.OpenSpec.ofChange s with cond := some uptoSmall }

/-- 'laws.FnExactIsBalanced', WHERE WHAT IT READS IS OF BULK AT MOST 1048576: true; the input reads as it did. -/
def fnExactIsBalancedUptoRow : OpenClaim := { program := "ytpfojkhgelmciaa", sum := "9e986620c78e6c350f9865f4b171c58ce8cabab7fc1ca635979deceeffcdee08", func := "loop.example/coveringtests/laws.FnExactIsBalanced", spec := "fnExactIsBalanced", recurses := true, plainKeys := false, apart := false, narrowed := true }
def FnExactIsBalancedUptoSaid : Prop := fnExactIsBalancedUptoRow.holds Try.pinned (OpenSpec.upto fnExactIsBalancedSpec)

/-- 'laws.FnExactBestTest', WHERE WHAT IT READS IS OF BULK AT MOST 1048576: true; the input reads as it did. -/
def fnExactBestTestUptoRow : OpenClaim := { program := "ytpfojkhgelmciaa", sum := "9e986620c78e6c350f9865f4b171c58ce8cabab7fc1ca635979deceeffcdee08", func := "loop.example/coveringtests/laws.FnExactBestTest", spec := "fnExactBestTest", unfollowed := true, recurses := true, plainKeys := false, apart := false, narrowed := true }
def FnExactBestTestUptoSaid : Prop := fnExactBestTestUptoRow.holds Try.pinned (OpenSpec.upto fnExactBestTestSpec)

/-- 'laws.FnExactGrowSuite', WHERE WHAT IT READS IS OF BULK AT MOST 1048576: true; the input reads as it did. -/
def fnExactGrowSuiteUptoRow : OpenClaim := { program := "ytpfojkhgelmciaa", sum := "9e986620c78e6c350f9865f4b171c58ce8cabab7fc1ca635979deceeffcdee08", func := "loop.example/coveringtests/laws.FnExactGrowSuite", spec := "fnExactGrowSuite", unfollowed := true, recurses := true, plainKeys := false, apart := false, narrowed := true }
def FnExactGrowSuiteUptoSaid : Prop := fnExactGrowSuiteUptoRow.holds Try.pinned (OpenSpec.upto fnExactGrowSuiteSpec)

/-- 'laws.FnExactLeastTests', WHERE WHAT IT READS IS OF BULK AT MOST 1048576: true; the input reads as it did. -/
def fnExactLeastTestsUptoRow : OpenClaim := { program := "ytpfojkhgelmciaa", sum := "9e986620c78e6c350f9865f4b171c58ce8cabab7fc1ca635979deceeffcdee08", func := "loop.example/coveringtests/laws.FnExactLeastTests", spec := "fnExactLeastTests", unfollowed := true, recurses := true, plainKeys := false, apart := false, narrowed := true }
def FnExactLeastTestsUptoSaid : Prop := fnExactLeastTestsUptoRow.holds Try.pinned (OpenSpec.upto fnExactLeastTestsSpec)

/-- 'laws.FnExactFewestTests', WHERE WHAT IT READS IS OF BULK AT MOST 1048576: true; the input reads as it did. -/
def fnExactFewestTestsUptoRow : OpenClaim := { program := "ytpfojkhgelmciaa", sum := "9e986620c78e6c350f9865f4b171c58ce8cabab7fc1ca635979deceeffcdee08", func := "loop.example/coveringtests/laws.FnExactFewestTests", spec := "fnExactFewestTests", unfollowed := true, recurses := true, plainKeys := false, apart := false, narrowed := true }
def FnExactFewestTestsUptoSaid : Prop := fnExactFewestTestsUptoRow.holds Try.pinned (OpenSpec.upto fnExactFewestTestsSpec)

/-- 'laws.FnExactSquareSuite', WHERE WHAT IT READS IS OF BULK AT MOST 1048576: true; the input reads as it did. -/
def fnExactSquareSuiteUptoRow : OpenClaim := { program := "ytpfojkhgelmciaa", sum := "9e986620c78e6c350f9865f4b171c58ce8cabab7fc1ca635979deceeffcdee08", func := "loop.example/coveringtests/laws.FnExactSquareSuite", spec := "fnExactSquareSuite", plainKeys := false, apart := false, narrowed := true }
def FnExactSquareSuiteUptoSaid : Prop := fnExactSquareSuiteUptoRow.holds Try.pinned (OpenSpec.upto fnExactSquareSuiteSpec)

/-- 'laws.FnExactAddFactor', WHERE WHAT IT READS IS OF BULK AT MOST 1048576: true; the input reads as it did. -/
def fnExactAddFactorUptoRow : OpenClaim := { program := "ytpfojkhgelmciaa", sum := "9e986620c78e6c350f9865f4b171c58ce8cabab7fc1ca635979deceeffcdee08", func := "loop.example/coveringtests/laws.FnExactAddFactor", spec := "fnExactAddFactor", unfollowed := true, recurses := true, plainKeys := false, apart := false, narrowed := true }
def FnExactAddFactorUptoSaid : Prop := fnExactAddFactorUptoRow.holds Try.pinned (OpenSpec.upto fnExactAddFactorSpec)

/-- 'laws.FnExactValidBans', WHERE WHAT IT READS IS OF BULK AT MOST 1048576: true; the input reads as it did. -/
def fnExactValidBansUptoRow : OpenClaim := { program := "ytpfojkhgelmciaa", sum := "9e986620c78e6c350f9865f4b171c58ce8cabab7fc1ca635979deceeffcdee08", func := "loop.example/coveringtests/laws.FnExactValidBans", spec := "fnExactValidBans", plainKeys := false, apart := false, narrowed := true }
def FnExactValidBansUptoSaid : Prop := fnExactValidBansUptoRow.holds Try.pinned (OpenSpec.upto fnExactValidBansSpec)

/-- 'laws.FnExactAllowedTests', WHERE WHAT IT READS IS OF BULK AT MOST 1048576: true; the input reads as it did. -/
def fnExactAllowedTestsUptoRow : OpenClaim := { program := "ytpfojkhgelmciaa", sum := "9e986620c78e6c350f9865f4b171c58ce8cabab7fc1ca635979deceeffcdee08", func := "loop.example/coveringtests/laws.FnExactAllowedTests", spec := "fnExactAllowedTests", unfollowed := true, recurses := true, plainKeys := false, apart := false, narrowed := true }
def FnExactAllowedTestsUptoSaid : Prop := fnExactAllowedTestsUptoRow.holds Try.pinned (OpenSpec.upto fnExactAllowedTestsSpec)

/-- 'laws.FnExactIsPossible', WHERE WHAT IT READS IS OF BULK AT MOST 1048576: true; the input reads as it did. -/
def fnExactIsPossibleUptoRow : OpenClaim := { program := "ytpfojkhgelmciaa", sum := "9e986620c78e6c350f9865f4b171c58ce8cabab7fc1ca635979deceeffcdee08", func := "loop.example/coveringtests/laws.FnExactIsPossible", spec := "fnExactIsPossible", unfollowed := true, recurses := true, plainKeys := false, apart := false, narrowed := true }
def FnExactIsPossibleUptoSaid : Prop := fnExactIsPossibleUptoRow.holds Try.pinned (OpenSpec.upto fnExactIsPossibleSpec)

/-- 'laws.FnExactCompleteTest', WHERE WHAT IT READS IS OF BULK AT MOST 1048576: true; the input reads as it did. -/
def fnExactCompleteTestUptoRow : OpenClaim := { program := "ytpfojkhgelmciaa", sum := "9e986620c78e6c350f9865f4b171c58ce8cabab7fc1ca635979deceeffcdee08", func := "loop.example/coveringtests/laws.FnExactCompleteTest", spec := "fnExactCompleteTest", unfollowed := true, recurses := true, plainKeys := false, apart := false, narrowed := true }
def FnExactCompleteTestUptoSaid : Prop := fnExactCompleteTestUptoRow.holds Try.pinned (OpenSpec.upto fnExactCompleteTestSpec)

/-- 'laws.FnExactPossiblePatterns', WHERE WHAT IT READS IS OF BULK AT MOST 1048576: true; the input reads as it did. -/
def fnExactPossiblePatternsUptoRow : OpenClaim := { program := "ytpfojkhgelmciaa", sum := "9e986620c78e6c350f9865f4b171c58ce8cabab7fc1ca635979deceeffcdee08", func := "loop.example/coveringtests/laws.FnExactPossiblePatterns", spec := "fnExactPossiblePatterns", unfollowed := true, recurses := true, plainKeys := false, apart := false, narrowed := true }
def FnExactPossiblePatternsUptoSaid : Prop := fnExactPossiblePatternsUptoRow.holds Try.pinned (OpenSpec.upto fnExactPossiblePatternsSpec)

/-- 'laws.FnExactImpliedBans', WHERE WHAT IT READS IS OF BULK AT MOST 1048576: true; the input reads as it did. -/
def fnExactImpliedBansUptoRow : OpenClaim := { program := "ytpfojkhgelmciaa", sum := "9e986620c78e6c350f9865f4b171c58ce8cabab7fc1ca635979deceeffcdee08", func := "loop.example/coveringtests/laws.FnExactImpliedBans", spec := "fnExactImpliedBans", unfollowed := true, recurses := true, plainKeys := false, apart := false, narrowed := true }
def FnExactImpliedBansUptoSaid : Prop := fnExactImpliedBansUptoRow.holds Try.pinned (OpenSpec.upto fnExactImpliedBansSpec)

/-- 'laws.FnExactLeastBans', WHERE WHAT IT READS IS OF BULK AT MOST 1048576: true; the input reads as it did. -/
def fnExactLeastBansUptoRow : OpenClaim := { program := "ytpfojkhgelmciaa", sum := "9e986620c78e6c350f9865f4b171c58ce8cabab7fc1ca635979deceeffcdee08", func := "loop.example/coveringtests/laws.FnExactLeastBans", spec := "fnExactLeastBans", unfollowed := true, recurses := true, plainKeys := false, apart := false, narrowed := true }
def FnExactLeastBansUptoSaid : Prop := fnExactLeastBansUptoRow.holds Try.pinned (OpenSpec.upto fnExactLeastBansSpec)

/-- 'laws.FnExactSameBans', WHERE WHAT IT READS IS OF BULK AT MOST 1048576: true; the input reads as it did. -/
def fnExactSameBansUptoRow : OpenClaim := { program := "ytpfojkhgelmciaa", sum := "9e986620c78e6c350f9865f4b171c58ce8cabab7fc1ca635979deceeffcdee08", func := "loop.example/coveringtests/laws.FnExactSameBans", spec := "fnExactSameBans", unfollowed := true, recurses := true, plainKeys := false, apart := false, narrowed := true }
def FnExactSameBansUptoSaid : Prop := fnExactSameBansUptoRow.holds Try.pinned (OpenSpec.upto fnExactSameBansSpec)

/-- 'laws.FnExactIsAllowedCovering', WHERE WHAT IT READS IS OF BULK AT MOST 1048576: true; the input reads as it did. -/
def fnExactIsAllowedCoveringUptoRow : OpenClaim := { program := "ytpfojkhgelmciaa", sum := "9e986620c78e6c350f9865f4b171c58ce8cabab7fc1ca635979deceeffcdee08", func := "loop.example/coveringtests/laws.FnExactIsAllowedCovering", spec := "fnExactIsAllowedCovering", unfollowed := true, recurses := true, plainKeys := false, apart := false, narrowed := true }
def FnExactIsAllowedCoveringUptoSaid : Prop := fnExactIsAllowedCoveringUptoRow.holds Try.pinned (OpenSpec.upto fnExactIsAllowedCoveringSpec)

/-- 'laws.FnExactGrowAllowed', WHERE WHAT IT READS IS OF BULK AT MOST 1048576: true; the input reads as it did. -/
def fnExactGrowAllowedUptoRow : OpenClaim := { program := "ytpfojkhgelmciaa", sum := "9e986620c78e6c350f9865f4b171c58ce8cabab7fc1ca635979deceeffcdee08", func := "loop.example/coveringtests/laws.FnExactGrowAllowed", spec := "fnExactGrowAllowed", unfollowed := true, recurses := true, plainKeys := false, apart := false, narrowed := true }
def FnExactGrowAllowedUptoSaid : Prop := fnExactGrowAllowedUptoRow.holds Try.pinned (OpenSpec.upto fnExactGrowAllowedSpec)

/-- 'laws.FnExactExplainBans', WHERE WHAT IT READS IS OF BULK AT MOST 1048576: true; the input reads as it did. -/
def fnExactExplainBansUptoRow : OpenClaim := { program := "ytpfojkhgelmciaa", sum := "9e986620c78e6c350f9865f4b171c58ce8cabab7fc1ca635979deceeffcdee08", func := "loop.example/coveringtests/laws.FnExactExplainBans", spec := "fnExactExplainBans", unfollowed := true, recurses := true, plainKeys := false, apart := false, narrowed := true }
def FnExactExplainBansUptoSaid : Prop := fnExactExplainBansUptoRow.holds Try.pinned (OpenSpec.upto fnExactExplainBansSpec)

end Rows
end Go.Proofs.Ytpfojkhgelmciaa
