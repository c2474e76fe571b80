/-
  No cell of these rows narrows 'for every input' (looked for: loops, veiled, ifaces, maps, wideKeys, modest, calm, conditions, laid).
  DERIVED. THE GIVEN ROWS OF THIS SEAT. 19 by the template 'for every input the law returns true; each argument reads behind the call as it read before'; 0 by the template 'total and deterministic' (their statements: YtpikecbmooendaaTotals.lean).
  GIVEN WITH THE SEED: the statements are not yours to turn. If you find one false, say at which input.
  Laid BY PROGRAM, IN A SANDBOX (cutbox-rows.mjs): the forced cells as the released guide's own fill.sh prints them over the translation ce85e2fff354bf6c… (all of the seat's roots in one cut). By AI agents, Wed Nov 11 2026. No macro, syntax, notation, axiom, sorry.
-/
import Derived.Test.YtpikecbmooendaaChecked
import GoSem.Claim
import GoSem.ClaimJoined
import GoSem.ClaimMapViews
import Derived.JoinedTies
import Derived.KernelRfl
namespace Go.Proofs.Ytpikecbmooendaa
/- THE CELL 'sum', in the pinned program and in every row, IS THE sha256 OF THE DUMP (.gsa) THAT YtpikecbmooendaaProg.lean LOADS. Nothing in Lean hashes anything: it is a label: what it is worth is what the hold of that sum in a sandbox is worth. -/
noncomputable def Try.pinned : Pinned := { name := "ytpikecbmooendaa", sum := "ce85e2fff354bf6ce844335c868ed91706be4aa676bd3ad98959f8973ceaf273", checked := Try.checked }
namespace Rows
def none {H : Type} : Left H := { results := [], args := [] }

/-- 'laws.FnExactIsBalanced': WHATEVER THE INPUT: true; the input reads as it did. -/
def fnExactIsBalancedSpec : ChangeSpec := { name := "fnExactIsBalanced", fn := fun _ => fun
  | [d1, d2, d3] => { results := [.lit (.bool true)], args := [d1, d2, d3] }
  | _ => none }
def fnExactIsBalancedRow : OpenClaim := { program := "ytpikecbmooendaa", sum := "ce85e2fff354bf6ce844335c868ed91706be4aa676bd3ad98959f8973ceaf273", func := "loop.example/coveringtests/laws.FnExactIsBalanced", spec := "fnExactIsBalanced", recurses := true, plainKeys := false, apart := false }
def FnExactIsBalancedSaid : Prop := fnExactIsBalancedRow.holds Try.pinned (OpenSpec.ofChange fnExactIsBalancedSpec)

/-- ITS FALSE NEIGHBOUR: 'it returns false'. Refute it at one input. -/
def fnExactIsBalancedWrong : ChangeSpec := { name := "fnExactIsBalanced", fn := fun _ => fun
  | [d1, d2, d3] => { results := [.lit (.bool false)], args := [d1, d2, d3] }
  | _ => none }
def FnExactIsBalancedWrongFalsely : Prop := fnExactIsBalancedRow.holds Try.pinned (OpenSpec.ofChange fnExactIsBalancedWrong)

/-- 'laws.FnExactBestTest': WHATEVER THE INPUT: true; the input reads as it did. -/
def fnExactBestTestSpec : ChangeSpec := { name := "fnExactBestTest", fn := fun _ => fun
  | [d1, d2, d3] => { results := [.lit (.bool true)], args := [d1, d2, d3] }
  | _ => none }
def fnExactBestTestRow : OpenClaim := { program := "ytpikecbmooendaa", sum := "ce85e2fff354bf6ce844335c868ed91706be4aa676bd3ad98959f8973ceaf273", func := "loop.example/coveringtests/laws.FnExactBestTest", spec := "fnExactBestTest", unfollowed := true, recurses := true, plainKeys := false, apart := false }
def FnExactBestTestSaid : Prop := fnExactBestTestRow.holds Try.pinned (OpenSpec.ofChange fnExactBestTestSpec)

/-- ITS FALSE NEIGHBOUR: 'it returns false'. Refute it at one input. -/
def fnExactBestTestWrong : ChangeSpec := { name := "fnExactBestTest", fn := fun _ => fun
  | [d1, d2, d3] => { results := [.lit (.bool false)], args := [d1, d2, d3] }
  | _ => none }
def FnExactBestTestWrongFalsely : Prop := fnExactBestTestRow.holds Try.pinned (OpenSpec.ofChange fnExactBestTestWrong)

/-- 'laws.FnExactGrowSuite': WHATEVER THE INPUT: true; the input reads as it did. -/
def fnExactGrowSuiteSpec : ChangeSpec := { name := "fnExactGrowSuite", fn := fun _ => fun
  | [d1, d2, d3] => { results := [.lit (.bool true)], args := [d1, d2, d3] }
  | _ => none }
def fnExactGrowSuiteRow : OpenClaim := { program := "ytpikecbmooendaa", sum := "ce85e2fff354bf6ce844335c868ed91706be4aa676bd3ad98959f8973ceaf273", func := "loop.example/coveringtests/laws.FnExactGrowSuite", spec := "fnExactGrowSuite", unfollowed := true, recurses := true, plainKeys := false, apart := false }
def FnExactGrowSuiteSaid : Prop := fnExactGrowSuiteRow.holds Try.pinned (OpenSpec.ofChange fnExactGrowSuiteSpec)

/-- ITS FALSE NEIGHBOUR: 'it returns false'. Refute it at one input. -/
def fnExactGrowSuiteWrong : ChangeSpec := { name := "fnExactGrowSuite", fn := fun _ => fun
  | [d1, d2, d3] => { results := [.lit (.bool false)], args := [d1, d2, d3] }
  | _ => none }
def FnExactGrowSuiteWrongFalsely : Prop := fnExactGrowSuiteRow.holds Try.pinned (OpenSpec.ofChange fnExactGrowSuiteWrong)

/-- 'laws.FnExactLeastTests': WHATEVER THE INPUT: true; the input reads as it did. -/
def fnExactLeastTestsSpec : ChangeSpec := { name := "fnExactLeastTests", fn := fun _ => fun
  | [d1, d2] => { results := [.lit (.bool true)], args := [d1, d2] }
  | _ => none }
def fnExactLeastTestsRow : OpenClaim := { program := "ytpikecbmooendaa", sum := "ce85e2fff354bf6ce844335c868ed91706be4aa676bd3ad98959f8973ceaf273", func := "loop.example/coveringtests/laws.FnExactLeastTests", spec := "fnExactLeastTests", unfollowed := true, recurses := true, plainKeys := false, apart := false }
def FnExactLeastTestsSaid : Prop := fnExactLeastTestsRow.holds Try.pinned (OpenSpec.ofChange fnExactLeastTestsSpec)

/-- ITS FALSE NEIGHBOUR: 'it returns false'. Refute it at one input. -/
def fnExactLeastTestsWrong : ChangeSpec := { name := "fnExactLeastTests", fn := fun _ => fun
  | [d1, d2] => { results := [.lit (.bool false)], args := [d1, d2] }
  | _ => none }
def FnExactLeastTestsWrongFalsely : Prop := fnExactLeastTestsRow.holds Try.pinned (OpenSpec.ofChange fnExactLeastTestsWrong)

/-- 'laws.FnExactFewestTests': WHATEVER THE INPUT: true; the input reads as it did. -/
def fnExactFewestTestsSpec : ChangeSpec := { name := "fnExactFewestTests", fn := fun _ => fun
  | [d1, d2] => { results := [.lit (.bool true)], args := [d1, d2] }
  | _ => none }
def fnExactFewestTestsRow : OpenClaim := { program := "ytpikecbmooendaa", sum := "ce85e2fff354bf6ce844335c868ed91706be4aa676bd3ad98959f8973ceaf273", func := "loop.example/coveringtests/laws.FnExactFewestTests", spec := "fnExactFewestTests", unfollowed := true, recurses := true, plainKeys := false, apart := false }
def FnExactFewestTestsSaid : Prop := fnExactFewestTestsRow.holds Try.pinned (OpenSpec.ofChange fnExactFewestTestsSpec)

/-- ITS FALSE NEIGHBOUR: 'it returns false'. Refute it at one input. -/
def fnExactFewestTestsWrong : ChangeSpec := { name := "fnExactFewestTests", fn := fun _ => fun
  | [d1, d2] => { results := [.lit (.bool false)], args := [d1, d2] }
  | _ => none }
def FnExactFewestTestsWrongFalsely : Prop := fnExactFewestTestsRow.holds Try.pinned (OpenSpec.ofChange fnExactFewestTestsWrong)

/-- 'laws.FnExactAddFactor': WHATEVER THE INPUT: true; the input reads as it did. -/
def fnExactAddFactorSpec : ChangeSpec := { name := "fnExactAddFactor", fn := fun _ => fun
  | [d1, d2, d3, d4] => { results := [.lit (.bool true)], args := [d1, d2, d3, d4] }
  | _ => none }
def fnExactAddFactorRow : OpenClaim := { program := "ytpikecbmooendaa", sum := "ce85e2fff354bf6ce844335c868ed91706be4aa676bd3ad98959f8973ceaf273", func := "loop.example/coveringtests/laws.FnExactAddFactor", spec := "fnExactAddFactor", unfollowed := true, recurses := true, plainKeys := false, apart := false }
def FnExactAddFactorSaid : Prop := fnExactAddFactorRow.holds Try.pinned (OpenSpec.ofChange fnExactAddFactorSpec)

/-- ITS FALSE NEIGHBOUR: 'it returns false'. Refute it at one input. -/
def fnExactAddFactorWrong : ChangeSpec := { name := "fnExactAddFactor", fn := fun _ => fun
  | [d1, d2, d3, d4] => { results := [.lit (.bool false)], args := [d1, d2, d3, d4] }
  | _ => none }
def FnExactAddFactorWrongFalsely : Prop := fnExactAddFactorRow.holds Try.pinned (OpenSpec.ofChange fnExactAddFactorWrong)

/-- 'laws.FnExactAllowedTests': WHATEVER THE INPUT: true; the input reads as it did. -/
def fnExactAllowedTestsSpec : ChangeSpec := { name := "fnExactAllowedTests", fn := fun _ => fun
  | [d1, d2] => { results := [.lit (.bool true)], args := [d1, d2] }
  | _ => none }
def fnExactAllowedTestsRow : OpenClaim := { program := "ytpikecbmooendaa", sum := "ce85e2fff354bf6ce844335c868ed91706be4aa676bd3ad98959f8973ceaf273", func := "loop.example/coveringtests/laws.FnExactAllowedTests", spec := "fnExactAllowedTests", unfollowed := true, recurses := true, plainKeys := false, apart := false }
def FnExactAllowedTestsSaid : Prop := fnExactAllowedTestsRow.holds Try.pinned (OpenSpec.ofChange fnExactAllowedTestsSpec)

/-- ITS FALSE NEIGHBOUR: 'it returns false'. Refute it at one input. -/
def fnExactAllowedTestsWrong : ChangeSpec := { name := "fnExactAllowedTests", fn := fun _ => fun
  | [d1, d2] => { results := [.lit (.bool false)], args := [d1, d2] }
  | _ => none }
def FnExactAllowedTestsWrongFalsely : Prop := fnExactAllowedTestsRow.holds Try.pinned (OpenSpec.ofChange fnExactAllowedTestsWrong)

/-- 'laws.FnExactImpliedBans': WHATEVER THE INPUT: true; the input reads as it did. -/
def fnExactImpliedBansSpec : ChangeSpec := { name := "fnExactImpliedBans", fn := fun _ => fun
  | [d1, d2, d3] => { results := [.lit (.bool true)], args := [d1, d2, d3] }
  | _ => none }
def fnExactImpliedBansRow : OpenClaim := { program := "ytpikecbmooendaa", sum := "ce85e2fff354bf6ce844335c868ed91706be4aa676bd3ad98959f8973ceaf273", func := "loop.example/coveringtests/laws.FnExactImpliedBans", spec := "fnExactImpliedBans", unfollowed := true, recurses := true, plainKeys := false, apart := false }
def FnExactImpliedBansSaid : Prop := fnExactImpliedBansRow.holds Try.pinned (OpenSpec.ofChange fnExactImpliedBansSpec)

/-- ITS FALSE NEIGHBOUR: 'it returns false'. Refute it at one input. -/
def fnExactImpliedBansWrong : ChangeSpec := { name := "fnExactImpliedBans", fn := fun _ => fun
  | [d1, d2, d3] => { results := [.lit (.bool false)], args := [d1, d2, d3] }
  | _ => none }
def FnExactImpliedBansWrongFalsely : Prop := fnExactImpliedBansRow.holds Try.pinned (OpenSpec.ofChange fnExactImpliedBansWrong)

/-- 'laws.FnExactSameBans': WHATEVER THE INPUT: true; the input reads as it did. -/
def fnExactSameBansSpec : ChangeSpec := { name := "fnExactSameBans", fn := fun _ => fun
  | [d1, d2, d3] => { results := [.lit (.bool true)], args := [d1, d2, d3] }
  | _ => none }
def fnExactSameBansRow : OpenClaim := { program := "ytpikecbmooendaa", sum := "ce85e2fff354bf6ce844335c868ed91706be4aa676bd3ad98959f8973ceaf273", func := "loop.example/coveringtests/laws.FnExactSameBans", spec := "fnExactSameBans", unfollowed := true, recurses := true, plainKeys := false, apart := false }
def FnExactSameBansSaid : Prop := fnExactSameBansRow.holds Try.pinned (OpenSpec.ofChange fnExactSameBansSpec)

/-- ITS FALSE NEIGHBOUR: 'it returns false'. Refute it at one input. -/
def fnExactSameBansWrong : ChangeSpec := { name := "fnExactSameBans", fn := fun _ => fun
  | [d1, d2, d3] => { results := [.lit (.bool false)], args := [d1, d2, d3] }
  | _ => none }
def FnExactSameBansWrongFalsely : Prop := fnExactSameBansRow.holds Try.pinned (OpenSpec.ofChange fnExactSameBansWrong)

/-- 'laws.FnExactGrowAllowed': WHATEVER THE INPUT: true; the input reads as it did. -/
def fnExactGrowAllowedSpec : ChangeSpec := { name := "fnExactGrowAllowed", fn := fun _ => fun
  | [d1, d2, d3] => { results := [.lit (.bool true)], args := [d1, d2, d3] }
  | _ => none }
def fnExactGrowAllowedRow : OpenClaim := { program := "ytpikecbmooendaa", sum := "ce85e2fff354bf6ce844335c868ed91706be4aa676bd3ad98959f8973ceaf273", func := "loop.example/coveringtests/laws.FnExactGrowAllowed", spec := "fnExactGrowAllowed", unfollowed := true, recurses := true, plainKeys := false, apart := false }
def FnExactGrowAllowedSaid : Prop := fnExactGrowAllowedRow.holds Try.pinned (OpenSpec.ofChange fnExactGrowAllowedSpec)

/-- ITS FALSE NEIGHBOUR: 'it returns false'. Refute it at one input. -/
def fnExactGrowAllowedWrong : ChangeSpec := { name := "fnExactGrowAllowed", fn := fun _ => fun
  | [d1, d2, d3] => { results := [.lit (.bool false)], args := [d1, d2, d3] }
  | _ => none }
def FnExactGrowAllowedWrongFalsely : Prop := fnExactGrowAllowedRow.holds Try.pinned (OpenSpec.ofChange fnExactGrowAllowedWrong)

/-- 'laws.FnExactExplainBans': WHATEVER THE INPUT: true; the input reads as it did. -/
def fnExactExplainBansSpec : ChangeSpec := { name := "fnExactExplainBans", fn := fun _ => fun
  | [d1, d2, d3] => { results := [.lit (.bool true)], args := [d1, d2, d3] }
  | _ => none }
def fnExactExplainBansRow : OpenClaim := { program := "ytpikecbmooendaa", sum := "ce85e2fff354bf6ce844335c868ed91706be4aa676bd3ad98959f8973ceaf273", func := "loop.example/coveringtests/laws.FnExactExplainBans", spec := "fnExactExplainBans", unfollowed := true, recurses := true, plainKeys := false, apart := false }
def FnExactExplainBansSaid : Prop := fnExactExplainBansRow.holds Try.pinned (OpenSpec.ofChange fnExactExplainBansSpec)

/-- ITS FALSE NEIGHBOUR: 'it returns false'. Refute it at one input. -/
def fnExactExplainBansWrong : ChangeSpec := { name := "fnExactExplainBans", fn := fun _ => fun
  | [d1, d2, d3] => { results := [.lit (.bool false)], args := [d1, d2, d3] }
  | _ => none }
def FnExactExplainBansWrongFalsely : Prop := fnExactExplainBansRow.holds Try.pinned (OpenSpec.ofChange fnExactExplainBansWrong)

/-- 'laws.FnExactResultsOf': WHATEVER THE INPUT: true; the input reads as it did. -/
def fnExactResultsOfSpec : ChangeSpec := { name := "fnExactResultsOf", fn := fun _ => fun
  | [d1, d2, d3] => { results := [.lit (.bool true)], args := [d1, d2, d3] }
  | _ => none }
def fnExactResultsOfRow : OpenClaim := { program := "ytpikecbmooendaa", sum := "ce85e2fff354bf6ce844335c868ed91706be4aa676bd3ad98959f8973ceaf273", func := "loop.example/coveringtests/laws.FnExactResultsOf", spec := "fnExactResultsOf", unfollowed := true, recurses := true, plainKeys := false, apart := false }
def FnExactResultsOfSaid : Prop := fnExactResultsOfRow.holds Try.pinned (OpenSpec.ofChange fnExactResultsOfSpec)

/-- ITS FALSE NEIGHBOUR: 'it returns false'. Refute it at one input. -/
def fnExactResultsOfWrong : ChangeSpec := { name := "fnExactResultsOf", fn := fun _ => fun
  | [d1, d2, d3] => { results := [.lit (.bool false)], args := [d1, d2, d3] }
  | _ => none }
def FnExactResultsOfWrongFalsely : Prop := fnExactResultsOfRow.holds Try.pinned (OpenSpec.ofChange fnExactResultsOfWrong)

/-- 'laws.FnExactSuspectsOf': WHATEVER THE INPUT: true; the input reads as it did. -/
def fnExactSuspectsOfSpec : ChangeSpec := { name := "fnExactSuspectsOf", fn := fun _ => fun
  | [d1, d2, d3, d4] => { results := [.lit (.bool true)], args := [d1, d2, d3, d4] }
  | _ => none }
def fnExactSuspectsOfRow : OpenClaim := { program := "ytpikecbmooendaa", sum := "ce85e2fff354bf6ce844335c868ed91706be4aa676bd3ad98959f8973ceaf273", func := "loop.example/coveringtests/laws.FnExactSuspectsOf", spec := "fnExactSuspectsOf", unfollowed := true, recurses := true, plainKeys := false, apart := false }
def FnExactSuspectsOfSaid : Prop := fnExactSuspectsOfRow.holds Try.pinned (OpenSpec.ofChange fnExactSuspectsOfSpec)

/-- ITS FALSE NEIGHBOUR: 'it returns false'. Refute it at one input. -/
def fnExactSuspectsOfWrong : ChangeSpec := { name := "fnExactSuspectsOf", fn := fun _ => fun
  | [d1, d2, d3, d4] => { results := [.lit (.bool false)], args := [d1, d2, d3, d4] }
  | _ => none }
def FnExactSuspectsOfWrongFalsely : Prop := fnExactSuspectsOfRow.holds Try.pinned (OpenSpec.ofChange fnExactSuspectsOfWrong)

/-- 'laws.FnExactCulpritsOf': WHATEVER THE INPUT: true; the input reads as it did. -/
def fnExactCulpritsOfSpec : ChangeSpec := { name := "fnExactCulpritsOf", fn := fun _ => fun
  | [d1, d2, d3, d4] => { results := [.lit (.bool true)], args := [d1, d2, d3, d4] }
  | _ => none }
def fnExactCulpritsOfRow : OpenClaim := { program := "ytpikecbmooendaa", sum := "ce85e2fff354bf6ce844335c868ed91706be4aa676bd3ad98959f8973ceaf273", func := "loop.example/coveringtests/laws.FnExactCulpritsOf", spec := "fnExactCulpritsOf", unfollowed := true, recurses := true, plainKeys := false, apart := false }
def FnExactCulpritsOfSaid : Prop := fnExactCulpritsOfRow.holds Try.pinned (OpenSpec.ofChange fnExactCulpritsOfSpec)

/-- ITS FALSE NEIGHBOUR: 'it returns false'. Refute it at one input. -/
def fnExactCulpritsOfWrong : ChangeSpec := { name := "fnExactCulpritsOf", fn := fun _ => fun
  | [d1, d2, d3, d4] => { results := [.lit (.bool false)], args := [d1, d2, d3, d4] }
  | _ => none }
def FnExactCulpritsOfWrongFalsely : Prop := fnExactCulpritsOfRow.holds Try.pinned (OpenSpec.ofChange fnExactCulpritsOfWrong)

/-- 'laws.FnExactIsLocating': WHATEVER THE INPUT: true; the input reads as it did. -/
def fnExactIsLocatingSpec : ChangeSpec := { name := "fnExactIsLocating", fn := fun _ => fun
  | [d1, d2, d3] => { results := [.lit (.bool true)], args := [d1, d2, d3] }
  | _ => none }
def fnExactIsLocatingRow : OpenClaim := { program := "ytpikecbmooendaa", sum := "ce85e2fff354bf6ce844335c868ed91706be4aa676bd3ad98959f8973ceaf273", func := "loop.example/coveringtests/laws.FnExactIsLocating", spec := "fnExactIsLocating", recurses := true, plainKeys := false, apart := false }
def FnExactIsLocatingSaid : Prop := fnExactIsLocatingRow.holds Try.pinned (OpenSpec.ofChange fnExactIsLocatingSpec)

/-- ITS FALSE NEIGHBOUR: 'it returns false'. Refute it at one input. -/
def fnExactIsLocatingWrong : ChangeSpec := { name := "fnExactIsLocating", fn := fun _ => fun
  | [d1, d2, d3] => { results := [.lit (.bool false)], args := [d1, d2, d3] }
  | _ => none }
def FnExactIsLocatingWrongFalsely : Prop := fnExactIsLocatingRow.holds Try.pinned (OpenSpec.ofChange fnExactIsLocatingWrong)

/-- 'laws.FnExactIsDetecting': WHATEVER THE INPUT: true; the input reads as it did. -/
def fnExactIsDetectingSpec : ChangeSpec := { name := "fnExactIsDetecting", fn := fun _ => fun
  | [d1, d2, d3] => { results := [.lit (.bool true)], args := [d1, d2, d3] }
  | _ => none }
def fnExactIsDetectingRow : OpenClaim := { program := "ytpikecbmooendaa", sum := "ce85e2fff354bf6ce844335c868ed91706be4aa676bd3ad98959f8973ceaf273", func := "loop.example/coveringtests/laws.FnExactIsDetecting", spec := "fnExactIsDetecting", recurses := true, plainKeys := false, apart := false }
def FnExactIsDetectingSaid : Prop := fnExactIsDetectingRow.holds Try.pinned (OpenSpec.ofChange fnExactIsDetectingSpec)

/-- ITS FALSE NEIGHBOUR: 'it returns false'. Refute it at one input. -/
def fnExactIsDetectingWrong : ChangeSpec := { name := "fnExactIsDetecting", fn := fun _ => fun
  | [d1, d2, d3] => { results := [.lit (.bool false)], args := [d1, d2, d3] }
  | _ => none }
def FnExactIsDetectingWrongFalsely : Prop := fnExactIsDetectingRow.holds Try.pinned (OpenSpec.ofChange fnExactIsDetectingWrong)

/-- 'laws.FnExactSplitTest': WHATEVER THE INPUT: true; the input reads as it did. -/
def fnExactSplitTestSpec : ChangeSpec := { name := "fnExactSplitTest", fn := fun _ => fun
  | [d1, d2] => { results := [.lit (.bool true)], args := [d1, d2] }
  | _ => none }
def fnExactSplitTestRow : OpenClaim := { program := "ytpikecbmooendaa", sum := "ce85e2fff354bf6ce844335c868ed91706be4aa676bd3ad98959f8973ceaf273", func := "loop.example/coveringtests/laws.FnExactSplitTest", spec := "fnExactSplitTest", unfollowed := true, recurses := true, plainKeys := false, apart := false }
def FnExactSplitTestSaid : Prop := fnExactSplitTestRow.holds Try.pinned (OpenSpec.ofChange fnExactSplitTestSpec)

/-- ITS FALSE NEIGHBOUR: 'it returns false'. Refute it at one input. -/
def fnExactSplitTestWrong : ChangeSpec := { name := "fnExactSplitTest", fn := fun _ => fun
  | [d1, d2] => { results := [.lit (.bool false)], args := [d1, d2] }
  | _ => none }
def FnExactSplitTestWrongFalsely : Prop := fnExactSplitTestRow.holds Try.pinned (OpenSpec.ofChange fnExactSplitTestWrong)

/-- 'laws.FnExactHuntFault': WHATEVER THE INPUT: true; the input reads as it did. -/
def fnExactHuntFaultSpec : ChangeSpec := { name := "fnExactHuntFault", fn := fun _ => fun
  | [d1, d2] => { results := [.lit (.bool true)], args := [d1, d2] }
  | _ => none }
def fnExactHuntFaultRow : OpenClaim := { program := "ytpikecbmooendaa", sum := "ce85e2fff354bf6ce844335c868ed91706be4aa676bd3ad98959f8973ceaf273", func := "loop.example/coveringtests/laws.FnExactHuntFault", spec := "fnExactHuntFault", unfollowed := true, recurses := true, plainKeys := false, apart := false }
def FnExactHuntFaultSaid : Prop := fnExactHuntFaultRow.holds Try.pinned (OpenSpec.ofChange fnExactHuntFaultSpec)

/-- ITS FALSE NEIGHBOUR: 'it returns false'. Refute it at one input. -/
def fnExactHuntFaultWrong : ChangeSpec := { name := "fnExactHuntFault", fn := fun _ => fun
  | [d1, d2] => { results := [.lit (.bool false)], args := [d1, d2] }
  | _ => none }
def FnExactHuntFaultWrongFalsely : Prop := fnExactHuntFaultRow.holds Try.pinned (OpenSpec.ofChange fnExactHuntFaultWrong)

/-- 'laws.FnExactShrinkFailure': WHATEVER THE INPUT: true; the input reads as it did. -/
def fnExactShrinkFailureSpec : ChangeSpec := { name := "fnExactShrinkFailure", fn := fun _ => fun
  | [d1, d2, d3, d4] => { results := [.lit (.bool true)], args := [d1, d2, d3, d4] }
  | _ => none }
def fnExactShrinkFailureRow : OpenClaim := { program := "ytpikecbmooendaa", sum := "ce85e2fff354bf6ce844335c868ed91706be4aa676bd3ad98959f8973ceaf273", func := "loop.example/coveringtests/laws.FnExactShrinkFailure", spec := "fnExactShrinkFailure", unfollowed := true, recurses := true, plainKeys := false, apart := false }
def FnExactShrinkFailureSaid : Prop := fnExactShrinkFailureRow.holds Try.pinned (OpenSpec.ofChange fnExactShrinkFailureSpec)

/-- ITS FALSE NEIGHBOUR: 'it returns false'. Refute it at one input. -/
def fnExactShrinkFailureWrong : ChangeSpec := { name := "fnExactShrinkFailure", fn := fun _ => fun
  | [d1, d2, d3, d4] => { results := [.lit (.bool false)], args := [d1, d2, d3, d4] }
  | _ => none }
def FnExactShrinkFailureWrongFalsely : Prop := fnExactShrinkFailureRow.holds Try.pinned (OpenSpec.ofChange fnExactShrinkFailureWrong)

/- THE SECOND FORM. 'bulk': how many values and letters a reading holds, each counted each time it is reached (what is shared counts as often as it is met; a slice's spare places count too). A statement '..UptoSaid' is the law's where the arguments, and the package variables that the reading takes, are together of bulk at most 1048576: NARROWER than '..Said'. Prove '..Said' where nothing that the law and all that it calls make is longer than what came in: it says more and counts as full. Else prove '..UptoSaid'. A law counts once. -/
mutual
def uptoBulk {H : Type} : DataW H → Nat
  | .lit (.string bytes) => bytes.length + 1
  | .lit _ => 1
  | .nil => 1
  | .ptr d => uptoBulk d + 1
  | .slice elems spare => uptoBulkAll elems + uptoBulkAll spare + 1
  | .agg parts => uptoBulkAll parts + 1
  | .iface _ d => uptoBulk d + 1
  | .map entries => uptoBulkEntries entries + 1
  | .held _ => 1
def uptoBulkAll {H : Type} : List (DataW H) → Nat
  | [] => 0
  | d :: r => uptoBulk d + uptoBulkAll r
def uptoBulkEntries {H : Type} : List (Lit × DataW H) → Nat
  | [] => 0
  | x :: r => uptoBulkEntry x + uptoBulkEntries r
def uptoBulkEntry {H : Type} : Lit × DataW H → Nat
  | (.string bytes, d) => bytes.length + uptoBulk d + 1
  | (_, d) => uptoBulk d + 1
 end
def uptoSmall : (H : Type) → List (DataW H) → Bool := fun _ ds => decide (uptoBulkAll ds ≤ 1048576)
def OpenSpec.upto (s : _root_.Go.ChangeSpec) : _root_.Go.OpenSpec := { _root_.Go.OpenSpec.ofChange s with cond := some uptoSmall }

/-- 'laws.FnExactIsBalanced', WHERE WHAT IT READS IS OF BULK AT MOST 1048576: true; the input reads as it did. -/
def fnExactIsBalancedUptoRow : OpenClaim := { program := "ytpikecbmooendaa", sum := "ce85e2fff354bf6ce844335c868ed91706be4aa676bd3ad98959f8973ceaf273", func := "loop.example/coveringtests/laws.FnExactIsBalanced", spec := "fnExactIsBalanced", recurses := true, plainKeys := false, apart := false, narrowed := true }
def FnExactIsBalancedUptoSaid : Prop := fnExactIsBalancedUptoRow.holds Try.pinned (OpenSpec.upto fnExactIsBalancedSpec)

/-- 'laws.FnExactBestTest', WHERE WHAT IT READS IS OF BULK AT MOST 1048576: true; the input reads as it did. -/
def fnExactBestTestUptoRow : OpenClaim := { program := "ytpikecbmooendaa", sum := "ce85e2fff354bf6ce844335c868ed91706be4aa676bd3ad98959f8973ceaf273", func := "loop.example/coveringtests/laws.FnExactBestTest", spec := "fnExactBestTest", unfollowed := true, recurses := true, plainKeys := false, apart := false, narrowed := true }
def FnExactBestTestUptoSaid : Prop := fnExactBestTestUptoRow.holds Try.pinned (OpenSpec.upto fnExactBestTestSpec)

/-- 'laws.FnExactGrowSuite', WHERE WHAT IT READS IS OF BULK AT MOST 1048576: true; the input reads as it did. -/
def fnExactGrowSuiteUptoRow : OpenClaim := { program := "ytpikecbmooendaa", sum := "ce85e2fff354bf6ce844335c868ed91706be4aa676bd3ad98959f8973ceaf273", func := "loop.example/coveringtests/laws.FnExactGrowSuite", spec := "fnExactGrowSuite", unfollowed := true, recurses := true, plainKeys := false, apart := false, narrowed := true }
def FnExactGrowSuiteUptoSaid : Prop := fnExactGrowSuiteUptoRow.holds Try.pinned (OpenSpec.upto fnExactGrowSuiteSpec)

/-- 'laws.FnExactLeastTests', WHERE WHAT IT READS IS OF BULK AT MOST 1048576: true; the input reads as it did. -/
def fnExactLeastTestsUptoRow : OpenClaim := { program := "ytpikecbmooendaa", sum := "ce85e2fff354bf6ce844335c868ed91706be4aa676bd3ad98959f8973ceaf273", func := "loop.example/coveringtests/laws.FnExactLeastTests", spec := "fnExactLeastTests", unfollowed := true, recurses := true, plainKeys := false, apart := false, narrowed := true }
def FnExactLeastTestsUptoSaid : Prop := fnExactLeastTestsUptoRow.holds Try.pinned (OpenSpec.upto fnExactLeastTestsSpec)

/-- 'laws.FnExactFewestTests', WHERE WHAT IT READS IS OF BULK AT MOST 1048576: true; the input reads as it did. -/
def fnExactFewestTestsUptoRow : OpenClaim := { program := "ytpikecbmooendaa", sum := "ce85e2fff354bf6ce844335c868ed91706be4aa676bd3ad98959f8973ceaf273", func := "loop.example/coveringtests/laws.FnExactFewestTests", spec := "fnExactFewestTests", unfollowed := true, recurses := true, plainKeys := false, apart := false, narrowed := true }
def FnExactFewestTestsUptoSaid : Prop := fnExactFewestTestsUptoRow.holds Try.pinned (OpenSpec.upto fnExactFewestTestsSpec)

/-- 'laws.FnExactAddFactor', WHERE WHAT IT READS IS OF BULK AT MOST 1048576: true; the input reads as it did. -/
def fnExactAddFactorUptoRow : OpenClaim := { program := "ytpikecbmooendaa", sum := "ce85e2fff354bf6ce844335c868ed91706be4aa676bd3ad98959f8973ceaf273", func := "loop.example/coveringtests/laws.FnExactAddFactor", spec := "fnExactAddFactor", unfollowed := true, recurses := true, plainKeys := false, apart := false, narrowed := true }
def FnExactAddFactorUptoSaid : Prop := fnExactAddFactorUptoRow.holds Try.pinned (OpenSpec.upto fnExactAddFactorSpec)

/-- 'laws.FnExactAllowedTests', WHERE WHAT IT READS IS OF BULK AT MOST 1048576: true; the input reads as it did. -/
def fnExactAllowedTestsUptoRow : OpenClaim := { program := "ytpikecbmooendaa", sum := "ce85e2fff354bf6ce844335c868ed91706be4aa676bd3ad98959f8973ceaf273", func := "loop.example/coveringtests/laws.FnExactAllowedTests", spec := "fnExactAllowedTests", unfollowed := true, recurses := true, plainKeys := false, apart := false, narrowed := true }
def FnExactAllowedTestsUptoSaid : Prop := fnExactAllowedTestsUptoRow.holds Try.pinned (OpenSpec.upto fnExactAllowedTestsSpec)

/-- 'laws.FnExactImpliedBans', WHERE WHAT IT READS IS OF BULK AT MOST 1048576: true; the input reads as it did. -/
def fnExactImpliedBansUptoRow : OpenClaim := { program := "ytpikecbmooendaa", sum := "ce85e2fff354bf6ce844335c868ed91706be4aa676bd3ad98959f8973ceaf273", func := "loop.example/coveringtests/laws.FnExactImpliedBans", spec := "fnExactImpliedBans", unfollowed := true, recurses := true, plainKeys := false, apart := false, narrowed := true }
def FnExactImpliedBansUptoSaid : Prop := fnExactImpliedBansUptoRow.holds Try.pinned (OpenSpec.upto fnExactImpliedBansSpec)

/-- 'laws.FnExactSameBans', WHERE WHAT IT READS IS OF BULK AT MOST 1048576: true; the input reads as it did. -/
def fnExactSameBansUptoRow : OpenClaim := { program := "ytpikecbmooendaa", sum := "ce85e2fff354bf6ce844335c868ed91706be4aa676bd3ad98959f8973ceaf273", func := "loop.example/coveringtests/laws.FnExactSameBans", spec := "fnExactSameBans", unfollowed := true, recurses := true, plainKeys := false, apart := false, narrowed := true }
def FnExactSameBansUptoSaid : Prop := fnExactSameBansUptoRow.holds Try.pinned (OpenSpec.upto fnExactSameBansSpec)

/-- 'laws.FnExactGrowAllowed', WHERE WHAT IT READS IS OF BULK AT MOST 1048576: true; the input reads as it did. -/
def fnExactGrowAllowedUptoRow : OpenClaim := { program := "ytpikecbmooendaa", sum := "ce85e2fff354bf6ce844335c868ed91706be4aa676bd3ad98959f8973ceaf273", func := "loop.example/coveringtests/laws.FnExactGrowAllowed", spec := "fnExactGrowAllowed", unfollowed := true, recurses := true, plainKeys := false, apart := false, narrowed := true }
def FnExactGrowAllowedUptoSaid : Prop := fnExactGrowAllowedUptoRow.holds Try.pinned (OpenSpec.upto fnExactGrowAllowedSpec)

/-- 'laws.FnExactExplainBans', WHERE WHAT IT READS IS OF BULK AT MOST 1048576: true; the input reads as it did. -/
def fnExactExplainBansUptoRow : OpenClaim := { program := "ytpikecbmooendaa", sum := "ce85e2fff354bf6ce844335c868ed91706be4aa676bd3ad98959f8973ceaf273", func := "loop.example/coveringtests/laws.FnExactExplainBans", spec := "fnExactExplainBans", unfollowed := true, recurses := true, plainKeys := false, apart := false, narrowed := true }
def FnExactExplainBansUptoSaid : Prop := fnExactExplainBansUptoRow.holds Try.pinned (OpenSpec.upto fnExactExplainBansSpec)

/-- 'laws.FnExactResultsOf', WHERE WHAT IT READS IS OF BULK AT MOST 1048576: true; the input reads as it did. -/
def fnExactResultsOfUptoRow : OpenClaim := { program := "ytpikecbmooendaa", sum := "ce85e2fff354bf6ce844335c868ed91706be4aa676bd3ad98959f8973ceaf273", func := "loop.example/coveringtests/laws.FnExactResultsOf", spec := "fnExactResultsOf", unfollowed := true, recurses := true, plainKeys := false, apart := false, narrowed := true }
def FnExactResultsOfUptoSaid : Prop := fnExactResultsOfUptoRow.holds Try.pinned (OpenSpec.upto fnExactResultsOfSpec)

/-- 'laws.FnExactSuspectsOf', WHERE WHAT IT READS IS OF BULK AT MOST 1048576: true; the input reads as it did. -/
def fnExactSuspectsOfUptoRow : OpenClaim := { program := "ytpikecbmooendaa", sum := "ce85e2fff354bf6ce844335c868ed91706be4aa676bd3ad98959f8973ceaf273", func := "loop.example/coveringtests/laws.FnExactSuspectsOf", spec := "fnExactSuspectsOf", unfollowed := true, recurses := true, plainKeys := false, apart := false, narrowed := true }
def FnExactSuspectsOfUptoSaid : Prop := fnExactSuspectsOfUptoRow.holds Try.pinned (OpenSpec.upto fnExactSuspectsOfSpec)

/-- 'laws.FnExactCulpritsOf', WHERE WHAT IT READS IS OF BULK AT MOST 1048576: true; the input reads as it did. -/
def fnExactCulpritsOfUptoRow : OpenClaim := { program := "ytpikecbmooendaa", sum := "ce85e2fff354bf6ce844335c868ed91706be4aa676bd3ad98959f8973ceaf273", func := "loop.example/coveringtests/laws.FnExactCulpritsOf", spec := "fnExactCulpritsOf", unfollowed := true, recurses := true, plainKeys := false, apart := false, narrowed := true }
def FnExactCulpritsOfUptoSaid : Prop := fnExactCulpritsOfUptoRow.holds Try.pinned (OpenSpec.upto fnExactCulpritsOfSpec)

/-- 'laws.FnExactIsLocating', WHERE WHAT IT READS IS OF BULK AT MOST 1048576: true; the input reads as it did. -/
def fnExactIsLocatingUptoRow : OpenClaim := { program := "ytpikecbmooendaa", sum := "ce85e2fff354bf6ce844335c868ed91706be4aa676bd3ad98959f8973ceaf273", func := "loop.example/coveringtests/laws.FnExactIsLocating", spec := "fnExactIsLocating", recurses := true, plainKeys := false, apart := false, narrowed := true }
def FnExactIsLocatingUptoSaid : Prop := fnExactIsLocatingUptoRow.holds Try.pinned (OpenSpec.upto fnExactIsLocatingSpec)

/-- 'laws.FnExactIsDetecting', WHERE WHAT IT READS IS OF BULK AT MOST 1048576: true; the input reads as it did. -/
def fnExactIsDetectingUptoRow : OpenClaim := { program := "ytpikecbmooendaa", sum := "ce85e2fff354bf6ce844335c868ed91706be4aa676bd3ad98959f8973ceaf273", func := "loop.example/coveringtests/laws.FnExactIsDetecting", spec := "fnExactIsDetecting", recurses := true, plainKeys := false, apart := false, narrowed := true }
def FnExactIsDetectingUptoSaid : Prop := fnExactIsDetectingUptoRow.holds Try.pinned (OpenSpec.upto fnExactIsDetectingSpec)

/-- 'laws.FnExactSplitTest', WHERE WHAT IT READS IS OF BULK AT MOST 1048576: true; the input reads as it did. -/
def fnExactSplitTestUptoRow : OpenClaim := { program := "ytpikecbmooendaa", sum := "ce85e2fff354bf6ce844335c868ed91706be4aa676bd3ad98959f8973ceaf273", func := "loop.example/coveringtests/laws.FnExactSplitTest", spec := "fnExactSplitTest", unfollowed := true, recurses := true, plainKeys := false, apart := false, narrowed := true }
def FnExactSplitTestUptoSaid : Prop := fnExactSplitTestUptoRow.holds Try.pinned (OpenSpec.upto fnExactSplitTestSpec)

/-- 'laws.FnExactHuntFault', WHERE WHAT IT READS IS OF BULK AT MOST 1048576: true; the input reads as it did. -/
def fnExactHuntFaultUptoRow : OpenClaim := { program := "ytpikecbmooendaa", sum := "ce85e2fff354bf6ce844335c868ed91706be4aa676bd3ad98959f8973ceaf273", func := "loop.example/coveringtests/laws.FnExactHuntFault", spec := "fnExactHuntFault", unfollowed := true, recurses := true, plainKeys := false, apart := false, narrowed := true }
def FnExactHuntFaultUptoSaid : Prop := fnExactHuntFaultUptoRow.holds Try.pinned (OpenSpec.upto fnExactHuntFaultSpec)

/-- 'laws.FnExactShrinkFailure', WHERE WHAT IT READS IS OF BULK AT MOST 1048576: true; the input reads as it did. -/
def fnExactShrinkFailureUptoRow : OpenClaim := { program := "ytpikecbmooendaa", sum := "ce85e2fff354bf6ce844335c868ed91706be4aa676bd3ad98959f8973ceaf273", func := "loop.example/coveringtests/laws.FnExactShrinkFailure", spec := "fnExactShrinkFailure", unfollowed := true, recurses := true, plainKeys := false, apart := false, narrowed := true }
def FnExactShrinkFailureUptoSaid : Prop := fnExactShrinkFailureUptoRow.holds Try.pinned (OpenSpec.upto fnExactShrinkFailureSpec)

end Rows
end Go.Proofs.Ytpikecbmooendaa
