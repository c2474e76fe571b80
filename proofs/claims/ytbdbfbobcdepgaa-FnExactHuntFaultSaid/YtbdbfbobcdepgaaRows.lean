/-
  No cell of these rows narrows 'for every input' (looked for: loops, veiled, ifaces, maps, wideKeys, modest, calm, conditions, laid).
  DERIVED. THE GIVEN ROWS OF THIS SEAT. 18 by the template 'for every input the law returns true; each argument reads behind the call as it read before'; 0 by the template 'total and deterministic' (their statements: YtbdbfbobcdepgaaTotals.lean).
  GIVEN WITH THE SEED: the statements are not yours to turn. If you find one false, say at which input.
  Laid BY PROGRAM, IN A SANDBOX (cutbox-rows.mjs): the forced cells as the released guide's own fill.sh prints them over the translation 9783918e0d7c49ce… (all of the seat's roots in one cut). By AI agents, Wed Nov 11 2026. No macro, syntax, notation, axiom, sorry.
-/
import Derived.Test.YtbdbfbobcdepgaaChecked
import GoSem.Claim
import GoSem.ClaimJoined
import GoSem.ClaimMapViews
import Derived.JoinedTies
import Derived.KernelRfl
namespace Go.Proofs.Ytbdbfbobcdepgaa
/- THE CELL 'sum', in the pinned program and in every row, IS THE sha256 OF THE DUMP (.gsa) THAT YtbdbfbobcdepgaaProg.lean LOADS. Nothing in Lean hashes anything: it is a label: what it is worth is what the hold of that sum in a sandbox is worth. -/
noncomputable def Try.pinned : Pinned := { name := "ytbdbfbobcdepgaa", sum := "9783918e0d7c49ce022fb3c89e2867942937222761467ada7553c6448212a97d", checked := Try.checked }
namespace Rows
def none {H : Type} : Left H := { results := [], args := [] }

/-- 'laws.FnExactIsBalanced': WHATEVER THE INPUT: true; the input reads as it did. -/
def fnExactIsBalancedSpec : ChangeSpec := { name := "fnExactIsBalanced", fn := fun _ => fun
  | [d1, d2, d3] => { results := [.lit (.bool true)], args := [d1, d2, d3] }
  | _ => none }
def fnExactIsBalancedRow : OpenClaim := { program := "ytbdbfbobcdepgaa", sum := "9783918e0d7c49ce022fb3c89e2867942937222761467ada7553c6448212a97d", func := "loop.example/coveringtests/laws.FnExactIsBalanced", spec := "fnExactIsBalanced", recurses := true, plainKeys := false, apart := false }
def FnExactIsBalancedSaid : Prop := fnExactIsBalancedRow.holds Try.pinned (OpenSpec.ofChange fnExactIsBalancedSpec)

/-- ITS FALSE NEIGHBOUR: 'it returns false'. Refute it at one input. -/
def fnExactIsBalancedWrong : ChangeSpec := { name := "fnExactIsBalanced", fn := fun _ => fun
  | [d1, d2, d3] => { results := [.lit (.bool false)], args := [d1, d2, d3] }
  | _ => none }
def FnExactIsBalancedWrongFalsely : Prop := fnExactIsBalancedRow.holds Try.pinned (OpenSpec.ofChange fnExactIsBalancedWrong)

/-- 'laws.FnExactLeastTests': WHATEVER THE INPUT: true; the input reads as it did. -/
def fnExactLeastTestsSpec : ChangeSpec := { name := "fnExactLeastTests", fn := fun _ => fun
  | [d1, d2] => { results := [.lit (.bool true)], args := [d1, d2] }
  | _ => none }
def fnExactLeastTestsRow : OpenClaim := { program := "ytbdbfbobcdepgaa", sum := "9783918e0d7c49ce022fb3c89e2867942937222761467ada7553c6448212a97d", func := "loop.example/coveringtests/laws.FnExactLeastTests", spec := "fnExactLeastTests", unfollowed := true, recurses := true, plainKeys := false, apart := false }
def FnExactLeastTestsSaid : Prop := fnExactLeastTestsRow.holds Try.pinned (OpenSpec.ofChange fnExactLeastTestsSpec)

/-- ITS FALSE NEIGHBOUR: 'it returns false'. Refute it at one input. -/
def fnExactLeastTestsWrong : ChangeSpec := { name := "fnExactLeastTests", fn := fun _ => fun
  | [d1, d2] => { results := [.lit (.bool false)], args := [d1, d2] }
  | _ => none }
def FnExactLeastTestsWrongFalsely : Prop := fnExactLeastTestsRow.holds Try.pinned (OpenSpec.ofChange fnExactLeastTestsWrong)

/-- 'laws.FnExactFewestTests': WHATEVER THE INPUT: true; the input reads as it did. -/
def fnExactFewestTestsSpec : ChangeSpec := { name := "fnExactFewestTests", fn := fun _ => fun
  | [d1, d2] => { results := [.lit (.bool true)], args := [d1, d2] }
  | _ => none }
def fnExactFewestTestsRow : OpenClaim := { program := "ytbdbfbobcdepgaa", sum := "9783918e0d7c49ce022fb3c89e2867942937222761467ada7553c6448212a97d", func := "loop.example/coveringtests/laws.FnExactFewestTests", spec := "fnExactFewestTests", unfollowed := true, recurses := true, plainKeys := false, apart := false }
def FnExactFewestTestsSaid : Prop := fnExactFewestTestsRow.holds Try.pinned (OpenSpec.ofChange fnExactFewestTestsSpec)

/-- ITS FALSE NEIGHBOUR: 'it returns false'. Refute it at one input. -/
def fnExactFewestTestsWrong : ChangeSpec := { name := "fnExactFewestTests", fn := fun _ => fun
  | [d1, d2] => { results := [.lit (.bool false)], args := [d1, d2] }
  | _ => none }
def FnExactFewestTestsWrongFalsely : Prop := fnExactFewestTestsRow.holds Try.pinned (OpenSpec.ofChange fnExactFewestTestsWrong)

/-- 'laws.FnExactAddFactor': WHATEVER THE INPUT: true; the input reads as it did. -/
def fnExactAddFactorSpec : ChangeSpec := { name := "fnExactAddFactor", fn := fun _ => fun
  | [d1, d2, d3, d4] => { results := [.lit (.bool true)], args := [d1, d2, d3, d4] }
  | _ => none }
def fnExactAddFactorRow : OpenClaim := { program := "ytbdbfbobcdepgaa", sum := "9783918e0d7c49ce022fb3c89e2867942937222761467ada7553c6448212a97d", func := "loop.example/coveringtests/laws.FnExactAddFactor", spec := "fnExactAddFactor", unfollowed := true, recurses := true, plainKeys := false, apart := false }
def FnExactAddFactorSaid : Prop := fnExactAddFactorRow.holds Try.pinned (OpenSpec.ofChange fnExactAddFactorSpec)

/-- ITS FALSE NEIGHBOUR: 'it returns false'. Refute it at one input. -/
def fnExactAddFactorWrong : ChangeSpec := { name := "fnExactAddFactor", fn := fun _ => fun
  | [d1, d2, d3, d4] => { results := [.lit (.bool false)], args := [d1, d2, d3, d4] }
  | _ => none }
def FnExactAddFactorWrongFalsely : Prop := fnExactAddFactorRow.holds Try.pinned (OpenSpec.ofChange fnExactAddFactorWrong)

/-- 'laws.FnExactExplainBans': WHATEVER THE INPUT: true; the input reads as it did. -/
def fnExactExplainBansSpec : ChangeSpec := { name := "fnExactExplainBans", fn := fun _ => fun
  | [d1, d2, d3] => { results := [.lit (.bool true)], args := [d1, d2, d3] }
  | _ => none }
def fnExactExplainBansRow : OpenClaim := { program := "ytbdbfbobcdepgaa", sum := "9783918e0d7c49ce022fb3c89e2867942937222761467ada7553c6448212a97d", func := "loop.example/coveringtests/laws.FnExactExplainBans", spec := "fnExactExplainBans", unfollowed := true, recurses := true, plainKeys := false, apart := false }
def FnExactExplainBansSaid : Prop := fnExactExplainBansRow.holds Try.pinned (OpenSpec.ofChange fnExactExplainBansSpec)

/-- ITS FALSE NEIGHBOUR: 'it returns false'. Refute it at one input. -/
def fnExactExplainBansWrong : ChangeSpec := { name := "fnExactExplainBans", fn := fun _ => fun
  | [d1, d2, d3] => { results := [.lit (.bool false)], args := [d1, d2, d3] }
  | _ => none }
def FnExactExplainBansWrongFalsely : Prop := fnExactExplainBansRow.holds Try.pinned (OpenSpec.ofChange fnExactExplainBansWrong)

/-- 'laws.FnExactSuspectsOf': WHATEVER THE INPUT: true; the input reads as it did. -/
def fnExactSuspectsOfSpec : ChangeSpec := { name := "fnExactSuspectsOf", fn := fun _ => fun
  | [d1, d2, d3, d4] => { results := [.lit (.bool true)], args := [d1, d2, d3, d4] }
  | _ => none }
def fnExactSuspectsOfRow : OpenClaim := { program := "ytbdbfbobcdepgaa", sum := "9783918e0d7c49ce022fb3c89e2867942937222761467ada7553c6448212a97d", func := "loop.example/coveringtests/laws.FnExactSuspectsOf", spec := "fnExactSuspectsOf", unfollowed := true, recurses := true, plainKeys := false, apart := false }
def FnExactSuspectsOfSaid : Prop := fnExactSuspectsOfRow.holds Try.pinned (OpenSpec.ofChange fnExactSuspectsOfSpec)

/-- ITS FALSE NEIGHBOUR: 'it returns false'. Refute it at one input. -/
def fnExactSuspectsOfWrong : ChangeSpec := { name := "fnExactSuspectsOf", fn := fun _ => fun
  | [d1, d2, d3, d4] => { results := [.lit (.bool false)], args := [d1, d2, d3, d4] }
  | _ => none }
def FnExactSuspectsOfWrongFalsely : Prop := fnExactSuspectsOfRow.holds Try.pinned (OpenSpec.ofChange fnExactSuspectsOfWrong)

/-- 'laws.FnExactCulpritsOf': WHATEVER THE INPUT: true; the input reads as it did. -/
def fnExactCulpritsOfSpec : ChangeSpec := { name := "fnExactCulpritsOf", fn := fun _ => fun
  | [d1, d2, d3, d4] => { results := [.lit (.bool true)], args := [d1, d2, d3, d4] }
  | _ => none }
def fnExactCulpritsOfRow : OpenClaim := { program := "ytbdbfbobcdepgaa", sum := "9783918e0d7c49ce022fb3c89e2867942937222761467ada7553c6448212a97d", func := "loop.example/coveringtests/laws.FnExactCulpritsOf", spec := "fnExactCulpritsOf", unfollowed := true, recurses := true, plainKeys := false, apart := false }
def FnExactCulpritsOfSaid : Prop := fnExactCulpritsOfRow.holds Try.pinned (OpenSpec.ofChange fnExactCulpritsOfSpec)

/-- ITS FALSE NEIGHBOUR: 'it returns false'. Refute it at one input. -/
def fnExactCulpritsOfWrong : ChangeSpec := { name := "fnExactCulpritsOf", fn := fun _ => fun
  | [d1, d2, d3, d4] => { results := [.lit (.bool false)], args := [d1, d2, d3, d4] }
  | _ => none }
def FnExactCulpritsOfWrongFalsely : Prop := fnExactCulpritsOfRow.holds Try.pinned (OpenSpec.ofChange fnExactCulpritsOfWrong)

/-- 'laws.FnExactIsLocating': WHATEVER THE INPUT: true; the input reads as it did. -/
def fnExactIsLocatingSpec : ChangeSpec := { name := "fnExactIsLocating", fn := fun _ => fun
  | [d1, d2, d3] => { results := [.lit (.bool true)], args := [d1, d2, d3] }
  | _ => none }
def fnExactIsLocatingRow : OpenClaim := { program := "ytbdbfbobcdepgaa", sum := "9783918e0d7c49ce022fb3c89e2867942937222761467ada7553c6448212a97d", func := "loop.example/coveringtests/laws.FnExactIsLocating", spec := "fnExactIsLocating", recurses := true, plainKeys := false, apart := false }
def FnExactIsLocatingSaid : Prop := fnExactIsLocatingRow.holds Try.pinned (OpenSpec.ofChange fnExactIsLocatingSpec)

/-- ITS FALSE NEIGHBOUR: 'it returns false'. Refute it at one input. -/
def fnExactIsLocatingWrong : ChangeSpec := { name := "fnExactIsLocating", fn := fun _ => fun
  | [d1, d2, d3] => { results := [.lit (.bool false)], args := [d1, d2, d3] }
  | _ => none }
def FnExactIsLocatingWrongFalsely : Prop := fnExactIsLocatingRow.holds Try.pinned (OpenSpec.ofChange fnExactIsLocatingWrong)

/-- 'laws.FnExactIsDetecting': WHATEVER THE INPUT: true; the input reads as it did. -/
def fnExactIsDetectingSpec : ChangeSpec := { name := "fnExactIsDetecting", fn := fun _ => fun
  | [d1, d2, d3] => { results := [.lit (.bool true)], args := [d1, d2, d3] }
  | _ => none }
def fnExactIsDetectingRow : OpenClaim := { program := "ytbdbfbobcdepgaa", sum := "9783918e0d7c49ce022fb3c89e2867942937222761467ada7553c6448212a97d", func := "loop.example/coveringtests/laws.FnExactIsDetecting", spec := "fnExactIsDetecting", recurses := true, plainKeys := false, apart := false }
def FnExactIsDetectingSaid : Prop := fnExactIsDetectingRow.holds Try.pinned (OpenSpec.ofChange fnExactIsDetectingSpec)

/-- ITS FALSE NEIGHBOUR: 'it returns false'. Refute it at one input. -/
def fnExactIsDetectingWrong : ChangeSpec := { name := "fnExactIsDetecting", fn := fun _ => fun
  | [d1, d2, d3] => { results := [.lit (.bool false)], args := [d1, d2, d3] }
  | _ => none }
def FnExactIsDetectingWrongFalsely : Prop := fnExactIsDetectingRow.holds Try.pinned (OpenSpec.ofChange fnExactIsDetectingWrong)

/-- 'laws.FnExactSplitTest': WHATEVER THE INPUT: true; the input reads as it did. -/
def fnExactSplitTestSpec : ChangeSpec := { name := "fnExactSplitTest", fn := fun _ => fun
  | [d1, d2] => { results := [.lit (.bool true)], args := [d1, d2] }
  | _ => none }
def fnExactSplitTestRow : OpenClaim := { program := "ytbdbfbobcdepgaa", sum := "9783918e0d7c49ce022fb3c89e2867942937222761467ada7553c6448212a97d", func := "loop.example/coveringtests/laws.FnExactSplitTest", spec := "fnExactSplitTest", unfollowed := true, recurses := true, plainKeys := false, apart := false }
def FnExactSplitTestSaid : Prop := fnExactSplitTestRow.holds Try.pinned (OpenSpec.ofChange fnExactSplitTestSpec)

/-- ITS FALSE NEIGHBOUR: 'it returns false'. Refute it at one input. -/
def fnExactSplitTestWrong : ChangeSpec := { name := "fnExactSplitTest", fn := fun _ => fun
  | [d1, d2] => { results := [.lit (.bool false)], args := [d1, d2] }
  | _ => none }
def FnExactSplitTestWrongFalsely : Prop := fnExactSplitTestRow.holds Try.pinned (OpenSpec.ofChange fnExactSplitTestWrong)

/-- 'laws.FnExactHuntFault': WHATEVER THE INPUT: true; the input reads as it did. -/
def fnExactHuntFaultSpec : ChangeSpec := { name := "fnExactHuntFault", fn := fun _ => fun
  | [d1, d2] => { results := [.lit (.bool true)], args := [d1, d2] }
  | _ => none }
def fnExactHuntFaultRow : OpenClaim := { program := "ytbdbfbobcdepgaa", sum := "9783918e0d7c49ce022fb3c89e2867942937222761467ada7553c6448212a97d", func := "loop.example/coveringtests/laws.FnExactHuntFault", spec := "fnExactHuntFault", unfollowed := true, recurses := true, plainKeys := false, apart := false }
def FnExactHuntFaultSaid : Prop := fnExactHuntFaultRow.holds Try.pinned (OpenSpec.ofChange fnExactHuntFaultSpec)

/-- ITS FALSE NEIGHBOUR: 'it returns false'. Refute it at one input. -/
def fnExactHuntFaultWrong : ChangeSpec := { name := "fnExactHuntFault", fn := fun _ => fun
  | [d1, d2] => { results := [.lit (.bool false)], args := [d1, d2] }
  | _ => none }
def FnExactHuntFaultWrongFalsely : Prop := fnExactHuntFaultRow.holds Try.pinned (OpenSpec.ofChange fnExactHuntFaultWrong)

/-- 'laws.FnExactShrinkFailure': WHATEVER THE INPUT: true; the input reads as it did. -/
def fnExactShrinkFailureSpec : ChangeSpec := { name := "fnExactShrinkFailure", fn := fun _ => fun
  | [d1, d2, d3, d4] => { results := [.lit (.bool true)], args := [d1, d2, d3, d4] }
  | _ => none }
def fnExactShrinkFailureRow : OpenClaim := { program := "ytbdbfbobcdepgaa", sum := "9783918e0d7c49ce022fb3c89e2867942937222761467ada7553c6448212a97d", func := "loop.example/coveringtests/laws.FnExactShrinkFailure", spec := "fnExactShrinkFailure", unfollowed := true, recurses := true, plainKeys := false, apart := false }
def FnExactShrinkFailureSaid : Prop := fnExactShrinkFailureRow.holds Try.pinned (OpenSpec.ofChange fnExactShrinkFailureSpec)

/-- ITS FALSE NEIGHBOUR: 'it returns false'. Refute it at one input. -/
def fnExactShrinkFailureWrong : ChangeSpec := { name := "fnExactShrinkFailure", fn := fun _ => fun
  | [d1, d2, d3, d4] => { results := [.lit (.bool false)], args := [d1, d2, d3, d4] }
  | _ => none }
def FnExactShrinkFailureWrongFalsely : Prop := fnExactShrinkFailureRow.holds Try.pinned (OpenSpec.ofChange fnExactShrinkFailureWrong)

/-- 'laws.FnExactValidBans': WHATEVER THE INPUT: true; the input reads as it did. -/
def fnExactValidBansSpec : ChangeSpec := { name := "fnExactValidBans", fn := fun _ => fun
  | [d1, d2] => { results := [.lit (.bool true)], args := [d1, d2] }
  | _ => none }
def fnExactValidBansRow : OpenClaim := { program := "ytbdbfbobcdepgaa", sum := "9783918e0d7c49ce022fb3c89e2867942937222761467ada7553c6448212a97d", func := "loop.example/coveringtests/laws.FnExactValidBans", spec := "fnExactValidBans", plainKeys := false, apart := false }
def FnExactValidBansSaid : Prop := fnExactValidBansRow.holds Try.pinned (OpenSpec.ofChange fnExactValidBansSpec)

/-- ITS FALSE NEIGHBOUR: 'it returns false'. Refute it at one input. -/
def fnExactValidBansWrong : ChangeSpec := { name := "fnExactValidBans", fn := fun _ => fun
  | [d1, d2] => { results := [.lit (.bool false)], args := [d1, d2] }
  | _ => none }
def FnExactValidBansWrongFalsely : Prop := fnExactValidBansRow.holds Try.pinned (OpenSpec.ofChange fnExactValidBansWrong)

/-- 'laws.FnExactIsPossible': WHATEVER THE INPUT: true; the input reads as it did. -/
def fnExactIsPossibleSpec : ChangeSpec := { name := "fnExactIsPossible", fn := fun _ => fun
  | [d1, d2, d3] => { results := [.lit (.bool true)], args := [d1, d2, d3] }
  | _ => none }
def fnExactIsPossibleRow : OpenClaim := { program := "ytbdbfbobcdepgaa", sum := "9783918e0d7c49ce022fb3c89e2867942937222761467ada7553c6448212a97d", func := "loop.example/coveringtests/laws.FnExactIsPossible", spec := "fnExactIsPossible", unfollowed := true, recurses := true, plainKeys := false, apart := false }
def FnExactIsPossibleSaid : Prop := fnExactIsPossibleRow.holds Try.pinned (OpenSpec.ofChange fnExactIsPossibleSpec)

/-- ITS FALSE NEIGHBOUR: 'it returns false'. Refute it at one input. -/
def fnExactIsPossibleWrong : ChangeSpec := { name := "fnExactIsPossible", fn := fun _ => fun
  | [d1, d2, d3] => { results := [.lit (.bool false)], args := [d1, d2, d3] }
  | _ => none }
def FnExactIsPossibleWrongFalsely : Prop := fnExactIsPossibleRow.holds Try.pinned (OpenSpec.ofChange fnExactIsPossibleWrong)

/-- 'laws.FnExactCompleteTest': WHATEVER THE INPUT: true; the input reads as it did. -/
def fnExactCompleteTestSpec : ChangeSpec := { name := "fnExactCompleteTest", fn := fun _ => fun
  | [d1, d2, d3] => { results := [.lit (.bool true)], args := [d1, d2, d3] }
  | _ => none }
def fnExactCompleteTestRow : OpenClaim := { program := "ytbdbfbobcdepgaa", sum := "9783918e0d7c49ce022fb3c89e2867942937222761467ada7553c6448212a97d", func := "loop.example/coveringtests/laws.FnExactCompleteTest", spec := "fnExactCompleteTest", unfollowed := true, recurses := true, plainKeys := false, apart := false }
def FnExactCompleteTestSaid : Prop := fnExactCompleteTestRow.holds Try.pinned (OpenSpec.ofChange fnExactCompleteTestSpec)

/-- ITS FALSE NEIGHBOUR: 'it returns false'. Refute it at one input. -/
def fnExactCompleteTestWrong : ChangeSpec := { name := "fnExactCompleteTest", fn := fun _ => fun
  | [d1, d2, d3] => { results := [.lit (.bool false)], args := [d1, d2, d3] }
  | _ => none }
def FnExactCompleteTestWrongFalsely : Prop := fnExactCompleteTestRow.holds Try.pinned (OpenSpec.ofChange fnExactCompleteTestWrong)

/-- 'laws.FnExactPossiblePatterns': WHATEVER THE INPUT: true; the input reads as it did. -/
def fnExactPossiblePatternsSpec : ChangeSpec := { name := "fnExactPossiblePatterns", fn := fun _ => fun
  | [d1, d2, d3] => { results := [.lit (.bool true)], args := [d1, d2, d3] }
  | _ => none }
def fnExactPossiblePatternsRow : OpenClaim := { program := "ytbdbfbobcdepgaa", sum := "9783918e0d7c49ce022fb3c89e2867942937222761467ada7553c6448212a97d", func := "loop.example/coveringtests/laws.FnExactPossiblePatterns", spec := "fnExactPossiblePatterns", unfollowed := true, recurses := true, plainKeys := false, apart := false }
def FnExactPossiblePatternsSaid : Prop := fnExactPossiblePatternsRow.holds Try.pinned (OpenSpec.ofChange fnExactPossiblePatternsSpec)

/-- ITS FALSE NEIGHBOUR: 'it returns false'. Refute it at one input. -/
def fnExactPossiblePatternsWrong : ChangeSpec := { name := "fnExactPossiblePatterns", fn := fun _ => fun
  | [d1, d2, d3] => { results := [.lit (.bool false)], args := [d1, d2, d3] }
  | _ => none }
def FnExactPossiblePatternsWrongFalsely : Prop := fnExactPossiblePatternsRow.holds Try.pinned (OpenSpec.ofChange fnExactPossiblePatternsWrong)

/-- 'laws.FnExactLeastBans': WHATEVER THE INPUT: true; the input reads as it did. -/
def fnExactLeastBansSpec : ChangeSpec := { name := "fnExactLeastBans", fn := fun _ => fun
  | [d1, d2] => { results := [.lit (.bool true)], args := [d1, d2] }
  | _ => none }
def fnExactLeastBansRow : OpenClaim := { program := "ytbdbfbobcdepgaa", sum := "9783918e0d7c49ce022fb3c89e2867942937222761467ada7553c6448212a97d", func := "loop.example/coveringtests/laws.FnExactLeastBans", spec := "fnExactLeastBans", unfollowed := true, recurses := true, plainKeys := false, apart := false }
def FnExactLeastBansSaid : Prop := fnExactLeastBansRow.holds Try.pinned (OpenSpec.ofChange fnExactLeastBansSpec)

/-- ITS FALSE NEIGHBOUR: 'it returns false'. Refute it at one input. -/
def fnExactLeastBansWrong : ChangeSpec := { name := "fnExactLeastBans", fn := fun _ => fun
  | [d1, d2] => { results := [.lit (.bool false)], args := [d1, d2] }
  | _ => none }
def FnExactLeastBansWrongFalsely : Prop := fnExactLeastBansRow.holds Try.pinned (OpenSpec.ofChange fnExactLeastBansWrong)

/-- 'laws.FnExactIsAllowedCovering': WHATEVER THE INPUT: true; the input reads as it did. -/
def fnExactIsAllowedCoveringSpec : ChangeSpec := { name := "fnExactIsAllowedCovering", fn := fun _ => fun
  | [d1, d2, d3, d4] => { results := [.lit (.bool true)], args := [d1, d2, d3, d4] }
  | _ => none }
def fnExactIsAllowedCoveringRow : OpenClaim := { program := "ytbdbfbobcdepgaa", sum := "9783918e0d7c49ce022fb3c89e2867942937222761467ada7553c6448212a97d", func := "loop.example/coveringtests/laws.FnExactIsAllowedCovering", spec := "fnExactIsAllowedCovering", unfollowed := true, recurses := true, plainKeys := false, apart := false }
def FnExactIsAllowedCoveringSaid : Prop := fnExactIsAllowedCoveringRow.holds Try.pinned (OpenSpec.ofChange fnExactIsAllowedCoveringSpec)

/-- ITS FALSE NEIGHBOUR: 'it returns false'. Refute it at one input. -/
def fnExactIsAllowedCoveringWrong : ChangeSpec := { name := "fnExactIsAllowedCovering", fn := fun _ => fun
  | [d1, d2, d3, d4] => { results := [.lit (.bool false)], args := [d1, d2, d3, d4] }
  | _ => none }
def FnExactIsAllowedCoveringWrongFalsely : Prop := fnExactIsAllowedCoveringRow.holds Try.pinned (OpenSpec.ofChange fnExactIsAllowedCoveringWrong)

/- THE SECOND FORM. 'bulk': how many values and letters a reading holds, each counted each time it is reached (what is shared counts as often as it is met; a slice's spare places count too). A statement '..UptoSaid' is the law's where the arguments, and the package variables that the reading takes, are together of bulk at most 1048576: NARROWER than '..Said'. Prove '..Said' where nothing that the law and all that it calls make is longer than what came in: it says more and counts as full. Else prove '..UptoSaid'. A law counts once. -/
mutual
def uptoBulk {H : Type} : DataW H → Nat
  | .lit (.string bytes) => bytes.length + 1
  | .lit _ => 1
  | .nil => 1
  | .ptr d => uptoBulk d + 1
  | .slice elems spare => uptoBulkAll elems + uptoBulkAll spare + 1
  | .agg parts => uptoBulkAll parts + 1
  | .iface _ d => uptoBulk d + 1
  | .map entries => uptoBulkEntries entries + 1
  | .held _ => 1
def uptoBulkAll {H : Type} : List (DataW H) → Nat
  | [] => 0
  | d :: r => uptoBulk d + uptoBulkAll r
def uptoBulkEntries {H : Type} : List (Lit × DataW H) → Nat
  | [] => 0
  | x :: r => uptoBulkEntry x + uptoBulkEntries r
def uptoBulkEntry {H : Type} : Lit × DataW H → Nat
  | (.string bytes, d) => bytes.length + uptoBulk d + 1
  | (_, d) => uptoBulk d + 1
 end
def uptoSmall : (H : Type) → List (DataW H) → Bool := fun _ ds => decide (uptoBulkAll ds ≤ 1048576)
def OpenSpec.upto (s : _root_.Go.ChangeSpec) : _root_.Go.OpenSpec := { _root_.Go.OpenSpec.ofChange s with cond := some uptoSmall }

/-- 'laws.FnExactIsBalanced', WHERE WHAT IT READS IS OF BULK AT MOST 1048576: true; the input reads as it did. -/
def fnExactIsBalancedUptoRow : OpenClaim := { program := "ytbdbfbobcdepgaa", sum := "9783918e0d7c49ce022fb3c89e2867942937222761467ada7553c6448212a97d", func := "loop.example/coveringtests/laws.FnExactIsBalanced", spec := "fnExactIsBalanced", recurses := true, plainKeys := false, apart := false, narrowed := true }
def FnExactIsBalancedUptoSaid : Prop := fnExactIsBalancedUptoRow.holds Try.pinned (OpenSpec.upto fnExactIsBalancedSpec)

/-- 'laws.FnExactLeastTests', WHERE WHAT IT READS IS OF BULK AT MOST 1048576: true; the input reads as it did. -/
def fnExactLeastTestsUptoRow : OpenClaim := { program := "ytbdbfbobcdepgaa", sum := "9783918e0d7c49ce022fb3c89e2867942937222761467ada7553c6448212a97d", func := "loop.example/coveringtests/laws.FnExactLeastTests", spec := "fnExactLeastTests", unfollowed := true, recurses := true, plainKeys := false, apart := false, narrowed := true }
def FnExactLeastTestsUptoSaid : Prop := fnExactLeastTestsUptoRow.holds Try.pinned (OpenSpec.upto fnExactLeastTestsSpec)

/-- 'laws.FnExactFewestTests', WHERE WHAT IT READS IS OF BULK AT MOST 1048576: true; the input reads as it did. -/
def fnExactFewestTestsUptoRow : OpenClaim := { program := "ytbdbfbobcdepgaa", sum := "9783918e0d7c49ce022fb3c89e2867942937222761467ada7553c6448212a97d", func := "loop.example/coveringtests/laws.FnExactFewestTests", spec := "fnExactFewestTests", unfollowed := true, recurses := true, plainKeys := false, apart := false, narrowed := true }
def FnExactFewestTestsUptoSaid : Prop := fnExactFewestTestsUptoRow.holds Try.pinned (OpenSpec.upto fnExactFewestTestsSpec)

/-- 'laws.FnExactAddFactor', WHERE WHAT IT READS IS OF BULK AT MOST 1048576: true; the input reads as it did. -/
def fnExactAddFactorUptoRow : OpenClaim := { program := "ytbdbfbobcdepgaa", sum := "9783918e0d7c49ce022fb3c89e2867942937222761467ada7553c6448212a97d", func := "loop.example/coveringtests/laws.FnExactAddFactor", spec := "fnExactAddFactor", unfollowed := true, recurses := true, plainKeys := false, apart := false, narrowed := true }
def FnExactAddFactorUptoSaid : Prop := fnExactAddFactorUptoRow.holds Try.pinned (OpenSpec.upto fnExactAddFactorSpec)

/-- 'laws.FnExactExplainBans', WHERE WHAT IT READS IS OF BULK AT MOST 1048576: true; the input reads as it did. -/
def fnExactExplainBansUptoRow : OpenClaim := { program := "ytbdbfbobcdepgaa", sum := "9783918e0d7c49ce022fb3c89e2867942937222761467ada7553c6448212a97d", func := "loop.example/coveringtests/laws.FnExactExplainBans", spec := "fnExactExplainBans", unfollowed := true, recurses := true, plainKeys := false, apart := false, narrowed := true }
def FnExactExplainBansUptoSaid : Prop := fnExactExplainBansUptoRow.holds Try.pinned (OpenSpec.upto fnExactExplainBansSpec)

/-- 'laws.FnExactSuspectsOf', WHERE WHAT IT READS IS OF BULK AT MOST 1048576: true; the input reads as it did. -/
def fnExactSuspectsOfUptoRow : OpenClaim := { program := "ytbdbfbobcdepgaa", sum := "9783918e0d7c49ce022fb3c89e2867942937222761467ada7553c6448212a97d", func := "loop.example/coveringtests/laws.FnExactSuspectsOf", spec := "fnExactSuspectsOf", unfollowed := true, recurses := true, plainKeys := false, apart := false, narrowed := true }
def FnExactSuspectsOfUptoSaid : Prop := fnExactSuspectsOfUptoRow.holds Try.pinned (OpenSpec.upto fnExactSuspectsOfSpec)

/-- 'laws.FnExactCulpritsOf', WHERE WHAT IT READS IS OF BULK AT MOST 1048576: true; the input reads as it did. -/
def fnExactCulpritsOfUptoRow : OpenClaim := { program := "ytbdbfbobcdepgaa", sum := "9783918e0d7c49ce022fb3c89e2867942937222761467ada7553c6448212a97d", func := "loop.example/coveringtests/laws.FnExactCulpritsOf", spec := "fnExactCulpritsOf", unfollowed := true, recurses := true, plainKeys := false, apart := false, narrowed := true }
def FnExactCulpritsOfUptoSaid : Prop := fnExactCulpritsOfUptoRow.holds Try.pinned (OpenSpec.upto fnExactCulpritsOfSpec)

/-- 'laws.FnExactIsLocating', WHERE WHAT IT READS IS OF BULK AT MOST 1048576: true; the input reads as it did. -/
def fnExactIsLocatingUptoRow : OpenClaim := { program := "ytbdbfbobcdepgaa", sum := "9783918e0d7c49ce022fb3c89e2867942937222761467ada7553c6448212a97d", func := "loop.example/coveringtests/laws.FnExactIsLocating", spec := "fnExactIsLocating", recurses := true, plainKeys := false, apart := false, narrowed := true }
def FnExactIsLocatingUptoSaid : Prop := fnExactIsLocatingUptoRow.holds Try.pinned (OpenSpec.upto fnExactIsLocatingSpec)

/-- 'laws.FnExactIsDetecting', WHERE WHAT IT READS IS OF BULK AT MOST 1048576: true; the input reads as it did. -/
def fnExactIsDetectingUptoRow : OpenClaim := { program := "ytbdbfbobcdepgaa", sum := "9783918e0d7c49ce022fb3c89e2867942937222761467ada7553c6448212a97d", func := "loop.example/coveringtests/laws.FnExactIsDetecting", spec := "fnExactIsDetecting", recurses := true, plainKeys := false, apart := false, narrowed := true }
def FnExactIsDetectingUptoSaid : Prop := fnExactIsDetectingUptoRow.holds Try.pinned (OpenSpec.upto fnExactIsDetectingSpec)

/-- 'laws.FnExactSplitTest', WHERE WHAT IT READS IS OF BULK AT MOST 1048576: true; the input reads as it did. -/
def fnExactSplitTestUptoRow : OpenClaim := { program := "ytbdbfbobcdepgaa", sum := "9783918e0d7c49ce022fb3c89e2867942937222761467ada7553c6448212a97d", func := "loop.example/coveringtests/laws.FnExactSplitTest", spec := "fnExactSplitTest", unfollowed := true, recurses := true, plainKeys := false, apart := false, narrowed := true }
def FnExactSplitTestUptoSaid : Prop := fnExactSplitTestUptoRow.holds Try.pinned (OpenSpec.upto fnExactSplitTestSpec)

/-- 'laws.FnExactHuntFault', WHERE WHAT IT READS IS OF BULK AT MOST 1048576: true; the input reads as it did. -/
def fnExactHuntFaultUptoRow : OpenClaim := { program := "ytbdbfbobcdepgaa", sum := "9783918e0d7c49ce022fb3c89e2867942937222761467ada7553c6448212a97d", func := "loop.example/coveringtests/laws.FnExactHuntFault", spec := "fnExactHuntFault", unfollowed := true, recurses := true, plainKeys := false, apart := false, narrowed := true }
def FnExactHuntFaultUptoSaid : Prop := fnExactHuntFaultUptoRow.holds Try.pinned (OpenSpec.upto fnExactHuntFaultSpec)

/-- 'laws.FnExactShrinkFailure', WHERE WHAT IT READS IS OF BULK AT MOST 1048576: true; the input reads as it did. -/
def fnExactShrinkFailureUptoRow : OpenClaim := { program := "ytbdbfbobcdepgaa", sum := "9783918e0d7c49ce022fb3c89e2867942937222761467ada7553c6448212a97d", func := "loop.example/coveringtests/laws.FnExactShrinkFailure", spec := "fnExactShrinkFailure", unfollowed := true, recurses := true, plainKeys := false, apart := false, narrowed := true }
def FnExactShrinkFailureUptoSaid : Prop := fnExactShrinkFailureUptoRow.holds Try.pinned (OpenSpec.upto fnExactShrinkFailureSpec)

/-- 'laws.FnExactValidBans', WHERE WHAT IT READS IS OF BULK AT MOST 1048576: true; the input reads as it did. -/
def fnExactValidBansUptoRow : OpenClaim := { program := "ytbdbfbobcdepgaa", sum := "9783918e0d7c49ce022fb3c89e2867942937222761467ada7553c6448212a97d", func := "loop.example/coveringtests/laws.FnExactValidBans", spec := "fnExactValidBans", plainKeys := false, apart := false, narrowed := true }
def FnExactValidBansUptoSaid : Prop := fnExactValidBansUptoRow.holds Try.pinned (OpenSpec.upto fnExactValidBansSpec)

/-- 'laws.FnExactIsPossible', WHERE WHAT IT READS IS OF BULK AT MOST 1048576: true; the input reads as it did. -/
def fnExactIsPossibleUptoRow : OpenClaim := { program := "ytbdbfbobcdepgaa", sum := "9783918e0d7c49ce022fb3c89e2867942937222761467ada7553c6448212a97d", func := "loop.example/coveringtests/laws.FnExactIsPossible", spec := "fnExactIsPossible", unfollowed := true, recurses := true, plainKeys := false, apart := false, narrowed := true }
def FnExactIsPossibleUptoSaid : Prop := fnExactIsPossibleUptoRow.holds Try.pinned (OpenSpec.upto fnExactIsPossibleSpec)

/-- 'laws.FnExactCompleteTest', WHERE WHAT IT READS IS OF BULK AT MOST 1048576: true; the input reads as it did. -/
def fnExactCompleteTestUptoRow : OpenClaim := { program := "ytbdbfbobcdepgaa", sum := "9783918e0d7c49ce022fb3c89e2867942937222761467ada7553c6448212a97d", func := "loop.example/coveringtests/laws.FnExactCompleteTest", spec := "fnExactCompleteTest", unfollowed := true, recurses := true, plainKeys := false, apart := false, narrowed := true }
def FnExactCompleteTestUptoSaid : Prop := fnExactCompleteTestUptoRow.holds Try.pinned (OpenSpec.upto fnExactCompleteTestSpec)

/-- 'laws.FnExactPossiblePatterns', WHERE WHAT IT READS IS OF BULK AT MOST 1048576: true; the input reads as it did. -/
def fnExactPossiblePatternsUptoRow : OpenClaim := { program := "ytbdbfbobcdepgaa", sum := "9783918e0d7c49ce022fb3c89e2867942937222761467ada7553c6448212a97d", func := "loop.example/coveringtests/laws.FnExactPossiblePatterns", spec := "fnExactPossiblePatterns", unfollowed := true, recurses := true, plainKeys := false, apart := false, narrowed := true }
def FnExactPossiblePatternsUptoSaid : Prop := fnExactPossiblePatternsUptoRow.holds Try.pinned (OpenSpec.upto fnExactPossiblePatternsSpec)

/-- 'laws.FnExactLeastBans', WHERE WHAT IT READS IS OF BULK AT MOST 1048576: true; the input reads as it did. -/
def fnExactLeastBansUptoRow : OpenClaim := { program := "ytbdbfbobcdepgaa", sum := "9783918e0d7c49ce022fb3c89e2867942937222761467ada7553c6448212a97d", func := "loop.example/coveringtests/laws.FnExactLeastBans", spec := "fnExactLeastBans", unfollowed := true, recurses := true, plainKeys := false, apart := false, narrowed := true }
def FnExactLeastBansUptoSaid : Prop := fnExactLeastBansUptoRow.holds Try.pinned (OpenSpec.upto fnExactLeastBansSpec)

/-- 'laws.FnExactIsAllowedCovering', WHERE WHAT IT READS IS OF BULK AT MOST 1048576: true; the input reads as it did. -/
def fnExactIsAllowedCoveringUptoRow : OpenClaim := { program := "ytbdbfbobcdepgaa", sum := "9783918e0d7c49ce022fb3c89e2867942937222761467ada7553c6448212a97d", func := "loop.example/coveringtests/laws.FnExactIsAllowedCovering", spec := "fnExactIsAllowedCovering", unfollowed := true, recurses := true, plainKeys := false, apart := false, narrowed := true }
def FnExactIsAllowedCoveringUptoSaid : Prop := fnExactIsAllowedCoveringUptoRow.holds Try.pinned (OpenSpec.upto fnExactIsAllowedCoveringSpec)

end Rows
end Go.Proofs.Ytbdbfbobcdepgaa
