/-
  No cell of these rows narrows 'for every input' (looked for: loops, veiled, ifaces, maps, wideKeys, modest, calm, conditions, laid).
  DERIVED. THE GIVEN ROWS OF THIS SEAT. 18 by the template 'for every input the law returns true; each argument reads behind the call as it read before'; 0 by the template 'total and deterministic' (their statements: YtlfmjlkemcjhdaaTotals.lean).
  GIVEN WITH THE SEED: the statements are not yours to turn. If you find one false, say at which input.
  Laid BY PROGRAM, IN A SANDBOX (cutbox-rows.mjs): the forced cells as the released guide's own fill.sh prints them over the translation 33f2023a3f5c7384… (all of the seat's roots in one cut). By AI agents, Wed Nov 11 2026. No macro, syntax, notation, axiom, sorry.
-/
import Derived.Test.YtlfmjlkemcjhdaaChecked
import GoSem.Claim
import GoSem.ClaimJoined
import GoSem.ClaimMapViews
import Derived.JoinedTies
import Derived.KernelRfl
namespace Go.Proofs.Ytlfmjlkemcjhdaa
/- THE CELL 'sum', in the pinned program and in every row, IS THE sha256 OF THE DUMP (.gsa) THAT YtlfmjlkemcjhdaaProg.lean LOADS. Nothing in Lean hashes anything: it is a label: what it is worth is what the hold of that sum in a sandbox is worth. -/
noncomputable def Try.pinned : Pinned := { name := "ytlfmjlkemcjhdaa", sum := "33f2023a3f5c73840fb96dc9220d8e276b59aca9276feab3240738165426e8be", checked := Try.checked }
namespace Rows
def none {H : Type} : Left H := { results := [], args := [] }

/-- 'laws.FnExactValidModel': WHATEVER THE INPUT: true; the input reads as it did. -/
def fnExactValidModelSpec : ChangeSpec := { name := "fnExactValidModel", fn := fun _ => fun
  | [d] => { results := [.lit (.bool true)], args := [d] }
  | _ => none }
def fnExactValidModelRow : OpenClaim := { program := "ytlfmjlkemcjhdaa", sum := "33f2023a3f5c73840fb96dc9220d8e276b59aca9276feab3240738165426e8be", func := "loop.example/coveringtests/laws.FnExactValidModel", spec := "fnExactValidModel", plainKeys := false, apart := false }
def FnExactValidModelSaid : Prop := fnExactValidModelRow.holds Try.pinned (OpenSpec.ofChange fnExactValidModelSpec)

/-- ITS FALSE NEIGHBOUR: 'it returns false'. Refute it at one input. -/
def fnExactValidModelWrong : ChangeSpec := { name := "fnExactValidModel", fn := fun _ => fun
  | [d] => { results := [.lit (.bool false)], args := [d] }
  | _ => none }
def FnExactValidModelWrongFalsely : Prop := fnExactValidModelRow.holds Try.pinned (OpenSpec.ofChange fnExactValidModelWrong)

/-- 'laws.FnExactValidTest': WHATEVER THE INPUT: true; the input reads as it did. -/
def fnExactValidTestSpec : ChangeSpec := { name := "fnExactValidTest", fn := fun _ => fun
  | [d1, d2] => { results := [.lit (.bool true)], args := [d1, d2] }
  | _ => none }
def fnExactValidTestRow : OpenClaim := { program := "ytlfmjlkemcjhdaa", sum := "33f2023a3f5c73840fb96dc9220d8e276b59aca9276feab3240738165426e8be", func := "loop.example/coveringtests/laws.FnExactValidTest", spec := "fnExactValidTest", plainKeys := false, apart := false }
def FnExactValidTestSaid : Prop := fnExactValidTestRow.holds Try.pinned (OpenSpec.ofChange fnExactValidTestSpec)

/-- ITS FALSE NEIGHBOUR: 'it returns false'. Refute it at one input. -/
def fnExactValidTestWrong : ChangeSpec := { name := "fnExactValidTest", fn := fun _ => fun
  | [d1, d2] => { results := [.lit (.bool false)], args := [d1, d2] }
  | _ => none }
def FnExactValidTestWrongFalsely : Prop := fnExactValidTestRow.holds Try.pinned (OpenSpec.ofChange fnExactValidTestWrong)

/-- 'laws.FnExactValidPattern': WHATEVER THE INPUT: true; the input reads as it did. -/
def fnExactValidPatternSpec : ChangeSpec := { name := "fnExactValidPattern", fn := fun _ => fun
  | [d1, d2] => { results := [.lit (.bool true)], args := [d1, d2] }
  | _ => none }
def fnExactValidPatternRow : OpenClaim := { program := "ytlfmjlkemcjhdaa", sum := "33f2023a3f5c73840fb96dc9220d8e276b59aca9276feab3240738165426e8be", func := "loop.example/coveringtests/laws.FnExactValidPattern", spec := "fnExactValidPattern", plainKeys := false, apart := false }
def FnExactValidPatternSaid : Prop := fnExactValidPatternRow.holds Try.pinned (OpenSpec.ofChange fnExactValidPatternSpec)

/-- ITS FALSE NEIGHBOUR: 'it returns false'. Refute it at one input. -/
def fnExactValidPatternWrong : ChangeSpec := { name := "fnExactValidPattern", fn := fun _ => fun
  | [d1, d2] => { results := [.lit (.bool false)], args := [d1, d2] }
  | _ => none }
def FnExactValidPatternWrongFalsely : Prop := fnExactValidPatternRow.holds Try.pinned (OpenSpec.ofChange fnExactValidPatternWrong)

/-- 'laws.FnExactValidSuite': WHATEVER THE INPUT: true; the input reads as it did. -/
def fnExactValidSuiteSpec : ChangeSpec := { name := "fnExactValidSuite", fn := fun _ => fun
  | [d1, d2] => { results := [.lit (.bool true)], args := [d1, d2] }
  | _ => none }
def fnExactValidSuiteRow : OpenClaim := { program := "ytlfmjlkemcjhdaa", sum := "33f2023a3f5c73840fb96dc9220d8e276b59aca9276feab3240738165426e8be", func := "loop.example/coveringtests/laws.FnExactValidSuite", spec := "fnExactValidSuite", plainKeys := false, apart := false }
def FnExactValidSuiteSaid : Prop := fnExactValidSuiteRow.holds Try.pinned (OpenSpec.ofChange fnExactValidSuiteSpec)

/-- ITS FALSE NEIGHBOUR: 'it returns false'. Refute it at one input. -/
def fnExactValidSuiteWrong : ChangeSpec := { name := "fnExactValidSuite", fn := fun _ => fun
  | [d1, d2] => { results := [.lit (.bool false)], args := [d1, d2] }
  | _ => none }
def FnExactValidSuiteWrongFalsely : Prop := fnExactValidSuiteRow.holds Try.pinned (OpenSpec.ofChange fnExactValidSuiteWrong)

/-- 'laws.FnExactAllTests': WHATEVER THE INPUT: true; the input reads as it did. -/
def fnExactAllTestsSpec : ChangeSpec := { name := "fnExactAllTests", fn := fun _ => fun
  | [d] => { results := [.lit (.bool true)], args := [d] }
  | _ => none }
def fnExactAllTestsRow : OpenClaim := { program := "ytlfmjlkemcjhdaa", sum := "33f2023a3f5c73840fb96dc9220d8e276b59aca9276feab3240738165426e8be", func := "loop.example/coveringtests/laws.FnExactAllTests", spec := "fnExactAllTests", recurses := true, plainKeys := false, apart := false }
def FnExactAllTestsSaid : Prop := fnExactAllTestsRow.holds Try.pinned (OpenSpec.ofChange fnExactAllTestsSpec)

/-- ITS FALSE NEIGHBOUR: 'it returns false'. Refute it at one input. -/
def fnExactAllTestsWrong : ChangeSpec := { name := "fnExactAllTests", fn := fun _ => fun
  | [d] => { results := [.lit (.bool false)], args := [d] }
  | _ => none }
def FnExactAllTestsWrongFalsely : Prop := fnExactAllTestsRow.holds Try.pinned (OpenSpec.ofChange fnExactAllTestsWrong)

/-- 'laws.FnExactStrengthOf': WHATEVER THE INPUT: true; the input reads as it did. -/
def fnExactStrengthOfSpec : ChangeSpec := { name := "fnExactStrengthOf", fn := fun _ => fun
  | [d1, d2] => { results := [.lit (.bool true)], args := [d1, d2] }
  | _ => none }
def fnExactStrengthOfRow : OpenClaim := { program := "ytlfmjlkemcjhdaa", sum := "33f2023a3f5c73840fb96dc9220d8e276b59aca9276feab3240738165426e8be", func := "loop.example/coveringtests/laws.FnExactStrengthOf", spec := "fnExactStrengthOf", plainKeys := false, apart := false }
def FnExactStrengthOfSaid : Prop := fnExactStrengthOfRow.holds Try.pinned (OpenSpec.ofChange fnExactStrengthOfSpec)

/-- ITS FALSE NEIGHBOUR: 'it returns false'. Refute it at one input. -/
def fnExactStrengthOfWrong : ChangeSpec := { name := "fnExactStrengthOf", fn := fun _ => fun
  | [d1, d2] => { results := [.lit (.bool false)], args := [d1, d2] }
  | _ => none }
def FnExactStrengthOfWrongFalsely : Prop := fnExactStrengthOfRow.holds Try.pinned (OpenSpec.ofChange fnExactStrengthOfWrong)

/-- 'laws.FnExactMatches': WHATEVER THE INPUT: true; the input reads as it did. -/
def fnExactMatchesSpec : ChangeSpec := { name := "fnExactMatches", fn := fun _ => fun
  | [d1, d2, d3] => { results := [.lit (.bool true)], args := [d1, d2, d3] }
  | _ => none }
def fnExactMatchesRow : OpenClaim := { program := "ytlfmjlkemcjhdaa", sum := "33f2023a3f5c73840fb96dc9220d8e276b59aca9276feab3240738165426e8be", func := "loop.example/coveringtests/laws.FnExactMatches", spec := "fnExactMatches", plainKeys := false, apart := false }
def FnExactMatchesSaid : Prop := fnExactMatchesRow.holds Try.pinned (OpenSpec.ofChange fnExactMatchesSpec)

/-- ITS FALSE NEIGHBOUR: 'it returns false'. Refute it at one input. -/
def fnExactMatchesWrong : ChangeSpec := { name := "fnExactMatches", fn := fun _ => fun
  | [d1, d2, d3] => { results := [.lit (.bool false)], args := [d1, d2, d3] }
  | _ => none }
def FnExactMatchesWrongFalsely : Prop := fnExactMatchesRow.holds Try.pinned (OpenSpec.ofChange fnExactMatchesWrong)

/-- 'laws.FnExactAllPatterns': WHATEVER THE INPUT: true; the input reads as it did. -/
def fnExactAllPatternsSpec : ChangeSpec := { name := "fnExactAllPatterns", fn := fun _ => fun
  | [d1, d2] => { results := [.lit (.bool true)], args := [d1, d2] }
  | _ => none }
def fnExactAllPatternsRow : OpenClaim := { program := "ytlfmjlkemcjhdaa", sum := "33f2023a3f5c73840fb96dc9220d8e276b59aca9276feab3240738165426e8be", func := "loop.example/coveringtests/laws.FnExactAllPatterns", spec := "fnExactAllPatterns", recurses := true, plainKeys := false, apart := false }
def FnExactAllPatternsSaid : Prop := fnExactAllPatternsRow.holds Try.pinned (OpenSpec.ofChange fnExactAllPatternsSpec)

/-- ITS FALSE NEIGHBOUR: 'it returns false'. Refute it at one input. -/
def fnExactAllPatternsWrong : ChangeSpec := { name := "fnExactAllPatterns", fn := fun _ => fun
  | [d1, d2] => { results := [.lit (.bool false)], args := [d1, d2] }
  | _ => none }
def FnExactAllPatternsWrongFalsely : Prop := fnExactAllPatternsRow.holds Try.pinned (OpenSpec.ofChange fnExactAllPatternsWrong)

/-- 'laws.FnExactMissingOf': WHATEVER THE INPUT: true; the input reads as it did. -/
def fnExactMissingOfSpec : ChangeSpec := { name := "fnExactMissingOf", fn := fun _ => fun
  | [d1, d2, d3] => { results := [.lit (.bool true)], args := [d1, d2, d3] }
  | _ => none }
def fnExactMissingOfRow : OpenClaim := { program := "ytlfmjlkemcjhdaa", sum := "33f2023a3f5c73840fb96dc9220d8e276b59aca9276feab3240738165426e8be", func := "loop.example/coveringtests/laws.FnExactMissingOf", spec := "fnExactMissingOf", recurses := true, plainKeys := false, apart := false }
def FnExactMissingOfSaid : Prop := fnExactMissingOfRow.holds Try.pinned (OpenSpec.ofChange fnExactMissingOfSpec)

/-- ITS FALSE NEIGHBOUR: 'it returns false'. Refute it at one input. -/
def fnExactMissingOfWrong : ChangeSpec := { name := "fnExactMissingOf", fn := fun _ => fun
  | [d1, d2, d3] => { results := [.lit (.bool false)], args := [d1, d2, d3] }
  | _ => none }
def FnExactMissingOfWrongFalsely : Prop := fnExactMissingOfRow.holds Try.pinned (OpenSpec.ofChange fnExactMissingOfWrong)

/-- 'laws.FnExactCoverageOf': WHATEVER THE INPUT: true; the input reads as it did. -/
def fnExactCoverageOfSpec : ChangeSpec := { name := "fnExactCoverageOf", fn := fun _ => fun
  | [d1, d2, d3] => { results := [.lit (.bool true)], args := [d1, d2, d3] }
  | _ => none }
def fnExactCoverageOfRow : OpenClaim := { program := "ytlfmjlkemcjhdaa", sum := "33f2023a3f5c73840fb96dc9220d8e276b59aca9276feab3240738165426e8be", func := "loop.example/coveringtests/laws.FnExactCoverageOf", spec := "fnExactCoverageOf", recurses := true, plainKeys := false, apart := false }
def FnExactCoverageOfSaid : Prop := fnExactCoverageOfRow.holds Try.pinned (OpenSpec.ofChange fnExactCoverageOfSpec)

/-- ITS FALSE NEIGHBOUR: 'it returns false'. Refute it at one input. -/
def fnExactCoverageOfWrong : ChangeSpec := { name := "fnExactCoverageOf", fn := fun _ => fun
  | [d1, d2, d3] => { results := [.lit (.bool false)], args := [d1, d2, d3] }
  | _ => none }
def FnExactCoverageOfWrongFalsely : Prop := fnExactCoverageOfRow.holds Try.pinned (OpenSpec.ofChange fnExactCoverageOfWrong)

/-- 'laws.FnExactIsCovering': WHATEVER THE INPUT: true; the input reads as it did. -/
def fnExactIsCoveringSpec : ChangeSpec := { name := "fnExactIsCovering", fn := fun _ => fun
  | [d1, d2, d3] => { results := [.lit (.bool true)], args := [d1, d2, d3] }
  | _ => none }
def fnExactIsCoveringRow : OpenClaim := { program := "ytlfmjlkemcjhdaa", sum := "33f2023a3f5c73840fb96dc9220d8e276b59aca9276feab3240738165426e8be", func := "loop.example/coveringtests/laws.FnExactIsCovering", spec := "fnExactIsCovering", recurses := true, plainKeys := false, apart := false }
def FnExactIsCoveringSaid : Prop := fnExactIsCoveringRow.holds Try.pinned (OpenSpec.ofChange fnExactIsCoveringSpec)

/-- ITS FALSE NEIGHBOUR: 'it returns false'. Refute it at one input. -/
def fnExactIsCoveringWrong : ChangeSpec := { name := "fnExactIsCovering", fn := fun _ => fun
  | [d1, d2, d3] => { results := [.lit (.bool false)], args := [d1, d2, d3] }
  | _ => none }
def FnExactIsCoveringWrongFalsely : Prop := fnExactIsCoveringRow.holds Try.pinned (OpenSpec.ofChange fnExactIsCoveringWrong)

/-- 'laws.FnExactHowOften': WHATEVER THE INPUT: true; the input reads as it did. -/
def fnExactHowOftenSpec : ChangeSpec := { name := "fnExactHowOften", fn := fun _ => fun
  | [d1, d2, d3] => { results := [.lit (.bool true)], args := [d1, d2, d3] }
  | _ => none }
def fnExactHowOftenRow : OpenClaim := { program := "ytlfmjlkemcjhdaa", sum := "33f2023a3f5c73840fb96dc9220d8e276b59aca9276feab3240738165426e8be", func := "loop.example/coveringtests/laws.FnExactHowOften", spec := "fnExactHowOften", plainKeys := false, apart := false }
def FnExactHowOftenSaid : Prop := fnExactHowOftenRow.holds Try.pinned (OpenSpec.ofChange fnExactHowOftenSpec)

/-- ITS FALSE NEIGHBOUR: 'it returns false'. Refute it at one input. -/
def fnExactHowOftenWrong : ChangeSpec := { name := "fnExactHowOften", fn := fun _ => fun
  | [d1, d2, d3] => { results := [.lit (.bool false)], args := [d1, d2, d3] }
  | _ => none }
def FnExactHowOftenWrongFalsely : Prop := fnExactHowOftenRow.holds Try.pinned (OpenSpec.ofChange fnExactHowOftenWrong)

/-- 'laws.FnExactIsBalanced': WHATEVER THE INPUT: true; the input reads as it did. -/
def fnExactIsBalancedSpec : ChangeSpec := { name := "fnExactIsBalanced", fn := fun _ => fun
  | [d1, d2, d3] => { results := [.lit (.bool true)], args := [d1, d2, d3] }
  | _ => none }
def fnExactIsBalancedRow : OpenClaim := { program := "ytlfmjlkemcjhdaa", sum := "33f2023a3f5c73840fb96dc9220d8e276b59aca9276feab3240738165426e8be", func := "loop.example/coveringtests/laws.FnExactIsBalanced", spec := "fnExactIsBalanced", recurses := true, plainKeys := false, apart := false }
def FnExactIsBalancedSaid : Prop := fnExactIsBalancedRow.holds Try.pinned (OpenSpec.ofChange fnExactIsBalancedSpec)

/-- ITS FALSE NEIGHBOUR: 'it returns false'. Refute it at one input. -/
def fnExactIsBalancedWrong : ChangeSpec := { name := "fnExactIsBalanced", fn := fun _ => fun
  | [d1, d2, d3] => { results := [.lit (.bool false)], args := [d1, d2, d3] }
  | _ => none }
def FnExactIsBalancedWrongFalsely : Prop := fnExactIsBalancedRow.holds Try.pinned (OpenSpec.ofChange fnExactIsBalancedWrong)

/-- 'laws.FnExactSpareTests': WHATEVER THE INPUT: true; the input reads as it did. -/
def fnExactSpareTestsSpec : ChangeSpec := { name := "fnExactSpareTests", fn := fun _ => fun
  | [d1, d2, d3] => { results := [.lit (.bool true)], args := [d1, d2, d3] }
  | _ => none }
def fnExactSpareTestsRow : OpenClaim := { program := "ytlfmjlkemcjhdaa", sum := "33f2023a3f5c73840fb96dc9220d8e276b59aca9276feab3240738165426e8be", func := "loop.example/coveringtests/laws.FnExactSpareTests", spec := "fnExactSpareTests", recurses := true, plainKeys := false, apart := false }
def FnExactSpareTestsSaid : Prop := fnExactSpareTestsRow.holds Try.pinned (OpenSpec.ofChange fnExactSpareTestsSpec)

/-- ITS FALSE NEIGHBOUR: 'it returns false'. Refute it at one input. -/
def fnExactSpareTestsWrong : ChangeSpec := { name := "fnExactSpareTests", fn := fun _ => fun
  | [d1, d2, d3] => { results := [.lit (.bool false)], args := [d1, d2, d3] }
  | _ => none }
def FnExactSpareTestsWrongFalsely : Prop := fnExactSpareTestsRow.holds Try.pinned (OpenSpec.ofChange fnExactSpareTestsWrong)

/-- 'laws.FnExactTrimSuite': WHATEVER THE INPUT: true; the input reads as it did. -/
def fnExactTrimSuiteSpec : ChangeSpec := { name := "fnExactTrimSuite", fn := fun _ => fun
  | [d1, d2, d3] => { results := [.lit (.bool true)], args := [d1, d2, d3] }
  | _ => none }
def fnExactTrimSuiteRow : OpenClaim := { program := "ytlfmjlkemcjhdaa", sum := "33f2023a3f5c73840fb96dc9220d8e276b59aca9276feab3240738165426e8be", func := "loop.example/coveringtests/laws.FnExactTrimSuite", spec := "fnExactTrimSuite", recurses := true, plainKeys := false, apart := false }
def FnExactTrimSuiteSaid : Prop := fnExactTrimSuiteRow.holds Try.pinned (OpenSpec.ofChange fnExactTrimSuiteSpec)

/-- ITS FALSE NEIGHBOUR: 'it returns false'. Refute it at one input. -/
def fnExactTrimSuiteWrong : ChangeSpec := { name := "fnExactTrimSuite", fn := fun _ => fun
  | [d1, d2, d3] => { results := [.lit (.bool false)], args := [d1, d2, d3] }
  | _ => none }
def FnExactTrimSuiteWrongFalsely : Prop := fnExactTrimSuiteRow.holds Try.pinned (OpenSpec.ofChange fnExactTrimSuiteWrong)

/-- 'laws.FnExactJoinPatterns': WHATEVER THE INPUT: true; the input reads as it did. -/
def fnExactJoinPatternsSpec : ChangeSpec := { name := "fnExactJoinPatterns", fn := fun _ => fun
  | [d1, d2, d3] => { results := [.lit (.bool true)], args := [d1, d2, d3] }
  | _ => none }
def fnExactJoinPatternsRow : OpenClaim := { program := "ytlfmjlkemcjhdaa", sum := "33f2023a3f5c73840fb96dc9220d8e276b59aca9276feab3240738165426e8be", func := "loop.example/coveringtests/laws.FnExactJoinPatterns", spec := "fnExactJoinPatterns", plainKeys := false, apart := false }
def FnExactJoinPatternsSaid : Prop := fnExactJoinPatternsRow.holds Try.pinned (OpenSpec.ofChange fnExactJoinPatternsSpec)

/-- ITS FALSE NEIGHBOUR: 'it returns false'. Refute it at one input. -/
def fnExactJoinPatternsWrong : ChangeSpec := { name := "fnExactJoinPatterns", fn := fun _ => fun
  | [d1, d2, d3] => { results := [.lit (.bool false)], args := [d1, d2, d3] }
  | _ => none }
def FnExactJoinPatternsWrongFalsely : Prop := fnExactJoinPatternsRow.holds Try.pinned (OpenSpec.ofChange fnExactJoinPatternsWrong)

/-- 'laws.FnExactPatternText': WHATEVER THE INPUT: true; the input reads as it did. -/
def fnExactPatternTextSpec : ChangeSpec := { name := "fnExactPatternText", fn := fun _ => fun
  | [d1, d2] => { results := [.lit (.bool true)], args := [d1, d2] }
  | _ => none }
def fnExactPatternTextRow : OpenClaim := { program := "ytlfmjlkemcjhdaa", sum := "33f2023a3f5c73840fb96dc9220d8e276b59aca9276feab3240738165426e8be", func := "loop.example/coveringtests/laws.FnExactPatternText", spec := "fnExactPatternText", plainKeys := false, apart := false }
def FnExactPatternTextSaid : Prop := fnExactPatternTextRow.holds Try.pinned (OpenSpec.ofChange fnExactPatternTextSpec)

/-- ITS FALSE NEIGHBOUR: 'it returns false'. Refute it at one input. -/
def fnExactPatternTextWrong : ChangeSpec := { name := "fnExactPatternText", fn := fun _ => fun
  | [d1, d2] => { results := [.lit (.bool false)], args := [d1, d2] }
  | _ => none }
def FnExactPatternTextWrongFalsely : Prop := fnExactPatternTextRow.holds Try.pinned (OpenSpec.ofChange fnExactPatternTextWrong)

/-- 'laws.FnExactParsePattern': WHATEVER THE INPUT: true; the input reads as it did. -/
def fnExactParsePatternSpec : ChangeSpec := { name := "fnExactParsePattern", fn := fun _ => fun
  | [d1, d2] => { results := [.lit (.bool true)], args := [d1, d2] }
  | _ => none }
def fnExactParsePatternRow : OpenClaim := { program := "ytlfmjlkemcjhdaa", sum := "33f2023a3f5c73840fb96dc9220d8e276b59aca9276feab3240738165426e8be", func := "loop.example/coveringtests/laws.FnExactParsePattern", spec := "fnExactParsePattern", plainKeys := false, apart := false }
def FnExactParsePatternSaid : Prop := fnExactParsePatternRow.holds Try.pinned (OpenSpec.ofChange fnExactParsePatternSpec)

/-- ITS FALSE NEIGHBOUR: 'it returns false'. Refute it at one input. -/
def fnExactParsePatternWrong : ChangeSpec := { name := "fnExactParsePattern", fn := fun _ => fun
  | [d1, d2] => { results := [.lit (.bool false)], args := [d1, d2] }
  | _ => none }
def FnExactParsePatternWrongFalsely : Prop := fnExactParsePatternRow.holds Try.pinned (OpenSpec.ofChange fnExactParsePatternWrong)

/- THE SECOND FORM. 'bulk': how many values and letters a reading holds, each counted each time it is reached (what is shared counts as often as it is met; a slice's spare places count too). A statement '..UptoSaid' is the law's where the arguments, and the package variables that the reading takes, are together of bulk at most 1048576: NARROWER than '..Said'. Prove '..Said' where nothing that the law and all that it calls make is longer than what came in: it says more and counts as full. Else prove '..UptoSaid'. A law counts once. -/
mutual
def uptoBulk {H : Type} : DataW H → Nat
  | .lit (.string bytes) => bytes.length + 1
  | .lit _ => 1
  | .nil => 1
  | .ptr d => uptoBulk d + 1
  | .slice elems spare => uptoBulkAll elems + uptoBulkAll spare + 1
  | .agg parts => uptoBulkAll parts + 1
  | .iface _ d => uptoBulk d + 1
  | .map entries => uptoBulkEntries entries + 1
  | .held _ => 1
def uptoBulkAll {H : Type} : List (DataW H) → Nat
  | [] => 0
  | d :: r => uptoBulk d + uptoBulkAll r
def uptoBulkEntries {H : Type} : List (Lit × DataW H) → Nat
  | [] => 0
  | x :: r => uptoBulkEntry x + uptoBulkEntries r
def uptoBulkEntry {H : Type} : Lit × DataW H → Nat
  | (.string bytes, d) => bytes.length + uptoBulk d + 1
  | (_, d) => uptoBulk d + 1
 end
def uptoSmall : (H : Type) → List (DataW H) → Bool := fun _ ds => decide (uptoBulkAll ds ≤ 1048576)
def OpenSpec.upto (s : _root_.Go.ChangeSpec) : _root_.Go.OpenSpec := { _root_.Go.OpenSpec.ofChange s with cond := some uptoSmall }

/-- 'laws.FnExactValidModel', WHERE WHAT IT READS IS OF BULK AT MOST 1048576: true; the input reads as it did. -/
def fnExactValidModelUptoRow : OpenClaim := { program := "ytlfmjlkemcjhdaa", sum := "33f2023a3f5c73840fb96dc9220d8e276b59aca9276feab3240738165426e8be", func := "loop.example/coveringtests/laws.FnExactValidModel", spec := "fnExactValidModel", plainKeys := false, apart := false, narrowed := true }
def FnExactValidModelUptoSaid : Prop := fnExactValidModelUptoRow.holds Try.pinned (OpenSpec.upto fnExactValidModelSpec)

/-- 'laws.FnExactValidTest', WHERE WHAT IT READS IS OF BULK AT MOST 1048576: true; the input reads as it did. -/
def fnExactValidTestUptoRow : OpenClaim := { program := "ytlfmjlkemcjhdaa", sum := "33f2023a3f5c73840fb96dc9220d8e276b59aca9276feab3240738165426e8be", func := "loop.example/coveringtests/laws.FnExactValidTest", spec := "fnExactValidTest", plainKeys := false, apart := false, narrowed := true }
def FnExactValidTestUptoSaid : Prop := fnExactValidTestUptoRow.holds Try.pinned (OpenSpec.upto fnExactValidTestSpec)

/-- 'laws.FnExactValidPattern', WHERE WHAT IT READS IS OF BULK AT MOST 1048576: true; the input reads as it did. -/
def fnExactValidPatternUptoRow : OpenClaim := { program := "ytlfmjlkemcjhdaa", sum := "33f2023a3f5c73840fb96dc9220d8e276b59aca9276feab3240738165426e8be", func := "loop.example/coveringtests/laws.FnExactValidPattern", spec := "fnExactValidPattern", plainKeys := false, apart := false, narrowed := true }
def FnExactValidPatternUptoSaid : Prop := fnExactValidPatternUptoRow.holds Try.pinned (OpenSpec.upto fnExactValidPatternSpec)

/-- 'laws.FnExactValidSuite', WHERE WHAT IT READS IS OF BULK AT MOST 1048576: true; the input reads as it did. -/
def fnExactValidSuiteUptoRow : OpenClaim := { program := "ytlfmjlkemcjhdaa", sum := "33f2023a3f5c73840fb96dc9220d8e276b59aca9276feab3240738165426e8be", func := "loop.example/coveringtests/laws.FnExactValidSuite", spec := "fnExactValidSuite", plainKeys := false, apart := false, narrowed := true }
def FnExactValidSuiteUptoSaid : Prop := fnExactValidSuiteUptoRow.holds Try.pinned (OpenSpec.upto fnExactValidSuiteSpec)

/-- 'laws.FnExactAllTests', WHERE WHAT IT READS IS OF BULK AT MOST 1048576: true; the input reads as it did. -/
def fnExactAllTestsUptoRow : OpenClaim := { program := "ytlfmjlkemcjhdaa", sum := "33f2023a3f5c73840fb96dc9220d8e276b59aca9276feab3240738165426e8be", func := "loop.example/coveringtests/laws.FnExactAllTests", spec := "fnExactAllTests", recurses := true, plainKeys := false, apart := false, narrowed := true }
def FnExactAllTestsUptoSaid : Prop := fnExactAllTestsUptoRow.holds Try.pinned (OpenSpec.upto fnExactAllTestsSpec)

/-- 'laws.FnExactStrengthOf', WHERE WHAT IT READS IS OF BULK AT MOST 1048576: true; the input reads as it did. -/
def fnExactStrengthOfUptoRow : OpenClaim := { program := "ytlfmjlkemcjhdaa", sum := "33f2023a3f5c73840fb96dc9220d8e276b59aca9276feab3240738165426e8be", func := "loop.example/coveringtests/laws.FnExactStrengthOf", spec := "fnExactStrengthOf", plainKeys := false, apart := false, narrowed := true }
def FnExactStrengthOfUptoSaid : Prop := fnExactStrengthOfUptoRow.holds Try.pinned (OpenSpec.upto fnExactStrengthOfSpec)

/-- 'laws.FnExactMatches', WHERE WHAT IT READS IS OF BULK AT MOST 1048576: true; the input reads as it did. -/
def fnExactMatchesUptoRow : OpenClaim := { program := "ytlfmjlkemcjhdaa", sum := "33f2023a3f5c73840fb96dc9220d8e276b59aca9276feab3240738165426e8be", func := "loop.example/coveringtests/laws.FnExactMatches", spec := "fnExactMatches", plainKeys := false, apart := false, narrowed := true }
def FnExactMatchesUptoSaid : Prop := fnExactMatchesUptoRow.holds Try.pinned (OpenSpec.upto fnExactMatchesSpec)

/-- 'laws.FnExactAllPatterns', WHERE WHAT IT READS IS OF BULK AT MOST 1048576: true; the input reads as it did. -/
def fnExactAllPatternsUptoRow : OpenClaim := { program := "ytlfmjlkemcjhdaa", sum := "33f2023a3f5c73840fb96dc9220d8e276b59aca9276feab3240738165426e8be", func := "loop.example/coveringtests/laws.FnExactAllPatterns", spec := "fnExactAllPatterns", recurses := true, plainKeys := false, apart := false, narrowed := true }
def FnExactAllPatternsUptoSaid : Prop := fnExactAllPatternsUptoRow.holds Try.pinned (OpenSpec.upto fnExactAllPatternsSpec)

/-- 'laws.FnExactMissingOf', WHERE WHAT IT READS IS OF BULK AT MOST 1048576: true; the input reads as it did. -/
def fnExactMissingOfUptoRow : OpenClaim := { program := "ytlfmjlkemcjhdaa", sum := "33f2023a3f5c73840fb96dc9220d8e276b59aca9276feab3240738165426e8be", func := "loop.example/coveringtests/laws.FnExactMissingOf", spec := "fnExactMissingOf", recurses := true, plainKeys := false, apart := false, narrowed := true }
def FnExactMissingOfUptoSaid : Prop := fnExactMissingOfUptoRow.holds Try.pinned (OpenSpec.upto fnExactMissingOfSpec)

/-- 'laws.FnExactCoverageOf', WHERE WHAT IT READS IS OF BULK AT MOST 1048576: true; the input reads as it did. -/
def fnExactCoverageOfUptoRow : OpenClaim := { program := "ytlfmjlkemcjhdaa", sum := "33f2023a3f5c73840fb96dc9220d8e276b59aca9276feab3240738165426e8be", func := "loop.example/coveringtests/laws.FnExactCoverageOf", spec := "fnExactCoverageOf", recurses := true, plainKeys := false, apart := false, narrowed := true }
def FnExactCoverageOfUptoSaid : Prop := fnExactCoverageOfUptoRow.holds Try.pinned (OpenSpec.upto fnExactCoverageOfSpec)

/-- 'laws.FnExactIsCovering', WHERE WHAT IT READS IS OF BULK AT MOST 1048576: true; the input reads as it did. -/
def fnExactIsCoveringUptoRow : OpenClaim := { program := "ytlfmjlkemcjhdaa", sum := "33f2023a3f5c73840fb96dc9220d8e276b59aca9276feab3240738165426e8be", func := "loop.example/coveringtests/laws.FnExactIsCovering", spec := "fnExactIsCovering", recurses := true, plainKeys := false, apart := false, narrowed := true }
def FnExactIsCoveringUptoSaid : Prop := fnExactIsCoveringUptoRow.holds Try.pinned (OpenSpec.upto fnExactIsCoveringSpec)

/-- 'laws.FnExactHowOften', WHERE WHAT IT READS IS OF BULK AT MOST 1048576: true; the input reads as it did. -/
def fnExactHowOftenUptoRow : OpenClaim := { program := "ytlfmjlkemcjhdaa", sum := "33f2023a3f5c73840fb96dc9220d8e276b59aca9276feab3240738165426e8be", func := "loop.example/coveringtests/laws.FnExactHowOften", spec := "fnExactHowOften", plainKeys := false, apart := false, narrowed := true }
def FnExactHowOftenUptoSaid : Prop := fnExactHowOftenUptoRow.holds Try.pinned (OpenSpec.upto fnExactHowOftenSpec)

/-- 'laws.FnExactIsBalanced', WHERE WHAT IT READS IS OF BULK AT MOST 1048576: true; the input reads as it did. -/
def fnExactIsBalancedUptoRow : OpenClaim := { program := "ytlfmjlkemcjhdaa", sum := "33f2023a3f5c73840fb96dc9220d8e276b59aca9276feab3240738165426e8be", func := "loop.example/coveringtests/laws.FnExactIsBalanced", spec := "fnExactIsBalanced", recurses := true, plainKeys := false, apart := false, narrowed := true }
def FnExactIsBalancedUptoSaid : Prop := fnExactIsBalancedUptoRow.holds Try.pinned (OpenSpec.upto fnExactIsBalancedSpec)

/-- 'laws.FnExactSpareTests', WHERE WHAT IT READS IS OF BULK AT MOST 1048576: true; the input reads as it did. -/
def fnExactSpareTestsUptoRow : OpenClaim := { program := "ytlfmjlkemcjhdaa", sum := "33f2023a3f5c73840fb96dc9220d8e276b59aca9276feab3240738165426e8be", func := "loop.example/coveringtests/laws.FnExactSpareTests", spec := "fnExactSpareTests", recurses := true, plainKeys := false, apart := false, narrowed := true }
def FnExactSpareTestsUptoSaid : Prop := fnExactSpareTestsUptoRow.holds Try.pinned (OpenSpec.upto fnExactSpareTestsSpec)

/-- 'laws.FnExactTrimSuite', WHERE WHAT IT READS IS OF BULK AT MOST 1048576: true; the input reads as it did. -/
def fnExactTrimSuiteUptoRow : OpenClaim := { program := "ytlfmjlkemcjhdaa", sum := "33f2023a3f5c73840fb96dc9220d8e276b59aca9276feab3240738165426e8be", func := "loop.example/coveringtests/laws.FnExactTrimSuite", spec := "fnExactTrimSuite", recurses := true, plainKeys := false, apart := false, narrowed := true }
def FnExactTrimSuiteUptoSaid : Prop := fnExactTrimSuiteUptoRow.holds Try.pinned (OpenSpec.upto fnExactTrimSuiteSpec)

/-- 'laws.FnExactJoinPatterns', WHERE WHAT IT READS IS OF BULK AT MOST 1048576: true; the input reads as it did. -/
def fnExactJoinPatternsUptoRow : OpenClaim := { program := "ytlfmjlkemcjhdaa", sum := "33f2023a3f5c73840fb96dc9220d8e276b59aca9276feab3240738165426e8be", func := "loop.example/coveringtests/laws.FnExactJoinPatterns", spec := "fnExactJoinPatterns", plainKeys := false, apart := false, narrowed := true }
def FnExactJoinPatternsUptoSaid : Prop := fnExactJoinPatternsUptoRow.holds Try.pinned (OpenSpec.upto fnExactJoinPatternsSpec)

/-- 'laws.FnExactPatternText', WHERE WHAT IT READS IS OF BULK AT MOST 1048576: true; the input reads as it did. -/
def fnExactPatternTextUptoRow : OpenClaim := { program := "ytlfmjlkemcjhdaa", sum := "33f2023a3f5c73840fb96dc9220d8e276b59aca9276feab3240738165426e8be", func := "loop.example/coveringtests/laws.FnExactPatternText", spec := "fnExactPatternText", plainKeys := false, apart := false, narrowed := true }
def FnExactPatternTextUptoSaid : Prop := fnExactPatternTextUptoRow.holds Try.pinned (OpenSpec.upto fnExactPatternTextSpec)

/-- 'laws.FnExactParsePattern', WHERE WHAT IT READS IS OF BULK AT MOST 1048576: true; the input reads as it did. -/
def fnExactParsePatternUptoRow : OpenClaim := { program := "ytlfmjlkemcjhdaa", sum := "33f2023a3f5c73840fb96dc9220d8e276b59aca9276feab3240738165426e8be", func := "loop.example/coveringtests/laws.FnExactParsePattern", spec := "fnExactParsePattern", plainKeys := false, apart := false, narrowed := true }
def FnExactParsePatternUptoSaid : Prop := fnExactParsePatternUptoRow.holds Try.pinned (OpenSpec.upto fnExactParsePatternSpec)

end Rows
end Go.Proofs.Ytlfmjlkemcjhdaa
