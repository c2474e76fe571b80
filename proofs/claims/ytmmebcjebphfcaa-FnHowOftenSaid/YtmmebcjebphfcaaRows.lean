/-
  No cell of these rows narrows 'for every input' (looked for: loops, veiled, ifaces, maps, wideKeys, modest, calm, conditions, laid).
  DERIVED. THE GIVEN ROWS OF THIS SEAT. 14 by the template 'for every input the law returns true; each argument reads behind the call as it read before'; 0 by the template 'total and deterministic' (their statements: YtmmebcjebphfcaaTotals.lean).
  GIVEN WITH THE SEED: the statements are not yours to turn. If you find one false, say at which input.
  Laid BY PROGRAM, IN A SANDBOX (cutbox-rows.mjs): the forced cells as the released guide's own fill.sh prints them over the translation c966a2d21fe529a8… (all of the seat's roots in one cut). By AI agents, Wed Nov 11 2026. No macro, syntax, notation, axiom, sorry.
-/
import Derived.Test.YtmmebcjebphfcaaChecked
import GoSem.Claim
import GoSem.ClaimJoined
import GoSem.ClaimMapViews
import Derived.JoinedTies
import Derived.KernelRfl
namespace Go.Proofs.Ytmmebcjebphfcaa
/- THE CELL 'sum', in the pinned program and in every row, IS THE sha256 OF THE DUMP (.gsa) THAT YtmmebcjebphfcaaProg.lean LOADS. Nothing in Lean hashes anything: it is a label: what it is worth is what the hold of that sum in a sandbox is worth. -/
noncomputable def Try.pinned : Pinned := { name := "ytmmebcjebphfcaa", sum := "c966a2d21fe529a894dc423b425ad02d02ebe315f24962ddfb2624dc3b6c048f", checked := Try.checked }
namespace Rows
def none {H : Type} : Left H := { results := [], args := [] }

/-- 'laws.FnValidModel': WHATEVER THE INPUT: true; the input reads as it did. -/
def fnValidModelSpec : ChangeSpec := { name := "fnValidModel", fn := fun _ => fun
  | [d] => { results := [.lit (.bool true)], args := [d] }
  | _ => none }
def fnValidModelRow : OpenClaim := { program := "ytmmebcjebphfcaa", sum := "c966a2d21fe529a894dc423b425ad02d02ebe315f24962ddfb2624dc3b6c048f", func := "loop.example/coveringtests/laws.FnValidModel", spec := "fnValidModel", recurses := true, plainKeys := false, apart := false }
def FnValidModelSaid : Prop := fnValidModelRow.holds Try.pinned (OpenSpec.ofChange fnValidModelSpec)

/-- ITS FALSE NEIGHBOUR: 'it returns false'. Refute it at one input. -/
def fnValidModelWrong : ChangeSpec := { name := "fnValidModel", fn := fun _ => fun
  | [d] => { results := [.lit (.bool false)], args := [d] }
  | _ => none }
def FnValidModelWrongFalsely : Prop := fnValidModelRow.holds Try.pinned (OpenSpec.ofChange fnValidModelWrong)

/-- 'laws.FnValidTest': WHATEVER THE INPUT: true; the input reads as it did. -/
def fnValidTestSpec : ChangeSpec := { name := "fnValidTest", fn := fun _ => fun
  | [d] => { results := [.lit (.bool true)], args := [d] }
  | _ => none }
def fnValidTestRow : OpenClaim := { program := "ytmmebcjebphfcaa", sum := "c966a2d21fe529a894dc423b425ad02d02ebe315f24962ddfb2624dc3b6c048f", func := "loop.example/coveringtests/laws.FnValidTest", spec := "fnValidTest", recurses := true, plainKeys := false, apart := false }
def FnValidTestSaid : Prop := fnValidTestRow.holds Try.pinned (OpenSpec.ofChange fnValidTestSpec)

/-- ITS FALSE NEIGHBOUR: 'it returns false'. Refute it at one input. -/
def fnValidTestWrong : ChangeSpec := { name := "fnValidTest", fn := fun _ => fun
  | [d] => { results := [.lit (.bool false)], args := [d] }
  | _ => none }
def FnValidTestWrongFalsely : Prop := fnValidTestRow.holds Try.pinned (OpenSpec.ofChange fnValidTestWrong)

/-- 'laws.FnValidPattern': WHATEVER THE INPUT: true; the input reads as it did. -/
def fnValidPatternSpec : ChangeSpec := { name := "fnValidPattern", fn := fun _ => fun
  | [d] => { results := [.lit (.bool true)], args := [d] }
  | _ => none }
def fnValidPatternRow : OpenClaim := { program := "ytmmebcjebphfcaa", sum := "c966a2d21fe529a894dc423b425ad02d02ebe315f24962ddfb2624dc3b6c048f", func := "loop.example/coveringtests/laws.FnValidPattern", spec := "fnValidPattern", recurses := true, plainKeys := false, apart := false }
def FnValidPatternSaid : Prop := fnValidPatternRow.holds Try.pinned (OpenSpec.ofChange fnValidPatternSpec)

/-- ITS FALSE NEIGHBOUR: 'it returns false'. Refute it at one input. -/
def fnValidPatternWrong : ChangeSpec := { name := "fnValidPattern", fn := fun _ => fun
  | [d] => { results := [.lit (.bool false)], args := [d] }
  | _ => none }
def FnValidPatternWrongFalsely : Prop := fnValidPatternRow.holds Try.pinned (OpenSpec.ofChange fnValidPatternWrong)

/-- 'laws.FnValidSuite': WHATEVER THE INPUT: true; the input reads as it did. -/
def fnValidSuiteSpec : ChangeSpec := { name := "fnValidSuite", fn := fun _ => fun
  | [d] => { results := [.lit (.bool true)], args := [d] }
  | _ => none }
def fnValidSuiteRow : OpenClaim := { program := "ytmmebcjebphfcaa", sum := "c966a2d21fe529a894dc423b425ad02d02ebe315f24962ddfb2624dc3b6c048f", func := "loop.example/coveringtests/laws.FnValidSuite", spec := "fnValidSuite", recurses := true, plainKeys := false, apart := false }
def FnValidSuiteSaid : Prop := fnValidSuiteRow.holds Try.pinned (OpenSpec.ofChange fnValidSuiteSpec)

/-- ITS FALSE NEIGHBOUR: 'it returns false'. Refute it at one input. -/
def fnValidSuiteWrong : ChangeSpec := { name := "fnValidSuite", fn := fun _ => fun
  | [d] => { results := [.lit (.bool false)], args := [d] }
  | _ => none }
def FnValidSuiteWrongFalsely : Prop := fnValidSuiteRow.holds Try.pinned (OpenSpec.ofChange fnValidSuiteWrong)

/-- 'laws.FnAllTests': WHATEVER THE INPUT: true; the input reads as it did. -/
def fnAllTestsSpec : ChangeSpec := { name := "fnAllTests", fn := fun _ => fun
  | [d] => { results := [.lit (.bool true)], args := [d] }
  | _ => none }
def fnAllTestsRow : OpenClaim := { program := "ytmmebcjebphfcaa", sum := "c966a2d21fe529a894dc423b425ad02d02ebe315f24962ddfb2624dc3b6c048f", func := "loop.example/coveringtests/laws.FnAllTests", spec := "fnAllTests", recurses := true, plainKeys := false, apart := false }
def FnAllTestsSaid : Prop := fnAllTestsRow.holds Try.pinned (OpenSpec.ofChange fnAllTestsSpec)

/-- ITS FALSE NEIGHBOUR: 'it returns false'. Refute it at one input. -/
def fnAllTestsWrong : ChangeSpec := { name := "fnAllTests", fn := fun _ => fun
  | [d] => { results := [.lit (.bool false)], args := [d] }
  | _ => none }
def FnAllTestsWrongFalsely : Prop := fnAllTestsRow.holds Try.pinned (OpenSpec.ofChange fnAllTestsWrong)

/-- 'laws.FnStrengthOf': WHATEVER THE INPUT: true; the input reads as it did. -/
def fnStrengthOfSpec : ChangeSpec := { name := "fnStrengthOf", fn := fun _ => fun
  | [d] => { results := [.lit (.bool true)], args := [d] }
  | _ => none }
def fnStrengthOfRow : OpenClaim := { program := "ytmmebcjebphfcaa", sum := "c966a2d21fe529a894dc423b425ad02d02ebe315f24962ddfb2624dc3b6c048f", func := "loop.example/coveringtests/laws.FnStrengthOf", spec := "fnStrengthOf", plainKeys := false, apart := false }
def FnStrengthOfSaid : Prop := fnStrengthOfRow.holds Try.pinned (OpenSpec.ofChange fnStrengthOfSpec)

/-- ITS FALSE NEIGHBOUR: 'it returns false'. Refute it at one input. -/
def fnStrengthOfWrong : ChangeSpec := { name := "fnStrengthOf", fn := fun _ => fun
  | [d] => { results := [.lit (.bool false)], args := [d] }
  | _ => none }
def FnStrengthOfWrongFalsely : Prop := fnStrengthOfRow.holds Try.pinned (OpenSpec.ofChange fnStrengthOfWrong)

/-- 'laws.FnMatches': WHATEVER THE INPUT: true; the input reads as it did. -/
def fnMatchesSpec : ChangeSpec := { name := "fnMatches", fn := fun _ => fun
  | [d] => { results := [.lit (.bool true)], args := [d] }
  | _ => none }
def fnMatchesRow : OpenClaim := { program := "ytmmebcjebphfcaa", sum := "c966a2d21fe529a894dc423b425ad02d02ebe315f24962ddfb2624dc3b6c048f", func := "loop.example/coveringtests/laws.FnMatches", spec := "fnMatches", plainKeys := false, apart := false }
def FnMatchesSaid : Prop := fnMatchesRow.holds Try.pinned (OpenSpec.ofChange fnMatchesSpec)

/-- ITS FALSE NEIGHBOUR: 'it returns false'. Refute it at one input. -/
def fnMatchesWrong : ChangeSpec := { name := "fnMatches", fn := fun _ => fun
  | [d] => { results := [.lit (.bool false)], args := [d] }
  | _ => none }
def FnMatchesWrongFalsely : Prop := fnMatchesRow.holds Try.pinned (OpenSpec.ofChange fnMatchesWrong)

/-- 'laws.FnAllPatterns': WHATEVER THE INPUT: true; the input reads as it did. -/
def fnAllPatternsSpec : ChangeSpec := { name := "fnAllPatterns", fn := fun _ => fun
  | [d] => { results := [.lit (.bool true)], args := [d] }
  | _ => none }
def fnAllPatternsRow : OpenClaim := { program := "ytmmebcjebphfcaa", sum := "c966a2d21fe529a894dc423b425ad02d02ebe315f24962ddfb2624dc3b6c048f", func := "loop.example/coveringtests/laws.FnAllPatterns", spec := "fnAllPatterns", recurses := true, plainKeys := false, apart := false }
def FnAllPatternsSaid : Prop := fnAllPatternsRow.holds Try.pinned (OpenSpec.ofChange fnAllPatternsSpec)

/-- ITS FALSE NEIGHBOUR: 'it returns false'. Refute it at one input. -/
def fnAllPatternsWrong : ChangeSpec := { name := "fnAllPatterns", fn := fun _ => fun
  | [d] => { results := [.lit (.bool false)], args := [d] }
  | _ => none }
def FnAllPatternsWrongFalsely : Prop := fnAllPatternsRow.holds Try.pinned (OpenSpec.ofChange fnAllPatternsWrong)

/-- 'laws.FnMissingOf': WHATEVER THE INPUT: true; the input reads as it did. -/
def fnMissingOfSpec : ChangeSpec := { name := "fnMissingOf", fn := fun _ => fun
  | [d] => { results := [.lit (.bool true)], args := [d] }
  | _ => none }
def fnMissingOfRow : OpenClaim := { program := "ytmmebcjebphfcaa", sum := "c966a2d21fe529a894dc423b425ad02d02ebe315f24962ddfb2624dc3b6c048f", func := "loop.example/coveringtests/laws.FnMissingOf", spec := "fnMissingOf", recurses := true, plainKeys := false, apart := false }
def FnMissingOfSaid : Prop := fnMissingOfRow.holds Try.pinned (OpenSpec.ofChange fnMissingOfSpec)

/-- ITS FALSE NEIGHBOUR: 'it returns false'. Refute it at one input. -/
def fnMissingOfWrong : ChangeSpec := { name := "fnMissingOf", fn := fun _ => fun
  | [d] => { results := [.lit (.bool false)], args := [d] }
  | _ => none }
def FnMissingOfWrongFalsely : Prop := fnMissingOfRow.holds Try.pinned (OpenSpec.ofChange fnMissingOfWrong)

/-- 'laws.FnCoverageOf': WHATEVER THE INPUT: true; the input reads as it did. -/
def fnCoverageOfSpec : ChangeSpec := { name := "fnCoverageOf", fn := fun _ => fun
  | [d] => { results := [.lit (.bool true)], args := [d] }
  | _ => none }
def fnCoverageOfRow : OpenClaim := { program := "ytmmebcjebphfcaa", sum := "c966a2d21fe529a894dc423b425ad02d02ebe315f24962ddfb2624dc3b6c048f", func := "loop.example/coveringtests/laws.FnCoverageOf", spec := "fnCoverageOf", recurses := true, plainKeys := false, apart := false }
def FnCoverageOfSaid : Prop := fnCoverageOfRow.holds Try.pinned (OpenSpec.ofChange fnCoverageOfSpec)

/-- ITS FALSE NEIGHBOUR: 'it returns false'. Refute it at one input. -/
def fnCoverageOfWrong : ChangeSpec := { name := "fnCoverageOf", fn := fun _ => fun
  | [d] => { results := [.lit (.bool false)], args := [d] }
  | _ => none }
def FnCoverageOfWrongFalsely : Prop := fnCoverageOfRow.holds Try.pinned (OpenSpec.ofChange fnCoverageOfWrong)

/-- 'laws.FnHowOften': WHATEVER THE INPUT: true; the input reads as it did. -/
def fnHowOftenSpec : ChangeSpec := { name := "fnHowOften", fn := fun _ => fun
  | [d] => { results := [.lit (.bool true)], args := [d] }
  | _ => none }
def fnHowOftenRow : OpenClaim := { program := "ytmmebcjebphfcaa", sum := "c966a2d21fe529a894dc423b425ad02d02ebe315f24962ddfb2624dc3b6c048f", func := "loop.example/coveringtests/laws.FnHowOften", spec := "fnHowOften", recurses := true, plainKeys := false, apart := false }
def FnHowOftenSaid : Prop := fnHowOftenRow.holds Try.pinned (OpenSpec.ofChange fnHowOftenSpec)

/-- ITS FALSE NEIGHBOUR: 'it returns false'. Refute it at one input. -/
def fnHowOftenWrong : ChangeSpec := { name := "fnHowOften", fn := fun _ => fun
  | [d] => { results := [.lit (.bool false)], args := [d] }
  | _ => none }
def FnHowOftenWrongFalsely : Prop := fnHowOftenRow.holds Try.pinned (OpenSpec.ofChange fnHowOftenWrong)

/-- 'laws.FnJoinPatterns': WHATEVER THE INPUT: true; the input reads as it did. -/
def fnJoinPatternsSpec : ChangeSpec := { name := "fnJoinPatterns", fn := fun _ => fun
  | [d] => { results := [.lit (.bool true)], args := [d] }
  | _ => none }
def fnJoinPatternsRow : OpenClaim := { program := "ytmmebcjebphfcaa", sum := "c966a2d21fe529a894dc423b425ad02d02ebe315f24962ddfb2624dc3b6c048f", func := "loop.example/coveringtests/laws.FnJoinPatterns", spec := "fnJoinPatterns", recurses := true, plainKeys := false, apart := false }
def FnJoinPatternsSaid : Prop := fnJoinPatternsRow.holds Try.pinned (OpenSpec.ofChange fnJoinPatternsSpec)

/-- ITS FALSE NEIGHBOUR: 'it returns false'. Refute it at one input. -/
def fnJoinPatternsWrong : ChangeSpec := { name := "fnJoinPatterns", fn := fun _ => fun
  | [d] => { results := [.lit (.bool false)], args := [d] }
  | _ => none }
def FnJoinPatternsWrongFalsely : Prop := fnJoinPatternsRow.holds Try.pinned (OpenSpec.ofChange fnJoinPatternsWrong)

/-- 'laws.FnPatternText': WHATEVER THE INPUT: true; the input reads as it did. -/
def fnPatternTextSpec : ChangeSpec := { name := "fnPatternText", fn := fun _ => fun
  | [d] => { results := [.lit (.bool true)], args := [d] }
  | _ => none }
def fnPatternTextRow : OpenClaim := { program := "ytmmebcjebphfcaa", sum := "c966a2d21fe529a894dc423b425ad02d02ebe315f24962ddfb2624dc3b6c048f", func := "loop.example/coveringtests/laws.FnPatternText", spec := "fnPatternText", plainKeys := false, apart := false }
def FnPatternTextSaid : Prop := fnPatternTextRow.holds Try.pinned (OpenSpec.ofChange fnPatternTextSpec)

/-- ITS FALSE NEIGHBOUR: 'it returns false'. Refute it at one input. -/
def fnPatternTextWrong : ChangeSpec := { name := "fnPatternText", fn := fun _ => fun
  | [d] => { results := [.lit (.bool false)], args := [d] }
  | _ => none }
def FnPatternTextWrongFalsely : Prop := fnPatternTextRow.holds Try.pinned (OpenSpec.ofChange fnPatternTextWrong)

/-- 'laws.FnParsePattern': WHATEVER THE INPUT: true; the input reads as it did. -/
def fnParsePatternSpec : ChangeSpec := { name := "fnParsePattern", fn := fun _ => fun
  | [d] => { results := [.lit (.bool true)], args := [d] }
  | _ => none }
def fnParsePatternRow : OpenClaim := { program := "ytmmebcjebphfcaa", sum := "c966a2d21fe529a894dc423b425ad02d02ebe315f24962ddfb2624dc3b6c048f", func := "loop.example/coveringtests/laws.FnParsePattern", spec := "fnParsePattern", plainKeys := false, apart := false }
def FnParsePatternSaid : Prop := fnParsePatternRow.holds Try.pinned (OpenSpec.ofChange fnParsePatternSpec)

/-- ITS FALSE NEIGHBOUR: 'it returns false'. Refute it at one input. -/
def fnParsePatternWrong : ChangeSpec := { name := "fnParsePattern", fn := fun _ => fun
  | [d] => { results := [.lit (.bool false)], args := [d] }
  | _ => none }
def FnParsePatternWrongFalsely : Prop := fnParsePatternRow.holds Try.pinned (OpenSpec.ofChange fnParsePatternWrong)

/- THE SECOND FORM. 'bulk': how many values and letters a reading holds, each counted each time it is reached (what is shared counts as often as it is met; a slice's spare places count too). A statement '..UptoSaid' is the law's where the arguments, and the package variables that the reading takes, are together of bulk at most 1048576: NARROWER than '..Said'. Prove '..Said' where nothing that the law and all that it calls make is longer than what came in: it says more and counts as full. Else prove '..UptoSaid'. A law counts once. -/
mutual
def uptoBulk {H : Type} : DataW H → Nat
  | .lit (.string bytes) => bytes.length + 1
  | .lit _ => 1
  | .nil => 1
  | .ptr d => uptoBulk d + 1
  | .slice elems spare => uptoBulkAll elems + uptoBulkAll spare + 1
  | .agg parts => uptoBulkAll parts + 1
  | .iface _ d => uptoBulk d + 1
  | .map entries => uptoBulkEntries entries + 1
  | .held _ => 1
def uptoBulkAll {H : Type} : List (DataW H) → Nat
  | [] => 0
  | d :: r => uptoBulk d + uptoBulkAll r
def uptoBulkEntries {H : Type} : List (Lit × DataW H) → Nat
  | [] => 0
  | x :: r => uptoBulkEntry x + uptoBulkEntries r
def uptoBulkEntry {H : Type} : Lit × DataW H → Nat
  | (.string bytes, d) => bytes.length + uptoBulk d + 1
  | (_, d) => uptoBulk d + 1
 end
def uptoSmall : (H : Type) → List (DataW H) → Bool := fun _ ds => decide (uptoBulkAll ds ≤ 1048576)
def OpenSpec.upto (s : _root_.Go.ChangeSpec) : _root_.Go.OpenSpec := { _root_.Go.OpenSpec.ofChange s with cond := some uptoSmall }

/-- 'laws.FnValidModel', WHERE WHAT IT READS IS OF BULK AT MOST 1048576: true; the input reads as it did. -/
def fnValidModelUptoRow : OpenClaim := { program := "ytmmebcjebphfcaa", sum := "c966a2d21fe529a894dc423b425ad02d02ebe315f24962ddfb2624dc3b6c048f", func := "loop.example/coveringtests/laws.FnValidModel", spec := "fnValidModel", recurses := true, plainKeys := false, apart := false, narrowed := true }
def FnValidModelUptoSaid : Prop := fnValidModelUptoRow.holds Try.pinned (OpenSpec.upto fnValidModelSpec)

/-- 'laws.FnValidTest', WHERE WHAT IT READS IS OF BULK AT MOST 1048576: true; the input reads as it did. -/
def fnValidTestUptoRow : OpenClaim := { program := "ytmmebcjebphfcaa", sum := "c966a2d21fe529a894dc423b425ad02d02ebe315f24962ddfb2624dc3b6c048f", func := "loop.example/coveringtests/laws.FnValidTest", spec := "fnValidTest", recurses := true, plainKeys := false, apart := false, narrowed := true }
def FnValidTestUptoSaid : Prop := fnValidTestUptoRow.holds Try.pinned (OpenSpec.upto fnValidTestSpec)

/-- 'laws.FnValidPattern', WHERE WHAT IT READS IS OF BULK AT MOST 1048576: true; the input reads as it did. -/
def fnValidPatternUptoRow : OpenClaim := { program := "ytmmebcjebphfcaa", sum := "c966a2d21fe529a894dc423b425ad02d02ebe315f24962ddfb2624dc3b6c048f", func := "loop.example/coveringtests/laws.FnValidPattern", spec := "fnValidPattern", recurses := true, plainKeys := false, apart := false, narrowed := true }
def FnValidPatternUptoSaid : Prop := fnValidPatternUptoRow.holds Try.pinned (OpenSpec.upto fnValidPatternSpec)

/-- 'laws.FnValidSuite', WHERE WHAT IT READS IS OF BULK AT MOST 1048576: true; the input reads as it did. -/
def fnValidSuiteUptoRow : OpenClaim := { program := "ytmmebcjebphfcaa", sum := "c966a2d21fe529a894dc423b425ad02d02ebe315f24962ddfb2624dc3b6c048f", func := "loop.example/coveringtests/laws.FnValidSuite", spec := "fnValidSuite", recurses := true, plainKeys := false, apart := false, narrowed := true }
def FnValidSuiteUptoSaid : Prop := fnValidSuiteUptoRow.holds Try.pinned (OpenSpec.upto fnValidSuiteSpec)

/-- 'laws.FnAllTests', WHERE WHAT IT READS IS OF BULK AT MOST 1048576: true; the input reads as it did. -/
def fnAllTestsUptoRow : OpenClaim := { program := "ytmmebcjebphfcaa", sum := "c966a2d21fe529a894dc423b425ad02d02ebe315f24962ddfb2624dc3b6c048f", func := "loop.example/coveringtests/laws.FnAllTests", spec := "fnAllTests", recurses := true, plainKeys := false, apart := false, narrowed := true }
def FnAllTestsUptoSaid : Prop := fnAllTestsUptoRow.holds Try.pinned (OpenSpec.upto fnAllTestsSpec)

/-- 'laws.FnStrengthOf', WHERE WHAT IT READS IS OF BULK AT MOST 1048576: true; the input reads as it did. -/
def fnStrengthOfUptoRow : OpenClaim := { program := "ytmmebcjebphfcaa", sum := "c966a2d21fe529a894dc423b425ad02d02ebe315f24962ddfb2624dc3b6c048f", func := "loop.example/coveringtests/laws.FnStrengthOf", spec := "fnStrengthOf", plainKeys := false, apart := false, narrowed := true }
def FnStrengthOfUptoSaid : Prop := fnStrengthOfUptoRow.holds Try.pinned (OpenSpec.upto fnStrengthOfSpec)

/-- 'laws.FnMatches', WHERE WHAT IT READS IS OF BULK AT MOST 1048576: true; the input reads as it did. -/
def fnMatchesUptoRow : OpenClaim := { program := "ytmmebcjebphfcaa", sum := "c966a2d21fe529a894dc423b425ad02d02ebe315f24962ddfb2624dc3b6c048f", func := "loop.example/coveringtests/laws.FnMatches", spec := "fnMatches", plainKeys := false, apart := false, narrowed := true }
def FnMatchesUptoSaid : Prop := fnMatchesUptoRow.holds Try.pinned (OpenSpec.upto fnMatchesSpec)

/-- 'laws.FnAllPatterns', WHERE WHAT IT READS IS OF BULK AT MOST 1048576: true; the input reads as it did. -/
def fnAllPatternsUptoRow : OpenClaim := { program := "ytmmebcjebphfcaa", sum := "c966a2d21fe529a894dc423b425ad02d02ebe315f24962ddfb2624dc3b6c048f", func := "loop.example/coveringtests/laws.FnAllPatterns", spec := "fnAllPatterns", recurses := true, plainKeys := false, apart := false, narrowed := true }
def FnAllPatternsUptoSaid : Prop := fnAllPatternsUptoRow.holds Try.pinned (OpenSpec.upto fnAllPatternsSpec)

/-- 'laws.FnMissingOf', WHERE WHAT IT READS IS OF BULK AT MOST 1048576: true; the input reads as it did. -/
def fnMissingOfUptoRow : OpenClaim := { program := "ytmmebcjebphfcaa", sum := "c966a2d21fe529a894dc423b425ad02d02ebe315f24962ddfb2624dc3b6c048f", func := "loop.example/coveringtests/laws.FnMissingOf", spec := "fnMissingOf", recurses := true, plainKeys := false, apart := false, narrowed := true }
def FnMissingOfUptoSaid : Prop := fnMissingOfUptoRow.holds Try.pinned (OpenSpec.upto fnMissingOfSpec)

/-- 'laws.FnCoverageOf', WHERE WHAT IT READS IS OF BULK AT MOST 1048576: true; the input reads as it did. -/
def fnCoverageOfUptoRow : OpenClaim := { program := "ytmmebcjebphfcaa", sum := "c966a2d21fe529a894dc423b425ad02d02ebe315f24962ddfb2624dc3b6c048f", func := "loop.example/coveringtests/laws.FnCoverageOf", spec := "fnCoverageOf", recurses := true, plainKeys := false, apart := false, narrowed := true }
def FnCoverageOfUptoSaid : Prop := fnCoverageOfUptoRow.holds Try.pinned (OpenSpec.upto fnCoverageOfSpec)

/-- 'laws.FnHowOften', WHERE WHAT IT READS IS OF BULK AT MOST 1048576: true; the input reads as it did. -/
def fnHowOftenUptoRow : OpenClaim := { program := "ytmmebcjebphfcaa", sum := "c966a2d21fe529a894dc423b425ad02d02ebe315f24962ddfb2624dc3b6c048f", func := "loop.example/coveringtests/laws.FnHowOften", spec := "fnHowOften", recurses := true, plainKeys := false, apart := false, narrowed := true }
def FnHowOftenUptoSaid : Prop := fnHowOftenUptoRow.holds Try.pinned (OpenSpec.upto fnHowOftenSpec)

/-- 'laws.FnJoinPatterns', WHERE WHAT IT READS IS OF BULK AT MOST 1048576: true; the input reads as it did. -/
def fnJoinPatternsUptoRow : OpenClaim := { program := "ytmmebcjebphfcaa", sum := "c966a2d21fe529a894dc423b425ad02d02ebe315f24962ddfb2624dc3b6c048f", func := "loop.example/coveringtests/laws.FnJoinPatterns", spec := "fnJoinPatterns", recurses := true, plainKeys := false, apart := false, narrowed := true }
def FnJoinPatternsUptoSaid : Prop := fnJoinPatternsUptoRow.holds Try.pinned (OpenSpec.upto fnJoinPatternsSpec)

/-- 'laws.FnPatternText', WHERE WHAT IT READS IS OF BULK AT MOST 1048576: true; the input reads as it did. -/
def fnPatternTextUptoRow : OpenClaim := { program := "ytmmebcjebphfcaa", sum := "c966a2d21fe529a894dc423b425ad02d02ebe315f24962ddfb2624dc3b6c048f", func := "loop.example/coveringtests/laws.FnPatternText", spec := "fnPatternText", plainKeys := false, apart := false, narrowed := true }
def FnPatternTextUptoSaid : Prop := fnPatternTextUptoRow.holds Try.pinned (OpenSpec.upto fnPatternTextSpec)

/-- 'laws.FnParsePattern', WHERE WHAT IT READS IS OF BULK AT MOST 1048576: true; the input reads as it did. -/
def fnParsePatternUptoRow : OpenClaim := { program := "ytmmebcjebphfcaa", sum := "c966a2d21fe529a894dc423b425ad02d02ebe315f24962ddfb2624dc3b6c048f", func := "loop.example/coveringtests/laws.FnParsePattern", spec := "fnParsePattern", plainKeys := false, apart := false, narrowed := true }
def FnParsePatternUptoSaid : Prop := fnParsePatternUptoRow.holds Try.pinned (OpenSpec.upto fnParsePatternSpec)

end Rows
end Go.Proofs.Ytmmebcjebphfcaa
