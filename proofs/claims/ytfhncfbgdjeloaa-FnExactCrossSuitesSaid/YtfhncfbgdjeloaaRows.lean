/-
  No cell of these rows narrows 'for every input' (looked for: loops, veiled, ifaces, maps, wideKeys, modest, calm, conditions, laid).
  DERIVED. THE GIVEN ROWS OF THIS SEAT. 16 by the template 'for every input the law returns true; each argument reads behind the call as it read before'; 0 by the template 'total and deterministic' (their statements: YtfhncfbgdjeloaaTotals.lean).
  GIVEN WITH THE SEED: the statements are not yours to turn. If you find one false, say at which input.
  Laid BY PROGRAM, IN A SANDBOX (cutbox-rows.mjs): the forced cells as the released guide's own fill.sh prints them over the translation 3080d9c801823022… (all of the seat's roots in one cut). By AI agents, Wed Nov 11 2026. No macro, syntax, notation, axiom, sorry.
-/
import Derived.Test.YtfhncfbgdjeloaaChecked
import GoSem.Claim
import GoSem.ClaimJoined
import GoSem.ClaimMapViews
import Derived.JoinedTies
import Derived.KernelRfl
namespace Go.Proofs.Ytfhncfbgdjeloaa
/- THE CELL 'sum', in the pinned program and in every row, IS THE sha256 OF THE DUMP (.gsa) THAT YtfhncfbgdjeloaaProg.lean LOADS. Nothing in Lean hashes anything: it is a label: what it is worth is what the hold of that sum in a sandbox is worth. -/
noncomputable def Try.pinned : Pinned := { name := "ytfhncfbgdjeloaa", sum := "3080d9c801823022e7a24f213f2f5afcb9323a351ef174a3bd2dad828c82710a", checked := Try.checked }
namespace Rows
def none {H : Type} : Left H := { results := [], args := [] }

/-- 'laws.FnExactMissingOf': WHATEVER THE INPUT: true; the input reads as it did. -/
def fnExactMissingOfSpec : ChangeSpec := { name := "fnExactMissingOf", fn := fun _ => fun
  | [d1, d2, d3] => { results := [.lit (.bool true)], args := [d1, d2, d3] }
  | _ => none }
def fnExactMissingOfRow : OpenClaim := { program := "ytfhncfbgdjeloaa", sum := "3080d9c801823022e7a24f213f2f5afcb9323a351ef174a3bd2dad828c82710a", func := "loop.example/coveringtests/laws.FnExactMissingOf", spec := "fnExactMissingOf", recurses := true, plainKeys := false, apart := false }
def FnExactMissingOfSaid : Prop := fnExactMissingOfRow.holds Try.pinned (OpenSpec.ofChange fnExactMissingOfSpec)

/-- ITS FALSE NEIGHBOUR: 'it returns false'. Refute it at one input. -/
def fnExactMissingOfWrong : ChangeSpec := { name := "fnExactMissingOf", fn := fun _ => fun
  | [d1, d2, d3] => { results := [.lit (.bool false)], args := [d1, d2, d3] }
  | _ => none }
def FnExactMissingOfWrongFalsely : Prop := fnExactMissingOfRow.holds Try.pinned (OpenSpec.ofChange fnExactMissingOfWrong)

/-- 'laws.FnExactCoverageOf': WHATEVER THE INPUT: true; the input reads as it did. -/
def fnExactCoverageOfSpec : ChangeSpec := { name := "fnExactCoverageOf", fn := fun _ => fun
  | [d1, d2, d3] => { results := [.lit (.bool true)], args := [d1, d2, d3] }
  | _ => none }
def fnExactCoverageOfRow : OpenClaim := { program := "ytfhncfbgdjeloaa", sum := "3080d9c801823022e7a24f213f2f5afcb9323a351ef174a3bd2dad828c82710a", func := "loop.example/coveringtests/laws.FnExactCoverageOf", spec := "fnExactCoverageOf", recurses := true, plainKeys := false, apart := false }
def FnExactCoverageOfSaid : Prop := fnExactCoverageOfRow.holds Try.pinned (OpenSpec.ofChange fnExactCoverageOfSpec)

/-- ITS FALSE NEIGHBOUR: 'it returns false'. Refute it at one input. -/
def fnExactCoverageOfWrong : ChangeSpec := { name := "fnExactCoverageOf", fn := fun _ => fun
  | [d1, d2, d3] => { results := [.lit (.bool false)], args := [d1, d2, d3] }
  | _ => none }
def FnExactCoverageOfWrongFalsely : Prop := fnExactCoverageOfRow.holds Try.pinned (OpenSpec.ofChange fnExactCoverageOfWrong)

/-- 'laws.FnExactIsCovering': WHATEVER THE INPUT: true; the input reads as it did. -/
def fnExactIsCoveringSpec : ChangeSpec := { name := "fnExactIsCovering", fn := fun _ => fun
  | [d1, d2, d3] => { results := [.lit (.bool true)], args := [d1, d2, d3] }
  | _ => none }
def fnExactIsCoveringRow : OpenClaim := { program := "ytfhncfbgdjeloaa", sum := "3080d9c801823022e7a24f213f2f5afcb9323a351ef174a3bd2dad828c82710a", func := "loop.example/coveringtests/laws.FnExactIsCovering", spec := "fnExactIsCovering", recurses := true, plainKeys := false, apart := false }
def FnExactIsCoveringSaid : Prop := fnExactIsCoveringRow.holds Try.pinned (OpenSpec.ofChange fnExactIsCoveringSpec)

/-- ITS FALSE NEIGHBOUR: 'it returns false'. Refute it at one input. -/
def fnExactIsCoveringWrong : ChangeSpec := { name := "fnExactIsCovering", fn := fun _ => fun
  | [d1, d2, d3] => { results := [.lit (.bool false)], args := [d1, d2, d3] }
  | _ => none }
def FnExactIsCoveringWrongFalsely : Prop := fnExactIsCoveringRow.holds Try.pinned (OpenSpec.ofChange fnExactIsCoveringWrong)

/-- 'laws.FnExactIsBalanced': WHATEVER THE INPUT: true; the input reads as it did. -/
def fnExactIsBalancedSpec : ChangeSpec := { name := "fnExactIsBalanced", fn := fun _ => fun
  | [d1, d2, d3] => { results := [.lit (.bool true)], args := [d1, d2, d3] }
  | _ => none }
def fnExactIsBalancedRow : OpenClaim := { program := "ytfhncfbgdjeloaa", sum := "3080d9c801823022e7a24f213f2f5afcb9323a351ef174a3bd2dad828c82710a", func := "loop.example/coveringtests/laws.FnExactIsBalanced", spec := "fnExactIsBalanced", recurses := true, plainKeys := false, apart := false }
def FnExactIsBalancedSaid : Prop := fnExactIsBalancedRow.holds Try.pinned (OpenSpec.ofChange fnExactIsBalancedSpec)

/-- ITS FALSE NEIGHBOUR: 'it returns false'. Refute it at one input. -/
def fnExactIsBalancedWrong : ChangeSpec := { name := "fnExactIsBalanced", fn := fun _ => fun
  | [d1, d2, d3] => { results := [.lit (.bool false)], args := [d1, d2, d3] }
  | _ => none }
def FnExactIsBalancedWrongFalsely : Prop := fnExactIsBalancedRow.holds Try.pinned (OpenSpec.ofChange fnExactIsBalancedWrong)

/-- 'laws.FnExactSpareTests': WHATEVER THE INPUT: true; the input reads as it did. -/
def fnExactSpareTestsSpec : ChangeSpec := { name := "fnExactSpareTests", fn := fun _ => fun
  | [d1, d2, d3] => { results := [.lit (.bool true)], args := [d1, d2, d3] }
  | _ => none }
def fnExactSpareTestsRow : OpenClaim := { program := "ytfhncfbgdjeloaa", sum := "3080d9c801823022e7a24f213f2f5afcb9323a351ef174a3bd2dad828c82710a", func := "loop.example/coveringtests/laws.FnExactSpareTests", spec := "fnExactSpareTests", recurses := true, plainKeys := false, apart := false }
def FnExactSpareTestsSaid : Prop := fnExactSpareTestsRow.holds Try.pinned (OpenSpec.ofChange fnExactSpareTestsSpec)

/-- ITS FALSE NEIGHBOUR: 'it returns false'. Refute it at one input. -/
def fnExactSpareTestsWrong : ChangeSpec := { name := "fnExactSpareTests", fn := fun _ => fun
  | [d1, d2, d3] => { results := [.lit (.bool false)], args := [d1, d2, d3] }
  | _ => none }
def FnExactSpareTestsWrongFalsely : Prop := fnExactSpareTestsRow.holds Try.pinned (OpenSpec.ofChange fnExactSpareTestsWrong)

/-- 'laws.FnExactTrimSuite': WHATEVER THE INPUT: true; the input reads as it did. -/
def fnExactTrimSuiteSpec : ChangeSpec := { name := "fnExactTrimSuite", fn := fun _ => fun
  | [d1, d2, d3] => { results := [.lit (.bool true)], args := [d1, d2, d3] }
  | _ => none }
def fnExactTrimSuiteRow : OpenClaim := { program := "ytfhncfbgdjeloaa", sum := "3080d9c801823022e7a24f213f2f5afcb9323a351ef174a3bd2dad828c82710a", func := "loop.example/coveringtests/laws.FnExactTrimSuite", spec := "fnExactTrimSuite", recurses := true, plainKeys := false, apart := false }
def FnExactTrimSuiteSaid : Prop := fnExactTrimSuiteRow.holds Try.pinned (OpenSpec.ofChange fnExactTrimSuiteSpec)

/-- ITS FALSE NEIGHBOUR: 'it returns false'. Refute it at one input. -/
def fnExactTrimSuiteWrong : ChangeSpec := { name := "fnExactTrimSuite", fn := fun _ => fun
  | [d1, d2, d3] => { results := [.lit (.bool false)], args := [d1, d2, d3] }
  | _ => none }
def FnExactTrimSuiteWrongFalsely : Prop := fnExactTrimSuiteRow.holds Try.pinned (OpenSpec.ofChange fnExactTrimSuiteWrong)

/-- 'laws.FnExactFreshOf': WHATEVER THE INPUT: true; the input reads as it did. -/
def fnExactFreshOfSpec : ChangeSpec := { name := "fnExactFreshOf", fn := fun _ => fun
  | [d1, d2, d3, d4] => { results := [.lit (.bool true)], args := [d1, d2, d3, d4] }
  | _ => none }
def fnExactFreshOfRow : OpenClaim := { program := "ytfhncfbgdjeloaa", sum := "3080d9c801823022e7a24f213f2f5afcb9323a351ef174a3bd2dad828c82710a", func := "loop.example/coveringtests/laws.FnExactFreshOf", spec := "fnExactFreshOf", recurses := true, plainKeys := false, apart := false }
def FnExactFreshOfSaid : Prop := fnExactFreshOfRow.holds Try.pinned (OpenSpec.ofChange fnExactFreshOfSpec)

/-- ITS FALSE NEIGHBOUR: 'it returns false'. Refute it at one input. -/
def fnExactFreshOfWrong : ChangeSpec := { name := "fnExactFreshOf", fn := fun _ => fun
  | [d1, d2, d3, d4] => { results := [.lit (.bool false)], args := [d1, d2, d3, d4] }
  | _ => none }
def FnExactFreshOfWrongFalsely : Prop := fnExactFreshOfRow.holds Try.pinned (OpenSpec.ofChange fnExactFreshOfWrong)

/-- 'laws.FnExactBestTest': WHATEVER THE INPUT: true; the input reads as it did. -/
def fnExactBestTestSpec : ChangeSpec := { name := "fnExactBestTest", fn := fun _ => fun
  | [d1, d2, d3] => { results := [.lit (.bool true)], args := [d1, d2, d3] }
  | _ => none }
def fnExactBestTestRow : OpenClaim := { program := "ytfhncfbgdjeloaa", sum := "3080d9c801823022e7a24f213f2f5afcb9323a351ef174a3bd2dad828c82710a", func := "loop.example/coveringtests/laws.FnExactBestTest", spec := "fnExactBestTest", unfollowed := true, recurses := true, plainKeys := false, apart := false }
def FnExactBestTestSaid : Prop := fnExactBestTestRow.holds Try.pinned (OpenSpec.ofChange fnExactBestTestSpec)

/-- ITS FALSE NEIGHBOUR: 'it returns false'. Refute it at one input. -/
def fnExactBestTestWrong : ChangeSpec := { name := "fnExactBestTest", fn := fun _ => fun
  | [d1, d2, d3] => { results := [.lit (.bool false)], args := [d1, d2, d3] }
  | _ => none }
def FnExactBestTestWrongFalsely : Prop := fnExactBestTestRow.holds Try.pinned (OpenSpec.ofChange fnExactBestTestWrong)

/-- 'laws.FnExactGrowSuite': WHATEVER THE INPUT: true; the input reads as it did. -/
def fnExactGrowSuiteSpec : ChangeSpec := { name := "fnExactGrowSuite", fn := fun _ => fun
  | [d1, d2, d3] => { results := [.lit (.bool true)], args := [d1, d2, d3] }
  | _ => none }
def fnExactGrowSuiteRow : OpenClaim := { program := "ytfhncfbgdjeloaa", sum := "3080d9c801823022e7a24f213f2f5afcb9323a351ef174a3bd2dad828c82710a", func := "loop.example/coveringtests/laws.FnExactGrowSuite", spec := "fnExactGrowSuite", unfollowed := true, recurses := true, plainKeys := false, apart := false }
def FnExactGrowSuiteSaid : Prop := fnExactGrowSuiteRow.holds Try.pinned (OpenSpec.ofChange fnExactGrowSuiteSpec)

/-- ITS FALSE NEIGHBOUR: 'it returns false'. Refute it at one input. -/
def fnExactGrowSuiteWrong : ChangeSpec := { name := "fnExactGrowSuite", fn := fun _ => fun
  | [d1, d2, d3] => { results := [.lit (.bool false)], args := [d1, d2, d3] }
  | _ => none }
def FnExactGrowSuiteWrongFalsely : Prop := fnExactGrowSuiteRow.holds Try.pinned (OpenSpec.ofChange fnExactGrowSuiteWrong)

/-- 'laws.FnExactLeastTests': WHATEVER THE INPUT: true; the input reads as it did. -/
def fnExactLeastTestsSpec : ChangeSpec := { name := "fnExactLeastTests", fn := fun _ => fun
  | [d1, d2] => { results := [.lit (.bool true)], args := [d1, d2] }
  | _ => none }
def fnExactLeastTestsRow : OpenClaim := { program := "ytfhncfbgdjeloaa", sum := "3080d9c801823022e7a24f213f2f5afcb9323a351ef174a3bd2dad828c82710a", func := "loop.example/coveringtests/laws.FnExactLeastTests", spec := "fnExactLeastTests", unfollowed := true, recurses := true, plainKeys := false, apart := false }
def FnExactLeastTestsSaid : Prop := fnExactLeastTestsRow.holds Try.pinned (OpenSpec.ofChange fnExactLeastTestsSpec)

/-- ITS FALSE NEIGHBOUR: 'it returns false'. Refute it at one input. -/
def fnExactLeastTestsWrong : ChangeSpec := { name := "fnExactLeastTests", fn := fun _ => fun
  | [d1, d2] => { results := [.lit (.bool false)], args := [d1, d2] }
  | _ => none }
def FnExactLeastTestsWrongFalsely : Prop := fnExactLeastTestsRow.holds Try.pinned (OpenSpec.ofChange fnExactLeastTestsWrong)

/-- 'laws.FnExactFewestTests': WHATEVER THE INPUT: true; the input reads as it did. -/
def fnExactFewestTestsSpec : ChangeSpec := { name := "fnExactFewestTests", fn := fun _ => fun
  | [d1, d2] => { results := [.lit (.bool true)], args := [d1, d2] }
  | _ => none }
def fnExactFewestTestsRow : OpenClaim := { program := "ytfhncfbgdjeloaa", sum := "3080d9c801823022e7a24f213f2f5afcb9323a351ef174a3bd2dad828c82710a", func := "loop.example/coveringtests/laws.FnExactFewestTests", spec := "fnExactFewestTests", unfollowed := true, recurses := true, plainKeys := false, apart := false }
def FnExactFewestTestsSaid : Prop := fnExactFewestTestsRow.holds Try.pinned (OpenSpec.ofChange fnExactFewestTestsSpec)

/-- ITS FALSE NEIGHBOUR: 'it returns false'. Refute it at one input. -/
def fnExactFewestTestsWrong : ChangeSpec := { name := "fnExactFewestTests", fn := fun _ => fun
  | [d1, d2] => { results := [.lit (.bool false)], args := [d1, d2] }
  | _ => none }
def FnExactFewestTestsWrongFalsely : Prop := fnExactFewestTestsRow.holds Try.pinned (OpenSpec.ofChange fnExactFewestTestsWrong)

/-- 'laws.FnExactCrossSuites': WHATEVER THE INPUT: true; the input reads as it did. -/
def fnExactCrossSuitesSpec : ChangeSpec := { name := "fnExactCrossSuites", fn := fun _ => fun
  | [d1, d2, d3, d4] => { results := [.lit (.bool true)], args := [d1, d2, d3, d4] }
  | _ => none }
def fnExactCrossSuitesRow : OpenClaim := { program := "ytfhncfbgdjeloaa", sum := "3080d9c801823022e7a24f213f2f5afcb9323a351ef174a3bd2dad828c82710a", func := "loop.example/coveringtests/laws.FnExactCrossSuites", spec := "fnExactCrossSuites", plainKeys := false, apart := false }
def FnExactCrossSuitesSaid : Prop := fnExactCrossSuitesRow.holds Try.pinned (OpenSpec.ofChange fnExactCrossSuitesSpec)

/-- ITS FALSE NEIGHBOUR: 'it returns false'. Refute it at one input. -/
def fnExactCrossSuitesWrong : ChangeSpec := { name := "fnExactCrossSuites", fn := fun _ => fun
  | [d1, d2, d3, d4] => { results := [.lit (.bool false)], args := [d1, d2, d3, d4] }
  | _ => none }
def FnExactCrossSuitesWrongFalsely : Prop := fnExactCrossSuitesRow.holds Try.pinned (OpenSpec.ofChange fnExactCrossSuitesWrong)

/-- 'laws.FnExactSquareSuite': WHATEVER THE INPUT: true; the input reads as it did. -/
def fnExactSquareSuiteSpec : ChangeSpec := { name := "fnExactSquareSuite", fn := fun _ => fun
  | [d1, d2] => { results := [.lit (.bool true)], args := [d1, d2] }
  | _ => none }
def fnExactSquareSuiteRow : OpenClaim := { program := "ytfhncfbgdjeloaa", sum := "3080d9c801823022e7a24f213f2f5afcb9323a351ef174a3bd2dad828c82710a", func := "loop.example/coveringtests/laws.FnExactSquareSuite", spec := "fnExactSquareSuite", plainKeys := false, apart := false }
def FnExactSquareSuiteSaid : Prop := fnExactSquareSuiteRow.holds Try.pinned (OpenSpec.ofChange fnExactSquareSuiteSpec)

/-- ITS FALSE NEIGHBOUR: 'it returns false'. Refute it at one input. -/
def fnExactSquareSuiteWrong : ChangeSpec := { name := "fnExactSquareSuite", fn := fun _ => fun
  | [d1, d2] => { results := [.lit (.bool false)], args := [d1, d2] }
  | _ => none }
def FnExactSquareSuiteWrongFalsely : Prop := fnExactSquareSuiteRow.holds Try.pinned (OpenSpec.ofChange fnExactSquareSuiteWrong)

/-- 'laws.FnExactDropFactor': WHATEVER THE INPUT: true; the input reads as it did. -/
def fnExactDropFactorSpec : ChangeSpec := { name := "fnExactDropFactor", fn := fun _ => fun
  | [d1, d2, d3] => { results := [.lit (.bool true)], args := [d1, d2, d3] }
  | _ => none }
def fnExactDropFactorRow : OpenClaim := { program := "ytfhncfbgdjeloaa", sum := "3080d9c801823022e7a24f213f2f5afcb9323a351ef174a3bd2dad828c82710a", func := "loop.example/coveringtests/laws.FnExactDropFactor", spec := "fnExactDropFactor", plainKeys := false, apart := false }
def FnExactDropFactorSaid : Prop := fnExactDropFactorRow.holds Try.pinned (OpenSpec.ofChange fnExactDropFactorSpec)

/-- ITS FALSE NEIGHBOUR: 'it returns false'. Refute it at one input. -/
def fnExactDropFactorWrong : ChangeSpec := { name := "fnExactDropFactor", fn := fun _ => fun
  | [d1, d2, d3] => { results := [.lit (.bool false)], args := [d1, d2, d3] }
  | _ => none }
def FnExactDropFactorWrongFalsely : Prop := fnExactDropFactorRow.holds Try.pinned (OpenSpec.ofChange fnExactDropFactorWrong)

/-- 'laws.FnExactFuseLevels': WHATEVER THE INPUT: true; the input reads as it did. -/
def fnExactFuseLevelsSpec : ChangeSpec := { name := "fnExactFuseLevels", fn := fun _ => fun
  | [d1, d2, d3, d4] => { results := [.lit (.bool true)], args := [d1, d2, d3, d4] }
  | _ => none }
def fnExactFuseLevelsRow : OpenClaim := { program := "ytfhncfbgdjeloaa", sum := "3080d9c801823022e7a24f213f2f5afcb9323a351ef174a3bd2dad828c82710a", func := "loop.example/coveringtests/laws.FnExactFuseLevels", spec := "fnExactFuseLevels", plainKeys := false, apart := false }
def FnExactFuseLevelsSaid : Prop := fnExactFuseLevelsRow.holds Try.pinned (OpenSpec.ofChange fnExactFuseLevelsSpec)

/-- ITS FALSE NEIGHBOUR: 'it returns false'. Refute it at one input. -/
def fnExactFuseLevelsWrong : ChangeSpec := { name := "fnExactFuseLevels", fn := fun _ => fun
  | [d1, d2, d3, d4] => { results := [.lit (.bool false)], args := [d1, d2, d3, d4] }
  | _ => none }
def FnExactFuseLevelsWrongFalsely : Prop := fnExactFuseLevelsRow.holds Try.pinned (OpenSpec.ofChange fnExactFuseLevelsWrong)

/-- 'laws.FnExactAddFactor': WHATEVER THE INPUT: true; the input reads as it did. -/
def fnExactAddFactorSpec : ChangeSpec := { name := "fnExactAddFactor", fn := fun _ => fun
  | [d1, d2, d3, d4] => { results := [.lit (.bool true)], args := [d1, d2, d3, d4] }
  | _ => none }
def fnExactAddFactorRow : OpenClaim := { program := "ytfhncfbgdjeloaa", sum := "3080d9c801823022e7a24f213f2f5afcb9323a351ef174a3bd2dad828c82710a", func := "loop.example/coveringtests/laws.FnExactAddFactor", spec := "fnExactAddFactor", unfollowed := true, recurses := true, plainKeys := false, apart := false }
def FnExactAddFactorSaid : Prop := fnExactAddFactorRow.holds Try.pinned (OpenSpec.ofChange fnExactAddFactorSpec)

/-- ITS FALSE NEIGHBOUR: 'it returns false'. Refute it at one input. -/
def fnExactAddFactorWrong : ChangeSpec := { name := "fnExactAddFactor", fn := fun _ => fun
  | [d1, d2, d3, d4] => { results := [.lit (.bool false)], args := [d1, d2, d3, d4] }
  | _ => none }
def FnExactAddFactorWrongFalsely : Prop := fnExactAddFactorRow.holds Try.pinned (OpenSpec.ofChange fnExactAddFactorWrong)

/- THE SECOND FORM. 'bulk': how many values and letters a reading holds, each counted each time it is reached (what is shared counts as often as it is met; a slice's spare places count too). A statement '..UptoSaid' is the law's where the arguments, and the package variables that the reading takes, are together of bulk at most 1048576: NARROWER than '..Said'. Prove '..Said' where nothing that the law and all that it calls make is longer than what came in: it says more and counts as full. Else prove '..UptoSaid'. A law counts once. -/
mutual
def uptoBulk {H : Type} : DataW H → Nat
  | .lit (.string bytes) => bytes.length + 1
  | .lit _ => 1
  | .nil => 1
  | .ptr d => uptoBulk d + 1
  | .slice elems spare => uptoBulkAll elems + uptoBulkAll spare + 1
  | .agg parts => uptoBulkAll parts + 1
  | .iface _ d => uptoBulk d + 1
  | .map entries => uptoBulkEntries entries + 1
  | .held _ => 1
def uptoBulkAll {H : Type} : List (DataW H) → Nat
  | [] => 0
  | d :: r => uptoBulk d + uptoBulkAll r
def uptoBulkEntries {H : Type} : List (Lit × DataW H) → Nat
  | [] => 0
  | x :: r => uptoBulkEntry x + uptoBulkEntries r
def uptoBulkEntry {H : Type} : Lit × DataW H → Nat
  | (.string bytes, d) => bytes.length + uptoBulk d + 1
  | (_, d) => uptoBulk d + 1
 end
def uptoSmall : (H : Type) → List (DataW H) → Bool := fun _ ds => decide (uptoBulkAll ds ≤ 1048576)
def OpenSpec.upto (s : _root_.Go.ChangeSpec) : _root_.Go.OpenSpec := { _root_.Go.OpenSpec.ofChange s with cond := some uptoSmall }

/-- 'laws.FnExactMissingOf', WHERE WHAT IT READS IS OF BULK AT MOST 1048576: true; the input reads as it did. -/
def fnExactMissingOfUptoRow : OpenClaim := { program := "ytfhncfbgdjeloaa", sum := "3080d9c801823022e7a24f213f2f5afcb9323a351ef174a3bd2dad828c82710a", func := "loop.example/coveringtests/laws.FnExactMissingOf", spec := "fnExactMissingOf", recurses := true, plainKeys := false, apart := false, narrowed := true }
def FnExactMissingOfUptoSaid : Prop := fnExactMissingOfUptoRow.holds Try.pinned (OpenSpec.upto fnExactMissingOfSpec)

/-- 'laws.FnExactCoverageOf', WHERE WHAT IT READS IS OF BULK AT MOST 1048576: true; the input reads as it did. -/
def fnExactCoverageOfUptoRow : OpenClaim := { program := "ytfhncfbgdjeloaa", sum := "3080d9c801823022e7a24f213f2f5afcb9323a351ef174a3bd2dad828c82710a", func := "loop.example/coveringtests/laws.FnExactCoverageOf", spec := "fnExactCoverageOf", recurses := true, plainKeys := false, apart := false, narrowed := true }
def FnExactCoverageOfUptoSaid : Prop := fnExactCoverageOfUptoRow.holds Try.pinned (OpenSpec.upto fnExactCoverageOfSpec)

/-- 'laws.FnExactIsCovering', WHERE WHAT IT READS IS OF BULK AT MOST 1048576: true; the input reads as it did. -/
def fnExactIsCoveringUptoRow : OpenClaim := { program := "ytfhncfbgdjeloaa", sum := "3080d9c801823022e7a24f213f2f5afcb9323a351ef174a3bd2dad828c82710a", func := "loop.example/coveringtests/laws.FnExactIsCovering", spec := "fnExactIsCovering", recurses := true, plainKeys := false, apart := false, narrowed := true }
def FnExactIsCoveringUptoSaid : Prop := fnExactIsCoveringUptoRow.holds Try.pinned (OpenSpec.upto fnExactIsCoveringSpec)

/-- 'laws.FnExactIsBalanced', WHERE WHAT IT READS IS OF BULK AT MOST 1048576: true; the input reads as it did. -/
def fnExactIsBalancedUptoRow : OpenClaim := { program := "ytfhncfbgdjeloaa", sum := "3080d9c801823022e7a24f213f2f5afcb9323a351ef174a3bd2dad828c82710a", func := "loop.example/coveringtests/laws.FnExactIsBalanced", spec := "fnExactIsBalanced", recurses := true, plainKeys := false, apart := false, narrowed := true }
def FnExactIsBalancedUptoSaid : Prop := fnExactIsBalancedUptoRow.holds Try.pinned (OpenSpec.upto fnExactIsBalancedSpec)

/-- 'laws.FnExactSpareTests', WHERE WHAT IT READS IS OF BULK AT MOST 1048576: true; the input reads as it did. -/
def fnExactSpareTestsUptoRow : OpenClaim := { program := "ytfhncfbgdjeloaa", sum := "3080d9c801823022e7a24f213f2f5afcb9323a351ef174a3bd2dad828c82710a", func := "loop.example/coveringtests/laws.FnExactSpareTests", spec := "fnExactSpareTests", recurses := true, plainKeys := false, apart := false, narrowed := true }
def FnExactSpareTestsUptoSaid : Prop := fnExactSpareTestsUptoRow.holds Try.pinned (OpenSpec.upto fnExactSpareTestsSpec)

/-- 'laws.FnExactTrimSuite', WHERE WHAT IT READS IS OF BULK AT MOST 1048576: true; the input reads as it did. -/
def fnExactTrimSuiteUptoRow : OpenClaim := { program := "ytfhncfbgdjeloaa", sum := "3080d9c801823022e7a24f213f2f5afcb9323a351ef174a3bd2dad828c82710a", func := "loop.example/coveringtests/laws.FnExactTrimSuite", spec := "fnExactTrimSuite", recurses := true, plainKeys := false, apart := false, narrowed := true }
def FnExactTrimSuiteUptoSaid : Prop := fnExactTrimSuiteUptoRow.holds Try.pinned (OpenSpec.upto fnExactTrimSuiteSpec)

/-- 'laws.FnExactFreshOf', WHERE WHAT IT READS IS OF BULK AT MOST 1048576: true; the input reads as it did. -/
def fnExactFreshOfUptoRow : OpenClaim := { program := "ytfhncfbgdjeloaa", sum := "3080d9c801823022e7a24f213f2f5afcb9323a351ef174a3bd2dad828c82710a", func := "loop.example/coveringtests/laws.FnExactFreshOf", spec := "fnExactFreshOf", recurses := true, plainKeys := false, apart := false, narrowed := true }
def FnExactFreshOfUptoSaid : Prop := fnExactFreshOfUptoRow.holds Try.pinned (OpenSpec.upto fnExactFreshOfSpec)

/-- 'laws.FnExactBestTest', WHERE WHAT IT READS IS OF BULK AT MOST 1048576: true; the input reads as it did. -/
def fnExactBestTestUptoRow : OpenClaim := { program := "ytfhncfbgdjeloaa", sum := "3080d9c801823022e7a24f213f2f5afcb9323a351ef174a3bd2dad828c82710a", func := "loop.example/coveringtests/laws.FnExactBestTest", spec := "fnExactBestTest", unfollowed := true, recurses := true, plainKeys := false, apart := false, narrowed := true }
def FnExactBestTestUptoSaid : Prop := fnExactBestTestUptoRow.holds Try.pinned (OpenSpec.upto fnExactBestTestSpec)

/-- 'laws.FnExactGrowSuite', WHERE WHAT IT READS IS OF BULK AT MOST 1048576: true; the input reads as it did. -/
def fnExactGrowSuiteUptoRow : OpenClaim := { program := "ytfhncfbgdjeloaa", sum := "3080d9c801823022e7a24f213f2f5afcb9323a351ef174a3bd2dad828c82710a", func := "loop.example/coveringtests/laws.FnExactGrowSuite", spec := "fnExactGrowSuite", unfollowed := true, recurses := true, plainKeys := false, apart := false, narrowed := true }
def FnExactGrowSuiteUptoSaid : Prop := fnExactGrowSuiteUptoRow.holds Try.pinned (OpenSpec.upto fnExactGrowSuiteSpec)

/-- 'laws.FnExactLeastTests', WHERE WHAT IT READS IS OF BULK AT MOST 1048576: true; the input reads as it did. -/
def fnExactLeastTestsUptoRow : OpenClaim := { program := "ytfhncfbgdjeloaa", sum := "3080d9c801823022e7a24f213f2f5afcb9323a351ef174a3bd2dad828c82710a", func := "loop.example/coveringtests/laws.FnExactLeastTests", spec := "fnExactLeastTests", unfollowed := true, recurses := true, plainKeys := false, apart := false, narrowed := true }
def FnExactLeastTestsUptoSaid : Prop := fnExactLeastTestsUptoRow.holds Try.pinned (OpenSpec.upto fnExactLeastTestsSpec)

/-- 'laws.FnExactFewestTests', WHERE WHAT IT READS IS OF BULK AT MOST 1048576: true; the input reads as it did. -/
def fnExactFewestTestsUptoRow : OpenClaim := { program := "ytfhncfbgdjeloaa", sum := "3080d9c801823022e7a24f213f2f5afcb9323a351ef174a3bd2dad828c82710a", func := "loop.example/coveringtests/laws.FnExactFewestTests", spec := "fnExactFewestTests", unfollowed := true, recurses := true, plainKeys := false, apart := false, narrowed := true }
def FnExactFewestTestsUptoSaid : Prop := fnExactFewestTestsUptoRow.holds Try.pinned (OpenSpec.upto fnExactFewestTestsSpec)

/-- 'laws.FnExactCrossSuites', WHERE WHAT IT READS IS OF BULK AT MOST 1048576: true; the input reads as it did. -/
def fnExactCrossSuitesUptoRow : OpenClaim := { program := "ytfhncfbgdjeloaa", sum := "3080d9c801823022e7a24f213f2f5afcb9323a351ef174a3bd2dad828c82710a", func := "loop.example/coveringtests/laws.FnExactCrossSuites", spec := "fnExactCrossSuites", plainKeys := false, apart := false, narrowed := true }
def FnExactCrossSuitesUptoSaid : Prop := fnExactCrossSuitesUptoRow.holds Try.pinned (OpenSpec.upto fnExactCrossSuitesSpec)

/-- 'laws.FnExactSquareSuite', WHERE WHAT IT READS IS OF BULK AT MOST 1048576: true; the input reads as it did. -/
def fnExactSquareSuiteUptoRow : OpenClaim := { program := "ytfhncfbgdjeloaa", sum := "3080d9c801823022e7a24f213f2f5afcb9323a351ef174a3bd2dad828c82710a", func := "loop.example/coveringtests/laws.FnExactSquareSuite", spec := "fnExactSquareSuite", plainKeys := false, apart := false, narrowed := true }
def FnExactSquareSuiteUptoSaid : Prop := fnExactSquareSuiteUptoRow.holds Try.pinned (OpenSpec.upto fnExactSquareSuiteSpec)

/-- 'laws.FnExactDropFactor', WHERE WHAT IT READS IS OF BULK AT MOST 1048576: true; the input reads as it did. -/
def fnExactDropFactorUptoRow : OpenClaim := { program := "ytfhncfbgdjeloaa", sum := "3080d9c801823022e7a24f213f2f5afcb9323a351ef174a3bd2dad828c82710a", func := "loop.example/coveringtests/laws.FnExactDropFactor", spec := "fnExactDropFactor", plainKeys := false, apart := false, narrowed := true }
def FnExactDropFactorUptoSaid : Prop := fnExactDropFactorUptoRow.holds Try.pinned (OpenSpec.upto fnExactDropFactorSpec)

/-- 'laws.FnExactFuseLevels', WHERE WHAT IT READS IS OF BULK AT MOST 1048576: true; the input reads as it did. -/
def fnExactFuseLevelsUptoRow : OpenClaim := { program := "ytfhncfbgdjeloaa", sum := "3080d9c801823022e7a24f213f2f5afcb9323a351ef174a3bd2dad828c82710a", func := "loop.example/coveringtests/laws.FnExactFuseLevels", spec := "fnExactFuseLevels", plainKeys := false, apart := false, narrowed := true }
def FnExactFuseLevelsUptoSaid : Prop := fnExactFuseLevelsUptoRow.holds Try.pinned (OpenSpec.upto fnExactFuseLevelsSpec)

/-- 'laws.FnExactAddFactor', WHERE WHAT IT READS IS OF BULK AT MOST 1048576: true; the input reads as it did. -/
def fnExactAddFactorUptoRow : OpenClaim := { program := "ytfhncfbgdjeloaa", sum := "3080d9c801823022e7a24f213f2f5afcb9323a351ef174a3bd2dad828c82710a", func := "loop.example/coveringtests/laws.FnExactAddFactor", spec := "fnExactAddFactor", unfollowed := true, recurses := true, plainKeys := false, apart := false, narrowed := true }
def FnExactAddFactorUptoSaid : Prop := fnExactAddFactorUptoRow.holds Try.pinned (OpenSpec.upto fnExactAddFactorSpec)

end Rows
end Go.Proofs.Ytfhncfbgdjeloaa
