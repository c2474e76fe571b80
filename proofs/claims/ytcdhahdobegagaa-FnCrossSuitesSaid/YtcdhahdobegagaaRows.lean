/-
  No cell of these rows narrows 'for every input' (looked for: loops, veiled, ifaces, maps, wideKeys, modest, calm, conditions, laid).
  DERIVED. THE GIVEN ROWS OF THIS SEAT. 14 by the template 'for every input the law returns true; each argument reads behind the call as it read before'; 0 by the template 'total and deterministic' (their statements: YtcdhahdobegagaaTotals.lean).
  GIVEN WITH THE SEED: the statements are not yours to turn. If you find one false, say at which input.
  Laid BY PROGRAM, IN A SANDBOX (cutbox-rows.mjs): the forced cells as the released guide's own fill.sh prints them over the translation 041818a20235cb83… (all of the seat's roots in one cut). By AI agents, Wed Nov 11 2026. No macro, syntax, notation, axiom, sorry.
-/
import Derived.Test.YtcdhahdobegagaaChecked
import GoSem.Claim
import GoSem.ClaimJoined
import GoSem.ClaimMapViews
import Derived.JoinedTies
import Derived.KernelRfl
namespace Go.Proofs.Ytcdhahdobegagaa
/- THE CELL 'sum', in the pinned program and in every row, IS THE sha256 OF THE DUMP (.gsa) THAT YtcdhahdobegagaaProg.lean LOADS. Nothing in Lean hashes anything: it is a label: what it is worth is what the hold of that sum in a sandbox is worth. -/
noncomputable def Try.pinned : Pinned := { name := "ytcdhahdobegagaa", sum := "041818a20235cb83651beae2abf0d646d5908f1f49d419e1ccc8371efebd946f", checked := Try.checked }
namespace Rows
def none {H : Type} : Left H := { results := [], args := [] }

/-- 'laws.FnIsCovering': WHATEVER THE INPUT: true; the input reads as it did. -/
def fnIsCoveringSpec : ChangeSpec := { name := "fnIsCovering", fn := fun _ => fun
  | [d] => { results := [.lit (.bool true)], args := [d] }
  | _ => none }
def fnIsCoveringRow : OpenClaim := { program := "ytcdhahdobegagaa", sum := "041818a20235cb83651beae2abf0d646d5908f1f49d419e1ccc8371efebd946f", func := "loop.example/coveringtests/laws.FnIsCovering", spec := "fnIsCovering", unfollowed := true, recurses := true, plainKeys := false, apart := false }
def FnIsCoveringSaid : Prop := fnIsCoveringRow.holds Try.pinned (OpenSpec.ofChange fnIsCoveringSpec)

/-- ITS FALSE NEIGHBOUR: 'it returns false'. Refute it at one input. -/
def fnIsCoveringWrong : ChangeSpec := { name := "fnIsCovering", fn := fun _ => fun
  | [d] => { results := [.lit (.bool false)], args := [d] }
  | _ => none }
def FnIsCoveringWrongFalsely : Prop := fnIsCoveringRow.holds Try.pinned (OpenSpec.ofChange fnIsCoveringWrong)

/-- 'laws.FnIsBalanced': WHATEVER THE INPUT: true; the input reads as it did. -/
def fnIsBalancedSpec : ChangeSpec := { name := "fnIsBalanced", fn := fun _ => fun
  | [d] => { results := [.lit (.bool true)], args := [d] }
  | _ => none }
def fnIsBalancedRow : OpenClaim := { program := "ytcdhahdobegagaa", sum := "041818a20235cb83651beae2abf0d646d5908f1f49d419e1ccc8371efebd946f", func := "loop.example/coveringtests/laws.FnIsBalanced", spec := "fnIsBalanced", recurses := true, plainKeys := false, apart := false }
def FnIsBalancedSaid : Prop := fnIsBalancedRow.holds Try.pinned (OpenSpec.ofChange fnIsBalancedSpec)

/-- ITS FALSE NEIGHBOUR: 'it returns false'. Refute it at one input. -/
def fnIsBalancedWrong : ChangeSpec := { name := "fnIsBalanced", fn := fun _ => fun
  | [d] => { results := [.lit (.bool false)], args := [d] }
  | _ => none }
def FnIsBalancedWrongFalsely : Prop := fnIsBalancedRow.holds Try.pinned (OpenSpec.ofChange fnIsBalancedWrong)

/-- 'laws.FnSpareTests': WHATEVER THE INPUT: true; the input reads as it did. -/
def fnSpareTestsSpec : ChangeSpec := { name := "fnSpareTests", fn := fun _ => fun
  | [d] => { results := [.lit (.bool true)], args := [d] }
  | _ => none }
def fnSpareTestsRow : OpenClaim := { program := "ytcdhahdobegagaa", sum := "041818a20235cb83651beae2abf0d646d5908f1f49d419e1ccc8371efebd946f", func := "loop.example/coveringtests/laws.FnSpareTests", spec := "fnSpareTests", recurses := true, plainKeys := false, apart := false }
def FnSpareTestsSaid : Prop := fnSpareTestsRow.holds Try.pinned (OpenSpec.ofChange fnSpareTestsSpec)

/-- ITS FALSE NEIGHBOUR: 'it returns false'. Refute it at one input. -/
def fnSpareTestsWrong : ChangeSpec := { name := "fnSpareTests", fn := fun _ => fun
  | [d] => { results := [.lit (.bool false)], args := [d] }
  | _ => none }
def FnSpareTestsWrongFalsely : Prop := fnSpareTestsRow.holds Try.pinned (OpenSpec.ofChange fnSpareTestsWrong)

/-- 'laws.FnTrimSuite': WHATEVER THE INPUT: true; the input reads as it did. -/
def fnTrimSuiteSpec : ChangeSpec := { name := "fnTrimSuite", fn := fun _ => fun
  | [d] => { results := [.lit (.bool true)], args := [d] }
  | _ => none }
def fnTrimSuiteRow : OpenClaim := { program := "ytcdhahdobegagaa", sum := "041818a20235cb83651beae2abf0d646d5908f1f49d419e1ccc8371efebd946f", func := "loop.example/coveringtests/laws.FnTrimSuite", spec := "fnTrimSuite", recurses := true, plainKeys := false, apart := false }
def FnTrimSuiteSaid : Prop := fnTrimSuiteRow.holds Try.pinned (OpenSpec.ofChange fnTrimSuiteSpec)

/-- ITS FALSE NEIGHBOUR: 'it returns false'. Refute it at one input. -/
def fnTrimSuiteWrong : ChangeSpec := { name := "fnTrimSuite", fn := fun _ => fun
  | [d] => { results := [.lit (.bool false)], args := [d] }
  | _ => none }
def FnTrimSuiteWrongFalsely : Prop := fnTrimSuiteRow.holds Try.pinned (OpenSpec.ofChange fnTrimSuiteWrong)

/-- 'laws.FnFreshOf': WHATEVER THE INPUT: true; the input reads as it did. -/
def fnFreshOfSpec : ChangeSpec := { name := "fnFreshOf", fn := fun _ => fun
  | [d] => { results := [.lit (.bool true)], args := [d] }
  | _ => none }
def fnFreshOfRow : OpenClaim := { program := "ytcdhahdobegagaa", sum := "041818a20235cb83651beae2abf0d646d5908f1f49d419e1ccc8371efebd946f", func := "loop.example/coveringtests/laws.FnFreshOf", spec := "fnFreshOf", recurses := true, plainKeys := false, apart := false }
def FnFreshOfSaid : Prop := fnFreshOfRow.holds Try.pinned (OpenSpec.ofChange fnFreshOfSpec)

/-- ITS FALSE NEIGHBOUR: 'it returns false'. Refute it at one input. -/
def fnFreshOfWrong : ChangeSpec := { name := "fnFreshOf", fn := fun _ => fun
  | [d] => { results := [.lit (.bool false)], args := [d] }
  | _ => none }
def FnFreshOfWrongFalsely : Prop := fnFreshOfRow.holds Try.pinned (OpenSpec.ofChange fnFreshOfWrong)

/-- 'laws.FnBestTest': WHATEVER THE INPUT: true; the input reads as it did. -/
def fnBestTestSpec : ChangeSpec := { name := "fnBestTest", fn := fun _ => fun
  | [d] => { results := [.lit (.bool true)], args := [d] }
  | _ => none }
def fnBestTestRow : OpenClaim := { program := "ytcdhahdobegagaa", sum := "041818a20235cb83651beae2abf0d646d5908f1f49d419e1ccc8371efebd946f", func := "loop.example/coveringtests/laws.FnBestTest", spec := "fnBestTest", unfollowed := true, recurses := true, plainKeys := false, apart := false }
def FnBestTestSaid : Prop := fnBestTestRow.holds Try.pinned (OpenSpec.ofChange fnBestTestSpec)

/-- ITS FALSE NEIGHBOUR: 'it returns false'. Refute it at one input. -/
def fnBestTestWrong : ChangeSpec := { name := "fnBestTest", fn := fun _ => fun
  | [d] => { results := [.lit (.bool false)], args := [d] }
  | _ => none }
def FnBestTestWrongFalsely : Prop := fnBestTestRow.holds Try.pinned (OpenSpec.ofChange fnBestTestWrong)

/-- 'laws.FnGrowSuite': WHATEVER THE INPUT: true; the input reads as it did. -/
def fnGrowSuiteSpec : ChangeSpec := { name := "fnGrowSuite", fn := fun _ => fun
  | [d] => { results := [.lit (.bool true)], args := [d] }
  | _ => none }
def fnGrowSuiteRow : OpenClaim := { program := "ytcdhahdobegagaa", sum := "041818a20235cb83651beae2abf0d646d5908f1f49d419e1ccc8371efebd946f", func := "loop.example/coveringtests/laws.FnGrowSuite", spec := "fnGrowSuite", unfollowed := true, recurses := true, plainKeys := false, apart := false }
def FnGrowSuiteSaid : Prop := fnGrowSuiteRow.holds Try.pinned (OpenSpec.ofChange fnGrowSuiteSpec)

/-- ITS FALSE NEIGHBOUR: 'it returns false'. Refute it at one input. -/
def fnGrowSuiteWrong : ChangeSpec := { name := "fnGrowSuite", fn := fun _ => fun
  | [d] => { results := [.lit (.bool false)], args := [d] }
  | _ => none }
def FnGrowSuiteWrongFalsely : Prop := fnGrowSuiteRow.holds Try.pinned (OpenSpec.ofChange fnGrowSuiteWrong)

/-- 'laws.FnLeastTests': WHATEVER THE INPUT: true; the input reads as it did. -/
def fnLeastTestsSpec : ChangeSpec := { name := "fnLeastTests", fn := fun _ => fun
  | [d] => { results := [.lit (.bool true)], args := [d] }
  | _ => none }
def fnLeastTestsRow : OpenClaim := { program := "ytcdhahdobegagaa", sum := "041818a20235cb83651beae2abf0d646d5908f1f49d419e1ccc8371efebd946f", func := "loop.example/coveringtests/laws.FnLeastTests", spec := "fnLeastTests", unfollowed := true, recurses := true, plainKeys := false, apart := false }
def FnLeastTestsSaid : Prop := fnLeastTestsRow.holds Try.pinned (OpenSpec.ofChange fnLeastTestsSpec)

/-- ITS FALSE NEIGHBOUR: 'it returns false'. Refute it at one input. -/
def fnLeastTestsWrong : ChangeSpec := { name := "fnLeastTests", fn := fun _ => fun
  | [d] => { results := [.lit (.bool false)], args := [d] }
  | _ => none }
def FnLeastTestsWrongFalsely : Prop := fnLeastTestsRow.holds Try.pinned (OpenSpec.ofChange fnLeastTestsWrong)

/-- 'laws.FnFewestTests': WHATEVER THE INPUT: true; the input reads as it did. -/
def fnFewestTestsSpec : ChangeSpec := { name := "fnFewestTests", fn := fun _ => fun
  | [d] => { results := [.lit (.bool true)], args := [d] }
  | _ => none }
def fnFewestTestsRow : OpenClaim := { program := "ytcdhahdobegagaa", sum := "041818a20235cb83651beae2abf0d646d5908f1f49d419e1ccc8371efebd946f", func := "loop.example/coveringtests/laws.FnFewestTests", spec := "fnFewestTests", unfollowed := true, recurses := true, plainKeys := false, apart := false }
def FnFewestTestsSaid : Prop := fnFewestTestsRow.holds Try.pinned (OpenSpec.ofChange fnFewestTestsSpec)

/-- ITS FALSE NEIGHBOUR: 'it returns false'. Refute it at one input. -/
def fnFewestTestsWrong : ChangeSpec := { name := "fnFewestTests", fn := fun _ => fun
  | [d] => { results := [.lit (.bool false)], args := [d] }
  | _ => none }
def FnFewestTestsWrongFalsely : Prop := fnFewestTestsRow.holds Try.pinned (OpenSpec.ofChange fnFewestTestsWrong)

/-- 'laws.FnCrossSuites': WHATEVER THE INPUT: true; the input reads as it did. -/
def fnCrossSuitesSpec : ChangeSpec := { name := "fnCrossSuites", fn := fun _ => fun
  | [d] => { results := [.lit (.bool true)], args := [d] }
  | _ => none }
def fnCrossSuitesRow : OpenClaim := { program := "ytcdhahdobegagaa", sum := "041818a20235cb83651beae2abf0d646d5908f1f49d419e1ccc8371efebd946f", func := "loop.example/coveringtests/laws.FnCrossSuites", spec := "fnCrossSuites", recurses := true, plainKeys := false, apart := false }
def FnCrossSuitesSaid : Prop := fnCrossSuitesRow.holds Try.pinned (OpenSpec.ofChange fnCrossSuitesSpec)

/-- ITS FALSE NEIGHBOUR: 'it returns false'. Refute it at one input. -/
def fnCrossSuitesWrong : ChangeSpec := { name := "fnCrossSuites", fn := fun _ => fun
  | [d] => { results := [.lit (.bool false)], args := [d] }
  | _ => none }
def FnCrossSuitesWrongFalsely : Prop := fnCrossSuitesRow.holds Try.pinned (OpenSpec.ofChange fnCrossSuitesWrong)

/-- 'laws.FnSquareSuite': WHATEVER THE INPUT: true; the input reads as it did. -/
def fnSquareSuiteSpec : ChangeSpec := { name := "fnSquareSuite", fn := fun _ => fun
  | [d] => { results := [.lit (.bool true)], args := [d] }
  | _ => none }
def fnSquareSuiteRow : OpenClaim := { program := "ytcdhahdobegagaa", sum := "041818a20235cb83651beae2abf0d646d5908f1f49d419e1ccc8371efebd946f", func := "loop.example/coveringtests/laws.FnSquareSuite", spec := "fnSquareSuite", recurses := true, plainKeys := false, apart := false }
def FnSquareSuiteSaid : Prop := fnSquareSuiteRow.holds Try.pinned (OpenSpec.ofChange fnSquareSuiteSpec)

/-- ITS FALSE NEIGHBOUR: 'it returns false'. Refute it at one input. -/
def fnSquareSuiteWrong : ChangeSpec := { name := "fnSquareSuite", fn := fun _ => fun
  | [d] => { results := [.lit (.bool false)], args := [d] }
  | _ => none }
def FnSquareSuiteWrongFalsely : Prop := fnSquareSuiteRow.holds Try.pinned (OpenSpec.ofChange fnSquareSuiteWrong)

/-- 'laws.FnDropFactor': WHATEVER THE INPUT: true; the input reads as it did. -/
def fnDropFactorSpec : ChangeSpec := { name := "fnDropFactor", fn := fun _ => fun
  | [d] => { results := [.lit (.bool true)], args := [d] }
  | _ => none }
def fnDropFactorRow : OpenClaim := { program := "ytcdhahdobegagaa", sum := "041818a20235cb83651beae2abf0d646d5908f1f49d419e1ccc8371efebd946f", func := "loop.example/coveringtests/laws.FnDropFactor", spec := "fnDropFactor", recurses := true, plainKeys := false, apart := false }
def FnDropFactorSaid : Prop := fnDropFactorRow.holds Try.pinned (OpenSpec.ofChange fnDropFactorSpec)

/-- ITS FALSE NEIGHBOUR: 'it returns false'. Refute it at one input. -/
def fnDropFactorWrong : ChangeSpec := { name := "fnDropFactor", fn := fun _ => fun
  | [d] => { results := [.lit (.bool false)], args := [d] }
  | _ => none }
def FnDropFactorWrongFalsely : Prop := fnDropFactorRow.holds Try.pinned (OpenSpec.ofChange fnDropFactorWrong)

/-- 'laws.FnFuseLevels': WHATEVER THE INPUT: true; the input reads as it did. -/
def fnFuseLevelsSpec : ChangeSpec := { name := "fnFuseLevels", fn := fun _ => fun
  | [d] => { results := [.lit (.bool true)], args := [d] }
  | _ => none }
def fnFuseLevelsRow : OpenClaim := { program := "ytcdhahdobegagaa", sum := "041818a20235cb83651beae2abf0d646d5908f1f49d419e1ccc8371efebd946f", func := "loop.example/coveringtests/laws.FnFuseLevels", spec := "fnFuseLevels", recurses := true, plainKeys := false, apart := false }
def FnFuseLevelsSaid : Prop := fnFuseLevelsRow.holds Try.pinned (OpenSpec.ofChange fnFuseLevelsSpec)

/-- ITS FALSE NEIGHBOUR: 'it returns false'. Refute it at one input. -/
def fnFuseLevelsWrong : ChangeSpec := { name := "fnFuseLevels", fn := fun _ => fun
  | [d] => { results := [.lit (.bool false)], args := [d] }
  | _ => none }
def FnFuseLevelsWrongFalsely : Prop := fnFuseLevelsRow.holds Try.pinned (OpenSpec.ofChange fnFuseLevelsWrong)

/-- 'laws.FnAddFactor': WHATEVER THE INPUT: true; the input reads as it did. -/
def fnAddFactorSpec : ChangeSpec := { name := "fnAddFactor", fn := fun _ => fun
  | [d] => { results := [.lit (.bool true)], args := [d] }
  | _ => none }
def fnAddFactorRow : OpenClaim := { program := "ytcdhahdobegagaa", sum := "041818a20235cb83651beae2abf0d646d5908f1f49d419e1ccc8371efebd946f", func := "loop.example/coveringtests/laws.FnAddFactor", spec := "fnAddFactor", unfollowed := true, recurses := true, plainKeys := false, apart := false }
def FnAddFactorSaid : Prop := fnAddFactorRow.holds Try.pinned (OpenSpec.ofChange fnAddFactorSpec)

/-- ITS FALSE NEIGHBOUR: 'it returns false'. Refute it at one input. -/
def fnAddFactorWrong : ChangeSpec := { name := "fnAddFactor", fn := fun _ => fun
  | [d] => { results := [.lit (.bool false)], args := [d] }
  | _ => none }
def FnAddFactorWrongFalsely : Prop := fnAddFactorRow.holds Try.pinned (OpenSpec.ofChange fnAddFactorWrong)

/- THE SECOND FORM. 'bulk': how many values and letters a reading holds, each counted each time it is reached (what is shared counts as often as it is met; a slice's spare places count too). A statement '..UptoSaid' is the law's where the arguments, and the package variables that the reading takes, are together of bulk at most 1048576: NARROWER than '..Said'. Prove '..Said' where nothing that the law and all that it calls make is longer than what came in: it says more and counts as full. Else prove '..UptoSaid'. A law counts once. -/
mutual
def uptoBulk {H : Type} : DataW H → Nat
  | .lit (.string bytes) => bytes.length + 1
  | .lit _ => 1
  | .nil => 1
  | .ptr d => uptoBulk d + 1
  | .slice elems spare => uptoBulkAll elems + uptoBulkAll spare + 1
  | .agg parts => uptoBulkAll parts + 1
  | .iface _ d => uptoBulk d + 1
  | .map entries => uptoBulkEntries entries + 1
  | .held _ => 1
def uptoBulkAll {H : Type} : List (DataW H) → Nat
  | [] => 0
  | d :: r => uptoBulk d + uptoBulkAll r
def uptoBulkEntries {H : Type} : List (Lit × DataW H) → Nat
  | [] => 0
  | x :: r => uptoBulkEntry x + uptoBulkEntries r
def uptoBulkEntry {H : Type} : Lit × DataW H → Nat
  | (.string bytes, d) => bytes.length + uptoBulk d + 1
  | (_, d) => uptoBulk d + 1
 end
def uptoSmall : (H : Type) → List (DataW H) → Bool := fun _ ds => decide (uptoBulkAll ds ≤ 1048576)
def OpenSpec.upto (s : _root_.Go.ChangeSpec) : _root_.Go.OpenSpec := { _root_.Go.OpenSpec.ofChange s with cond := some uptoSmall }

/-- 'laws.FnIsCovering', WHERE WHAT IT READS IS OF BULK AT MOST 1048576: true; the input reads as it did. -/
def fnIsCoveringUptoRow : OpenClaim := { program := "ytcdhahdobegagaa", sum := "041818a20235cb83651beae2abf0d646d5908f1f49d419e1ccc8371efebd946f", func := "loop.example/coveringtests/laws.FnIsCovering", spec := "fnIsCovering", unfollowed := true, recurses := true, plainKeys := false, apart := false, narrowed := true }
def FnIsCoveringUptoSaid : Prop := fnIsCoveringUptoRow.holds Try.pinned (OpenSpec.upto fnIsCoveringSpec)

/-- 'laws.FnIsBalanced', WHERE WHAT IT READS IS OF BULK AT MOST 1048576: true; the input reads as it did. -/
def fnIsBalancedUptoRow : OpenClaim := { program := "ytcdhahdobegagaa", sum := "041818a20235cb83651beae2abf0d646d5908f1f49d419e1ccc8371efebd946f", func := "loop.example/coveringtests/laws.FnIsBalanced", spec := "fnIsBalanced", recurses := true, plainKeys := false, apart := false, narrowed := true }
def FnIsBalancedUptoSaid : Prop := fnIsBalancedUptoRow.holds Try.pinned (OpenSpec.upto fnIsBalancedSpec)

/-- 'laws.FnSpareTests', WHERE WHAT IT READS IS OF BULK AT MOST 1048576: true; the input reads as it did. -/
def fnSpareTestsUptoRow : OpenClaim := { program := "ytcdhahdobegagaa", sum := "041818a20235cb83651beae2abf0d646d5908f1f49d419e1ccc8371efebd946f", func := "loop.example/coveringtests/laws.FnSpareTests", spec := "fnSpareTests", recurses := true, plainKeys := false, apart := false, narrowed := true }
def FnSpareTestsUptoSaid : Prop := fnSpareTestsUptoRow.holds Try.pinned (OpenSpec.upto fnSpareTestsSpec)

/-- 'laws.FnTrimSuite', WHERE WHAT IT READS IS OF BULK AT MOST 1048576: true; the input reads as it did. -/
def fnTrimSuiteUptoRow : OpenClaim := { program := "ytcdhahdobegagaa", sum := "041818a20235cb83651beae2abf0d646d5908f1f49d419e1ccc8371efebd946f", func := "loop.example/coveringtests/laws.FnTrimSuite", spec := "fnTrimSuite", recurses := true, plainKeys := false, apart := false, narrowed := true }
def FnTrimSuiteUptoSaid : Prop := fnTrimSuiteUptoRow.holds Try.pinned (OpenSpec.upto fnTrimSuiteSpec)

/-- 'laws.FnFreshOf', WHERE WHAT IT READS IS OF BULK AT MOST 1048576: true; the input reads as it did. -/
def fnFreshOfUptoRow : OpenClaim := { program := "ytcdhahdobegagaa", sum := "041818a20235cb83651beae2abf0d646d5908f1f49d419e1ccc8371efebd946f", func := "loop.example/coveringtests/laws.FnFreshOf", spec := "fnFreshOf", recurses := true, plainKeys := false, apart := false, narrowed := true }
def FnFreshOfUptoSaid : Prop := fnFreshOfUptoRow.holds Try.pinned (OpenSpec.upto fnFreshOfSpec)

/-- 'laws.FnBestTest', WHERE WHAT IT READS IS OF BULK AT MOST 1048576: true; the input reads as it did. -/
def fnBestTestUptoRow : OpenClaim := { program := "ytcdhahdobegagaa", sum := "041818a20235cb83651beae2abf0d646d5908f1f49d419e1ccc8371efebd946f", func := "loop.example/coveringtests/laws.FnBestTest", spec := "fnBestTest", unfollowed := true, recurses := true, plainKeys := false, apart := false, narrowed := true }
def FnBestTestUptoSaid : Prop := fnBestTestUptoRow.holds Try.pinned (OpenSpec.upto fnBestTestSpec)

/-- 'laws.FnGrowSuite', WHERE WHAT IT READS IS OF BULK AT MOST 1048576: true; the input reads as it did. -/
def fnGrowSuiteUptoRow : OpenClaim := { program := "ytcdhahdobegagaa", sum := "041818a20235cb83651beae2abf0d646d5908f1f49d419e1ccc8371efebd946f", func := "loop.example/coveringtests/laws.FnGrowSuite", spec := "fnGrowSuite", unfollowed := true, recurses := true, plainKeys := false, apart := false, narrowed := true }
def FnGrowSuiteUptoSaid : Prop := fnGrowSuiteUptoRow.holds Try.pinned (OpenSpec.upto fnGrowSuiteSpec)

/-- 'laws.FnLeastTests', WHERE WHAT IT READS IS OF BULK AT MOST 1048576: true; the input reads as it did. -/
def fnLeastTestsUptoRow : OpenClaim := { program := "ytcdhahdobegagaa", sum := "041818a20235cb83651beae2abf0d646d5908f1f49d419e1ccc8371efebd946f", func := "loop.example/coveringtests/laws.FnLeastTests", spec := "fnLeastTests", unfollowed := true, recurses := true, plainKeys := false, apart := false, narrowed := true }
def FnLeastTestsUptoSaid : Prop := fnLeastTestsUptoRow.holds Try.pinned (OpenSpec.upto fnLeastTestsSpec)

/-- 'laws.FnFewestTests', WHERE WHAT IT READS IS OF BULK AT MOST 1048576: true; the input reads as it did. -/
def fnFewestTestsUptoRow : OpenClaim := { program := "ytcdhahdobegagaa", sum := "041818a20235cb83651beae2abf0d646d5908f1f49d419e1ccc8371efebd946f", func := "loop.example/coveringtests/laws.FnFewestTests", spec := "fnFewestTests", unfollowed := true, recurses := true, plainKeys := false, apart := false, narrowed := true }
def FnFewestTestsUptoSaid : Prop := fnFewestTestsUptoRow.holds Try.pinned (OpenSpec.upto fnFewestTestsSpec)

/-- 'laws.FnCrossSuites', WHERE WHAT IT READS IS OF BULK AT MOST 1048576: true; the input reads as it did. -/
def fnCrossSuitesUptoRow : OpenClaim := { program := "ytcdhahdobegagaa", sum := "041818a20235cb83651beae2abf0d646d5908f1f49d419e1ccc8371efebd946f", func := "loop.example/coveringtests/laws.FnCrossSuites", spec := "fnCrossSuites", recurses := true, plainKeys := false, apart := false, narrowed := true }
def FnCrossSuitesUptoSaid : Prop := fnCrossSuitesUptoRow.holds Try.pinned (OpenSpec.upto fnCrossSuitesSpec)

/-- 'laws.FnSquareSuite', WHERE WHAT IT READS IS OF BULK AT MOST 1048576: true; the input reads as it did. -/
def fnSquareSuiteUptoRow : OpenClaim := { program := "ytcdhahdobegagaa", sum := "041818a20235cb83651beae2abf0d646d5908f1f49d419e1ccc8371efebd946f", func := "loop.example/coveringtests/laws.FnSquareSuite", spec := "fnSquareSuite", recurses := true, plainKeys := false, apart := false, narrowed := true }
def FnSquareSuiteUptoSaid : Prop := fnSquareSuiteUptoRow.holds Try.pinned (OpenSpec.upto fnSquareSuiteSpec)

/-- 'laws.FnDropFactor', WHERE WHAT IT READS IS OF BULK AT MOST 1048576: true; the input reads as it did. -/
def fnDropFactorUptoRow : OpenClaim := { program := "ytcdhahdobegagaa", sum := "041818a20235cb83651beae2abf0d646d5908f1f49d419e1ccc8371efebd946f", func := "loop.example/coveringtests/laws.FnDropFactor", spec := "fnDropFactor", recurses := true, plainKeys := false, apart := false, narrowed := true }
def FnDropFactorUptoSaid : Prop := fnDropFactorUptoRow.holds Try.pinned (OpenSpec.upto fnDropFactorSpec)

/-- 'laws.FnFuseLevels', WHERE WHAT IT READS IS OF BULK AT MOST 1048576: true; the input reads as it did. -/
def fnFuseLevelsUptoRow : OpenClaim := { program := "ytcdhahdobegagaa", sum := "041818a20235cb83651beae2abf0d646d5908f1f49d419e1ccc8371efebd946f", func := "loop.example/coveringtests/laws.FnFuseLevels", spec := "fnFuseLevels", recurses := true, plainKeys := false, apart := false, narrowed := true }
def FnFuseLevelsUptoSaid : Prop := fnFuseLevelsUptoRow.holds Try.pinned (OpenSpec.upto fnFuseLevelsSpec)

/-- 'laws.FnAddFactor', WHERE WHAT IT READS IS OF BULK AT MOST 1048576: true; the input reads as it did. -/
def fnAddFactorUptoRow : OpenClaim := { program := "ytcdhahdobegagaa", sum := "041818a20235cb83651beae2abf0d646d5908f1f49d419e1ccc8371efebd946f", func := "loop.example/coveringtests/laws.FnAddFactor", spec := "fnAddFactor", unfollowed := true, recurses := true, plainKeys := false, apart := false, narrowed := true }
def FnAddFactorUptoSaid : Prop := fnAddFactorUptoRow.holds Try.pinned (OpenSpec.upto fnAddFactorSpec)

end Rows
end Go.Proofs.Ytcdhahdobegagaa
