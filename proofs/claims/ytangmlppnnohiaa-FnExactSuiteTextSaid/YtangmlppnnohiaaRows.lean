/-
  No cell of these rows narrows 'for every input' (looked for: loops, veiled, ifaces, maps, wideKeys, modest, calm, conditions, laid).
  DERIVED. THE GIVEN ROWS OF THIS SEAT. 9 by the template 'for every input the law returns true; each argument reads behind the call as it read before'; 0 by the template 'total and deterministic' (their statements: YtangmlppnnohiaaTotals.lean).
  GIVEN WITH THE SEED: the statements are not yours to turn. If you find one false, say at which input.
  Laid BY PROGRAM, IN A SANDBOX (cutbox-rows.mjs): the forced cells as the released guide's own fill.sh prints them over the translation 9499c1d164044442… (all of the seat's roots in one cut). By AI agents, Wed Nov 11 2026. No macro, syntax, notation, axiom, sorry.
-/
import Derived.Test.YtangmlppnnohiaaChecked
import GoSem.Claim
import GoSem.ClaimJoined
import GoSem.ClaimMapViews
import Derived.JoinedTies
import Derived.KernelRfl
namespace Go.Proofs.Ytangmlppnnohiaa
/- THE CELL 'sum', in the pinned program and in every row, IS THE sha256 OF THE DUMP (.gsa) THAT YtangmlppnnohiaaProg.lean LOADS. Nothing in Lean hashes anything: it is a label: what it is worth is what the hold of that sum in a sandbox is worth. -/
noncomputable def Try.pinned : Pinned := { name := "ytangmlppnnohiaa", sum := "9499c1d1640444422bde3b5ceace1ce2b0b086dad14a4dcb87868a1d144d4d5e", checked := Try.checked }
namespace Rows
def none {H : Type} : Left H := { results := [], args := [] }

/-- 'laws.FnExactValidRuns': WHATEVER THE INPUT: true; the input reads as it did. -/
def fnExactValidRunsSpec : ChangeSpec := { name := "fnExactValidRuns", fn := fun _ => fun
  | [d1, d2] => { results := [.lit (.bool true)], args := [d1, d2] }
  | _ => none }
def fnExactValidRunsRow : OpenClaim := { program := "ytangmlppnnohiaa", sum := "9499c1d1640444422bde3b5ceace1ce2b0b086dad14a4dcb87868a1d144d4d5e", func := "loop.example/coveringtests/laws.FnExactValidRuns", spec := "fnExactValidRuns", apart := false }
def FnExactValidRunsSaid : Prop := fnExactValidRunsRow.holds Try.pinned (OpenSpec.ofChange fnExactValidRunsSpec)

/-- ITS FALSE NEIGHBOUR: 'it returns false'. Refute it at one input. -/
def fnExactValidRunsWrong : ChangeSpec := { name := "fnExactValidRuns", fn := fun _ => fun
  | [d1, d2] => { results := [.lit (.bool false)], args := [d1, d2] }
  | _ => none }
def FnExactValidRunsWrongFalsely : Prop := fnExactValidRunsRow.holds Try.pinned (OpenSpec.ofChange fnExactValidRunsWrong)

/-- 'laws.FnExactAllLists': WHATEVER THE INPUT: true; the input reads as it did. -/
def fnExactAllListsSpec : ChangeSpec := { name := "fnExactAllLists", fn := fun _ => fun
  | [d1, d2] => { results := [.lit (.bool true)], args := [d1, d2] }
  | _ => none }
def fnExactAllListsRow : OpenClaim := { program := "ytangmlppnnohiaa", sum := "9499c1d1640444422bde3b5ceace1ce2b0b086dad14a4dcb87868a1d144d4d5e", func := "loop.example/coveringtests/laws.FnExactAllLists", spec := "fnExactAllLists", unfollowed := true, recurses := true, apart := false }
def FnExactAllListsSaid : Prop := fnExactAllListsRow.holds Try.pinned (OpenSpec.ofChange fnExactAllListsSpec)

/-- ITS FALSE NEIGHBOUR: 'it returns false'. Refute it at one input. -/
def fnExactAllListsWrong : ChangeSpec := { name := "fnExactAllLists", fn := fun _ => fun
  | [d1, d2] => { results := [.lit (.bool false)], args := [d1, d2] }
  | _ => none }
def FnExactAllListsWrongFalsely : Prop := fnExactAllListsRow.holds Try.pinned (OpenSpec.ofChange fnExactAllListsWrong)

/-- 'laws.FnExactShows': WHATEVER THE INPUT: true; the input reads as it did. -/
def fnExactShowsSpec : ChangeSpec := { name := "fnExactShows", fn := fun _ => fun
  | [d1, d2, d3] => { results := [.lit (.bool true)], args := [d1, d2, d3] }
  | _ => none }
def fnExactShowsRow : OpenClaim := { program := "ytangmlppnnohiaa", sum := "9499c1d1640444422bde3b5ceace1ce2b0b086dad14a4dcb87868a1d144d4d5e", func := "loop.example/coveringtests/laws.FnExactShows", spec := "fnExactShows", unfollowed := true, recurses := true, apart := false }
def FnExactShowsSaid : Prop := fnExactShowsRow.holds Try.pinned (OpenSpec.ofChange fnExactShowsSpec)

/-- ITS FALSE NEIGHBOUR: 'it returns false'. Refute it at one input. -/
def fnExactShowsWrong : ChangeSpec := { name := "fnExactShows", fn := fun _ => fun
  | [d1, d2, d3] => { results := [.lit (.bool false)], args := [d1, d2, d3] }
  | _ => none }
def FnExactShowsWrongFalsely : Prop := fnExactShowsRow.holds Try.pinned (OpenSpec.ofChange fnExactShowsWrong)

/-- 'laws.FnExactUnseenOf': WHATEVER THE INPUT: true; the input reads as it did. -/
def fnExactUnseenOfSpec : ChangeSpec := { name := "fnExactUnseenOf", fn := fun _ => fun
  | [d1, d2, d3] => { results := [.lit (.bool true)], args := [d1, d2, d3] }
  | _ => none }
def fnExactUnseenOfRow : OpenClaim := { program := "ytangmlppnnohiaa", sum := "9499c1d1640444422bde3b5ceace1ce2b0b086dad14a4dcb87868a1d144d4d5e", func := "loop.example/coveringtests/laws.FnExactUnseenOf", spec := "fnExactUnseenOf", unfollowed := true, recurses := true, apart := false }
def FnExactUnseenOfSaid : Prop := fnExactUnseenOfRow.holds Try.pinned (OpenSpec.ofChange fnExactUnseenOfSpec)

/-- ITS FALSE NEIGHBOUR: 'it returns false'. Refute it at one input. -/
def fnExactUnseenOfWrong : ChangeSpec := { name := "fnExactUnseenOf", fn := fun _ => fun
  | [d1, d2, d3] => { results := [.lit (.bool false)], args := [d1, d2, d3] }
  | _ => none }
def FnExactUnseenOfWrongFalsely : Prop := fnExactUnseenOfRow.holds Try.pinned (OpenSpec.ofChange fnExactUnseenOfWrong)

/-- 'laws.FnExactIsOrdering': WHATEVER THE INPUT: true; the input reads as it did. -/
def fnExactIsOrderingSpec : ChangeSpec := { name := "fnExactIsOrdering", fn := fun _ => fun
  | [d1, d2, d3] => { results := [.lit (.bool true)], args := [d1, d2, d3] }
  | _ => none }
def fnExactIsOrderingRow : OpenClaim := { program := "ytangmlppnnohiaa", sum := "9499c1d1640444422bde3b5ceace1ce2b0b086dad14a4dcb87868a1d144d4d5e", func := "loop.example/coveringtests/laws.FnExactIsOrdering", spec := "fnExactIsOrdering", unfollowed := true, recurses := true, apart := false }
def FnExactIsOrderingSaid : Prop := fnExactIsOrderingRow.holds Try.pinned (OpenSpec.ofChange fnExactIsOrderingSpec)

/-- ITS FALSE NEIGHBOUR: 'it returns false'. Refute it at one input. -/
def fnExactIsOrderingWrong : ChangeSpec := { name := "fnExactIsOrdering", fn := fun _ => fun
  | [d1, d2, d3] => { results := [.lit (.bool false)], args := [d1, d2, d3] }
  | _ => none }
def FnExactIsOrderingWrongFalsely : Prop := fnExactIsOrderingRow.holds Try.pinned (OpenSpec.ofChange fnExactIsOrderingWrong)

/-- 'laws.FnExactTurnRuns': WHATEVER THE INPUT: true; the input reads as it did. -/
def fnExactTurnRunsSpec : ChangeSpec := { name := "fnExactTurnRuns", fn := fun _ => fun
  | [d1, d2] => { results := [.lit (.bool true)], args := [d1, d2] }
  | _ => none }
def fnExactTurnRunsRow : OpenClaim := { program := "ytangmlppnnohiaa", sum := "9499c1d1640444422bde3b5ceace1ce2b0b086dad14a4dcb87868a1d144d4d5e", func := "loop.example/coveringtests/laws.FnExactTurnRuns", spec := "fnExactTurnRuns", apart := false }
def FnExactTurnRunsSaid : Prop := fnExactTurnRunsRow.holds Try.pinned (OpenSpec.ofChange fnExactTurnRunsSpec)

/-- ITS FALSE NEIGHBOUR: 'it returns false'. Refute it at one input. -/
def fnExactTurnRunsWrong : ChangeSpec := { name := "fnExactTurnRuns", fn := fun _ => fun
  | [d1, d2] => { results := [.lit (.bool false)], args := [d1, d2] }
  | _ => none }
def FnExactTurnRunsWrongFalsely : Prop := fnExactTurnRunsRow.holds Try.pinned (OpenSpec.ofChange fnExactTurnRunsWrong)

/-- 'laws.FnExactGrowRuns': WHATEVER THE INPUT: true; the input reads as it did. -/
def fnExactGrowRunsSpec : ChangeSpec := { name := "fnExactGrowRuns", fn := fun _ => fun
  | [d1, d2] => { results := [.lit (.bool true)], args := [d1, d2] }
  | _ => none }
def fnExactGrowRunsRow : OpenClaim := { program := "ytangmlppnnohiaa", sum := "9499c1d1640444422bde3b5ceace1ce2b0b086dad14a4dcb87868a1d144d4d5e", func := "loop.example/coveringtests/laws.FnExactGrowRuns", spec := "fnExactGrowRuns", unfollowed := true, recurses := true, apart := false }
def FnExactGrowRunsSaid : Prop := fnExactGrowRunsRow.holds Try.pinned (OpenSpec.ofChange fnExactGrowRunsSpec)

/-- ITS FALSE NEIGHBOUR: 'it returns false'. Refute it at one input. -/
def fnExactGrowRunsWrong : ChangeSpec := { name := "fnExactGrowRuns", fn := fun _ => fun
  | [d1, d2] => { results := [.lit (.bool false)], args := [d1, d2] }
  | _ => none }
def FnExactGrowRunsWrongFalsely : Prop := fnExactGrowRunsRow.holds Try.pinned (OpenSpec.ofChange fnExactGrowRunsWrong)

/-- 'laws.FnExactDropEvent': WHATEVER THE INPUT: true; the input reads as it did. -/
def fnExactDropEventSpec : ChangeSpec := { name := "fnExactDropEvent", fn := fun _ => fun
  | [d1, d2, d3] => { results := [.lit (.bool true)], args := [d1, d2, d3] }
  | _ => none }
def fnExactDropEventRow : OpenClaim := { program := "ytangmlppnnohiaa", sum := "9499c1d1640444422bde3b5ceace1ce2b0b086dad14a4dcb87868a1d144d4d5e", func := "loop.example/coveringtests/laws.FnExactDropEvent", spec := "fnExactDropEvent", apart := false }
def FnExactDropEventSaid : Prop := fnExactDropEventRow.holds Try.pinned (OpenSpec.ofChange fnExactDropEventSpec)

/-- ITS FALSE NEIGHBOUR: 'it returns false'. Refute it at one input. -/
def fnExactDropEventWrong : ChangeSpec := { name := "fnExactDropEvent", fn := fun _ => fun
  | [d1, d2, d3] => { results := [.lit (.bool false)], args := [d1, d2, d3] }
  | _ => none }
def FnExactDropEventWrongFalsely : Prop := fnExactDropEventRow.holds Try.pinned (OpenSpec.ofChange fnExactDropEventWrong)

/-- 'laws.FnExactSuiteText': WHATEVER THE INPUT: true; the input reads as it did. -/
def fnExactSuiteTextSpec : ChangeSpec := { name := "fnExactSuiteText", fn := fun _ => fun
  | [d1, d2] => { results := [.lit (.bool true)], args := [d1, d2] }
  | _ => none }
def fnExactSuiteTextRow : OpenClaim := { program := "ytangmlppnnohiaa", sum := "9499c1d1640444422bde3b5ceace1ce2b0b086dad14a4dcb87868a1d144d4d5e", func := "loop.example/coveringtests/laws.FnExactSuiteText", spec := "fnExactSuiteText", inPlace := ["internal/abi.NoEscape", "internal/bytealg.MakeNoZero"], apart := false }
def FnExactSuiteTextSaid : Prop := fnExactSuiteTextRow.holds Try.pinned (OpenSpec.ofChange fnExactSuiteTextSpec)

/-- ITS FALSE NEIGHBOUR: 'it returns false'. Refute it at one input. -/
def fnExactSuiteTextWrong : ChangeSpec := { name := "fnExactSuiteText", fn := fun _ => fun
  | [d1, d2] => { results := [.lit (.bool false)], args := [d1, d2] }
  | _ => none }
def FnExactSuiteTextWrongFalsely : Prop := fnExactSuiteTextRow.holds Try.pinned (OpenSpec.ofChange fnExactSuiteTextWrong)

/- THE SECOND FORM. 'bulk': how many values and letters a reading holds, each counted each time it is reached (what is shared counts as often as it is met; a slice's spare places count too). A statement '..UptoSaid' is the law's where the arguments, and the package variables that the reading takes, are together of bulk at most 1048576: NARROWER than '..Said'. Prove '..Said' where nothing that the law and all that it calls make is longer than what came in: it says more and counts as full. Else prove '..UptoSaid'. A law counts once. -/
mutual
def uptoBulk {H : Type} : DataW H → Nat
  | .lit (.string bytes) => bytes.length + 1
  | .lit _ => 1
  | .nil => 1
  | .ptr d => uptoBulk d + 1
  | .slice elems spare => uptoBulkAll elems + uptoBulkAll spare + 1
  | .agg parts => uptoBulkAll parts + 1
  | .iface _ d => uptoBulk d + 1
  | .map entries => uptoBulkEntries entries + 1
  | .held _ => 1
def uptoBulkAll {H : Type} : List (DataW H) → Nat
  | [] => 0
  | d :: r => uptoBulk d + uptoBulkAll r
def uptoBulkEntries {H : Type} : List (Lit × DataW H) → Nat
  | [] => 0
  | x :: r => uptoBulkEntry x + uptoBulkEntries r
def uptoBulkEntry {H : Type} : Lit × DataW H → Nat
  | (.string bytes, d) => bytes.length + uptoBulk d + 1
  | (_, d) => uptoBulk d + 1
 end
def uptoSmall : (H : Type) → List (DataW H) → Bool := fun _ ds => decide (uptoBulkAll ds ≤ 1048576)
def OpenSpec.upto (s : _root_.Go.ChangeSpec) : _root_.Go.OpenSpec := { _root_.Go.OpenSpec.ofChange s with cond := some uptoSmall }

/-- 'laws.FnExactValidRuns', WHERE WHAT IT READS IS OF BULK AT MOST 1048576: true; the input reads as it did. -/
def fnExactValidRunsUptoRow : OpenClaim := { program := "ytangmlppnnohiaa", sum := "9499c1d1640444422bde3b5ceace1ce2b0b086dad14a4dcb87868a1d144d4d5e", func := "loop.example/coveringtests/laws.FnExactValidRuns", spec := "fnExactValidRuns", apart := false, narrowed := true }
def FnExactValidRunsUptoSaid : Prop := fnExactValidRunsUptoRow.holds Try.pinned (OpenSpec.upto fnExactValidRunsSpec)

/-- 'laws.FnExactAllLists', WHERE WHAT IT READS IS OF BULK AT MOST 1048576: true; the input reads as it did. -/
def fnExactAllListsUptoRow : OpenClaim := { program := "ytangmlppnnohiaa", sum := "9499c1d1640444422bde3b5ceace1ce2b0b086dad14a4dcb87868a1d144d4d5e", func := "loop.example/coveringtests/laws.FnExactAllLists", spec := "fnExactAllLists", unfollowed := true, recurses := true, apart := false, narrowed := true }
def FnExactAllListsUptoSaid : Prop := fnExactAllListsUptoRow.holds Try.pinned (OpenSpec.upto fnExactAllListsSpec)

/-- 'laws.FnExactShows', WHERE WHAT IT READS IS OF BULK AT MOST 1048576: true; the input reads as it did. -/
def fnExactShowsUptoRow : OpenClaim := { program := "ytangmlppnnohiaa", sum := "9499c1d1640444422bde3b5ceace1ce2b0b086dad14a4dcb87868a1d144d4d5e", func := "loop.example/coveringtests/laws.FnExactShows", spec := "fnExactShows", unfollowed := true, recurses := true, apart := false, narrowed := true }
def FnExactShowsUptoSaid : Prop := fnExactShowsUptoRow.holds Try.pinned (OpenSpec.upto fnExactShowsSpec)

/-- 'laws.FnExactUnseenOf', WHERE WHAT IT READS IS OF BULK AT MOST 1048576: true; the input reads as it did. -/
def fnExactUnseenOfUptoRow : OpenClaim := { program := "ytangmlppnnohiaa", sum := "9499c1d1640444422bde3b5ceace1ce2b0b086dad14a4dcb87868a1d144d4d5e", func := "loop.example/coveringtests/laws.FnExactUnseenOf", spec := "fnExactUnseenOf", unfollowed := true, recurses := true, apart := false, narrowed := true }
def FnExactUnseenOfUptoSaid : Prop := fnExactUnseenOfUptoRow.holds Try.pinned (OpenSpec.upto fnExactUnseenOfSpec)

/-- 'laws.FnExactIsOrdering', WHERE WHAT IT READS IS OF BULK AT MOST 1048576: true; the input reads as it did. -/
def fnExactIsOrderingUptoRow : OpenClaim := { program := "ytangmlppnnohiaa", sum := "9499c1d1640444422bde3b5ceace1ce2b0b086dad14a4dcb87868a1d144d4d5e", func := "loop.example/coveringtests/laws.FnExactIsOrdering", spec := "fnExactIsOrdering", unfollowed := true, recurses := true, apart := false, narrowed := true }
def FnExactIsOrderingUptoSaid : Prop := fnExactIsOrderingUptoRow.holds Try.pinned (OpenSpec.upto fnExactIsOrderingSpec)

/-- 'laws.FnExactTurnRuns', WHERE WHAT IT READS IS OF BULK AT MOST 1048576: true; the input reads as it did. -/
def fnExactTurnRunsUptoRow : OpenClaim := { program := "ytangmlppnnohiaa", sum := "9499c1d1640444422bde3b5ceace1ce2b0b086dad14a4dcb87868a1d144d4d5e", func := "loop.example/coveringtests/laws.FnExactTurnRuns", spec := "fnExactTurnRuns", apart := false, narrowed := true }
def FnExactTurnRunsUptoSaid : Prop := fnExactTurnRunsUptoRow.holds Try.pinned (OpenSpec.upto fnExactTurnRunsSpec)

/-- 'laws.FnExactGrowRuns', WHERE WHAT IT READS IS OF BULK AT MOST 1048576: true; the input reads as it did. -/
def fnExactGrowRunsUptoRow : OpenClaim := { program := "ytangmlppnnohiaa", sum := "9499c1d1640444422bde3b5ceace1ce2b0b086dad14a4dcb87868a1d144d4d5e", func := "loop.example/coveringtests/laws.FnExactGrowRuns", spec := "fnExactGrowRuns", unfollowed := true, recurses := true, apart := false, narrowed := true }
def FnExactGrowRunsUptoSaid : Prop := fnExactGrowRunsUptoRow.holds Try.pinned (OpenSpec.upto fnExactGrowRunsSpec)

/-- 'laws.FnExactDropEvent', WHERE WHAT IT READS IS OF BULK AT MOST 1048576: true; the input reads as it did. -/
def fnExactDropEventUptoRow : OpenClaim := { program := "ytangmlppnnohiaa", sum := "9499c1d1640444422bde3b5ceace1ce2b0b086dad14a4dcb87868a1d144d4d5e", func := "loop.example/coveringtests/laws.FnExactDropEvent", spec := "fnExactDropEvent", apart := false, narrowed := true }
def FnExactDropEventUptoSaid : Prop := fnExactDropEventUptoRow.holds Try.pinned (OpenSpec.upto fnExactDropEventSpec)

/-- 'laws.FnExactSuiteText', WHERE WHAT IT READS IS OF BULK AT MOST 1048576: true; the input reads as it did. -/
def fnExactSuiteTextUptoRow : OpenClaim := { program := "ytangmlppnnohiaa", sum := "9499c1d1640444422bde3b5ceace1ce2b0b086dad14a4dcb87868a1d144d4d5e", func := "loop.example/coveringtests/laws.FnExactSuiteText", spec := "fnExactSuiteText", inPlace := ["internal/abi.NoEscape", "internal/bytealg.MakeNoZero"], apart := false, narrowed := true }
def FnExactSuiteTextUptoSaid : Prop := fnExactSuiteTextUptoRow.holds Try.pinned (OpenSpec.upto fnExactSuiteTextSpec)

end Rows
end Go.Proofs.Ytangmlppnnohiaa
