/-
  No cell of these rows narrows 'for every input' (looked for: loops, veiled, ifaces, maps, wideKeys, modest, calm, conditions, laid).
  DERIVED. THE GIVEN ROWS OF THIS SEAT. 8 by the template 'for every input the law returns true; each argument reads behind the call as it read before'; 0 by the template 'total and deterministic' (their statements: YtkboggohkhjciaaTotals.lean).
  GIVEN WITH THE SEED: the statements are not yours to turn. If you find one false, say at which input.
  Laid BY PROGRAM, IN A SANDBOX (cutbox-rows.mjs): the forced cells as the released guide's own fill.sh prints them over the translation e8275d04b7358618… (all of the seat's roots in one cut). By AI agents, Wed Nov 11 2026. No macro, syntax, notation, axiom, sorry.
-/
import Derived.Test.YtkboggohkhjciaaChecked
import GoSem.Claim
import GoSem.ClaimJoined
import GoSem.ClaimMapViews
import Derived.JoinedTies
import Derived.KernelRfl
namespace Go.Proofs.Ytkboggohkhjciaa
/- THE CELL 'sum', in the pinned program and in every row, IS THE sha256 OF THE DUMP (.gsa) THAT YtkboggohkhjciaaProg.lean LOADS. Nothing in Lean hashes anything: it is a label: what it is worth is what the hold of that sum in a sandbox is worth. -/
noncomputable def Try.pinned : Pinned := { name := "ytkboggohkhjciaa", sum := "e8275d04b735861851713cd522ac353d3a4382cf99d67bc330971b91eaa15a7c", checked := Try.checked }
namespace Rows
def none {H : Type} : Left H := { results := [], args := [] }

/-- 'laws.FnValidRuns': WHATEVER THE INPUT: true; the input reads as it did. -/
def fnValidRunsSpec : ChangeSpec := { name := "fnValidRuns", fn := fun _ => fun
  | [d] => { results := [.lit (.bool true)], args := [d] }
  | _ => none }
def fnValidRunsRow : OpenClaim := { program := "ytkboggohkhjciaa", sum := "e8275d04b735861851713cd522ac353d3a4382cf99d67bc330971b91eaa15a7c", func := "loop.example/coveringtests/laws.FnValidRuns", spec := "fnValidRuns", unfollowed := true, recurses := true, apart := false }
def FnValidRunsSaid : Prop := fnValidRunsRow.holds Try.pinned (OpenSpec.ofChange fnValidRunsSpec)

/-- ITS FALSE NEIGHBOUR: 'it returns false'. Refute it at one input. -/
def fnValidRunsWrong : ChangeSpec := { name := "fnValidRuns", fn := fun _ => fun
  | [d] => { results := [.lit (.bool false)], args := [d] }
  | _ => none }
def FnValidRunsWrongFalsely : Prop := fnValidRunsRow.holds Try.pinned (OpenSpec.ofChange fnValidRunsWrong)

/-- 'laws.FnAllLists': WHATEVER THE INPUT: true; the input reads as it did. -/
def fnAllListsSpec : ChangeSpec := { name := "fnAllLists", fn := fun _ => fun
  | [d] => { results := [.lit (.bool true)], args := [d] }
  | _ => none }
def fnAllListsRow : OpenClaim := { program := "ytkboggohkhjciaa", sum := "e8275d04b735861851713cd522ac353d3a4382cf99d67bc330971b91eaa15a7c", func := "loop.example/coveringtests/laws.FnAllLists", spec := "fnAllLists", unfollowed := true, recurses := true, apart := false }
def FnAllListsSaid : Prop := fnAllListsRow.holds Try.pinned (OpenSpec.ofChange fnAllListsSpec)

/-- ITS FALSE NEIGHBOUR: 'it returns false'. Refute it at one input. -/
def fnAllListsWrong : ChangeSpec := { name := "fnAllLists", fn := fun _ => fun
  | [d] => { results := [.lit (.bool false)], args := [d] }
  | _ => none }
def FnAllListsWrongFalsely : Prop := fnAllListsRow.holds Try.pinned (OpenSpec.ofChange fnAllListsWrong)

/-- 'laws.FnShows': WHATEVER THE INPUT: true; the input reads as it did. -/
def fnShowsSpec : ChangeSpec := { name := "fnShows", fn := fun _ => fun
  | [d] => { results := [.lit (.bool true)], args := [d] }
  | _ => none }
def fnShowsRow : OpenClaim := { program := "ytkboggohkhjciaa", sum := "e8275d04b735861851713cd522ac353d3a4382cf99d67bc330971b91eaa15a7c", func := "loop.example/coveringtests/laws.FnShows", spec := "fnShows", unfollowed := true, recurses := true, apart := false }
def FnShowsSaid : Prop := fnShowsRow.holds Try.pinned (OpenSpec.ofChange fnShowsSpec)

/-- ITS FALSE NEIGHBOUR: 'it returns false'. Refute it at one input. -/
def fnShowsWrong : ChangeSpec := { name := "fnShows", fn := fun _ => fun
  | [d] => { results := [.lit (.bool false)], args := [d] }
  | _ => none }
def FnShowsWrongFalsely : Prop := fnShowsRow.holds Try.pinned (OpenSpec.ofChange fnShowsWrong)

/-- 'laws.FnUnseenOf': WHATEVER THE INPUT: true; the input reads as it did. -/
def fnUnseenOfSpec : ChangeSpec := { name := "fnUnseenOf", fn := fun _ => fun
  | [d] => { results := [.lit (.bool true)], args := [d] }
  | _ => none }
def fnUnseenOfRow : OpenClaim := { program := "ytkboggohkhjciaa", sum := "e8275d04b735861851713cd522ac353d3a4382cf99d67bc330971b91eaa15a7c", func := "loop.example/coveringtests/laws.FnUnseenOf", spec := "fnUnseenOf", unfollowed := true, recurses := true, apart := false }
def FnUnseenOfSaid : Prop := fnUnseenOfRow.holds Try.pinned (OpenSpec.ofChange fnUnseenOfSpec)

/-- ITS FALSE NEIGHBOUR: 'it returns false'. Refute it at one input. -/
def fnUnseenOfWrong : ChangeSpec := { name := "fnUnseenOf", fn := fun _ => fun
  | [d] => { results := [.lit (.bool false)], args := [d] }
  | _ => none }
def FnUnseenOfWrongFalsely : Prop := fnUnseenOfRow.holds Try.pinned (OpenSpec.ofChange fnUnseenOfWrong)

/-- 'laws.FnIsOrdering': WHATEVER THE INPUT: true; the input reads as it did. -/
def fnIsOrderingSpec : ChangeSpec := { name := "fnIsOrdering", fn := fun _ => fun
  | [d] => { results := [.lit (.bool true)], args := [d] }
  | _ => none }
def fnIsOrderingRow : OpenClaim := { program := "ytkboggohkhjciaa", sum := "e8275d04b735861851713cd522ac353d3a4382cf99d67bc330971b91eaa15a7c", func := "loop.example/coveringtests/laws.FnIsOrdering", spec := "fnIsOrdering", unfollowed := true, recurses := true, apart := false }
def FnIsOrderingSaid : Prop := fnIsOrderingRow.holds Try.pinned (OpenSpec.ofChange fnIsOrderingSpec)

/-- ITS FALSE NEIGHBOUR: 'it returns false'. Refute it at one input. -/
def fnIsOrderingWrong : ChangeSpec := { name := "fnIsOrdering", fn := fun _ => fun
  | [d] => { results := [.lit (.bool false)], args := [d] }
  | _ => none }
def FnIsOrderingWrongFalsely : Prop := fnIsOrderingRow.holds Try.pinned (OpenSpec.ofChange fnIsOrderingWrong)

/-- 'laws.FnTurnRuns': WHATEVER THE INPUT: true; the input reads as it did. -/
def fnTurnRunsSpec : ChangeSpec := { name := "fnTurnRuns", fn := fun _ => fun
  | [d] => { results := [.lit (.bool true)], args := [d] }
  | _ => none }
def fnTurnRunsRow : OpenClaim := { program := "ytkboggohkhjciaa", sum := "e8275d04b735861851713cd522ac353d3a4382cf99d67bc330971b91eaa15a7c", func := "loop.example/coveringtests/laws.FnTurnRuns", spec := "fnTurnRuns", unfollowed := true, recurses := true, apart := false }
def FnTurnRunsSaid : Prop := fnTurnRunsRow.holds Try.pinned (OpenSpec.ofChange fnTurnRunsSpec)

/-- ITS FALSE NEIGHBOUR: 'it returns false'. Refute it at one input. -/
def fnTurnRunsWrong : ChangeSpec := { name := "fnTurnRuns", fn := fun _ => fun
  | [d] => { results := [.lit (.bool false)], args := [d] }
  | _ => none }
def FnTurnRunsWrongFalsely : Prop := fnTurnRunsRow.holds Try.pinned (OpenSpec.ofChange fnTurnRunsWrong)

/-- 'laws.FnGrowRuns': WHATEVER THE INPUT: true; the input reads as it did. -/
def fnGrowRunsSpec : ChangeSpec := { name := "fnGrowRuns", fn := fun _ => fun
  | [d] => { results := [.lit (.bool true)], args := [d] }
  | _ => none }
def fnGrowRunsRow : OpenClaim := { program := "ytkboggohkhjciaa", sum := "e8275d04b735861851713cd522ac353d3a4382cf99d67bc330971b91eaa15a7c", func := "loop.example/coveringtests/laws.FnGrowRuns", spec := "fnGrowRuns", unfollowed := true, recurses := true, apart := false }
def FnGrowRunsSaid : Prop := fnGrowRunsRow.holds Try.pinned (OpenSpec.ofChange fnGrowRunsSpec)

/-- ITS FALSE NEIGHBOUR: 'it returns false'. Refute it at one input. -/
def fnGrowRunsWrong : ChangeSpec := { name := "fnGrowRuns", fn := fun _ => fun
  | [d] => { results := [.lit (.bool false)], args := [d] }
  | _ => none }
def FnGrowRunsWrongFalsely : Prop := fnGrowRunsRow.holds Try.pinned (OpenSpec.ofChange fnGrowRunsWrong)

/-- 'laws.FnDropEvent': WHATEVER THE INPUT: true; the input reads as it did. -/
def fnDropEventSpec : ChangeSpec := { name := "fnDropEvent", fn := fun _ => fun
  | [d] => { results := [.lit (.bool true)], args := [d] }
  | _ => none }
def fnDropEventRow : OpenClaim := { program := "ytkboggohkhjciaa", sum := "e8275d04b735861851713cd522ac353d3a4382cf99d67bc330971b91eaa15a7c", func := "loop.example/coveringtests/laws.FnDropEvent", spec := "fnDropEvent", unfollowed := true, recurses := true, apart := false }
def FnDropEventSaid : Prop := fnDropEventRow.holds Try.pinned (OpenSpec.ofChange fnDropEventSpec)

/-- ITS FALSE NEIGHBOUR: 'it returns false'. Refute it at one input. -/
def fnDropEventWrong : ChangeSpec := { name := "fnDropEvent", fn := fun _ => fun
  | [d] => { results := [.lit (.bool false)], args := [d] }
  | _ => none }
def FnDropEventWrongFalsely : Prop := fnDropEventRow.holds Try.pinned (OpenSpec.ofChange fnDropEventWrong)

/- THE SECOND FORM. 'bulk': how many values and letters a reading holds, each counted each time it is reached (what is shared counts as often as it is met; a slice's spare places count too). A statement '..UptoSaid' is the law's where the arguments, and the package variables that the reading takes, are together of bulk at most 1048576: NARROWER than '..Said'. Prove '..Said' where nothing that the law and all that it calls make is longer than what came in: it says more and counts as full. Else prove '..UptoSaid'. A law counts once. -/
mutual
def uptoBulk {H : Type} : DataW H → Nat
  | .lit (.string bytes) => bytes.length + 1
  | .lit _ => 1
  | .nil => 1
  | .ptr d => uptoBulk d + 1
  | .slice elems spare => uptoBulkAll elems + uptoBulkAll spare + 1
  | .agg parts => uptoBulkAll parts + 1
  | .iface _ d => uptoBulk d + 1
  | .map entries => uptoBulkEntries entries + 1
  | .held _ => 1
def uptoBulkAll {H : Type} : List (DataW H) → Nat
  | [] => 0
  | d :: r => uptoBulk d + uptoBulkAll r
def uptoBulkEntries {H : Type} : List (Lit × DataW H) → Nat
  | [] => 0
  | x :: r => uptoBulkEntry x + uptoBulkEntries r
def uptoBulkEntry {H : Type} : Lit × DataW H → Nat
  | (.string bytes, d) => bytes.length + uptoBulk d + 1
  | (_, d) => uptoBulk d + 1
 end
def uptoSmall : (H : Type) → List (DataW H) → Bool := fun _ ds => decide (uptoBulkAll ds ≤ 1048576)
def OpenSpec.upto (s : _root_.Go.ChangeSpec) : _root_.Go.OpenSpec := { _root_.Go.OpenSpec.ofChange s with cond := some uptoSmall }

/-- 'laws.FnValidRuns', WHERE WHAT IT READS IS OF BULK AT MOST 1048576: true; the input reads as it did. -/
def fnValidRunsUptoRow : OpenClaim := { program := "ytkboggohkhjciaa", sum := "e8275d04b735861851713cd522ac353d3a4382cf99d67bc330971b91eaa15a7c", func := "loop.example/coveringtests/laws.FnValidRuns", spec := "fnValidRuns", unfollowed := true, recurses := true, apart := false, narrowed := true }
def FnValidRunsUptoSaid : Prop := fnValidRunsUptoRow.holds Try.pinned (OpenSpec.upto fnValidRunsSpec)

/-- 'laws.FnAllLists', WHERE WHAT IT READS IS OF BULK AT MOST 1048576: true; the input reads as it did. -/
def fnAllListsUptoRow : OpenClaim := { program := "ytkboggohkhjciaa", sum := "e8275d04b735861851713cd522ac353d3a4382cf99d67bc330971b91eaa15a7c", func := "loop.example/coveringtests/laws.FnAllLists", spec := "fnAllLists", unfollowed := true, recurses := true, apart := false, narrowed := true }
def FnAllListsUptoSaid : Prop := fnAllListsUptoRow.holds Try.pinned (OpenSpec.upto fnAllListsSpec)

/-- 'laws.FnShows', WHERE WHAT IT READS IS OF BULK AT MOST 1048576: true; the input reads as it did. -/
def fnShowsUptoRow : OpenClaim := { program := "ytkboggohkhjciaa", sum := "e8275d04b735861851713cd522ac353d3a4382cf99d67bc330971b91eaa15a7c", func := "loop.example/coveringtests/laws.FnShows", spec := "fnShows", unfollowed := true, recurses := true, apart := false, narrowed := true }
def FnShowsUptoSaid : Prop := fnShowsUptoRow.holds Try.pinned (OpenSpec.upto fnShowsSpec)

/-- 'laws.FnUnseenOf', WHERE WHAT IT READS IS OF BULK AT MOST 1048576: true; the input reads as it did. -/
def fnUnseenOfUptoRow : OpenClaim := { program := "ytkboggohkhjciaa", sum := "e8275d04b735861851713cd522ac353d3a4382cf99d67bc330971b91eaa15a7c", func := "loop.example/coveringtests/laws.FnUnseenOf", spec := "fnUnseenOf", unfollowed := true, recurses := true, apart := false, narrowed := true }
def FnUnseenOfUptoSaid : Prop := fnUnseenOfUptoRow.holds Try.pinned (OpenSpec.upto fnUnseenOfSpec)

/-- 'laws.FnIsOrdering', WHERE WHAT IT READS IS OF BULK AT MOST 1048576: true; the input reads as it did. -/
def fnIsOrderingUptoRow : OpenClaim := { program := "ytkboggohkhjciaa", sum := "e8275d04b735861851713cd522ac353d3a4382cf99d67bc330971b91eaa15a7c", func := "loop.example/coveringtests/laws.FnIsOrdering", spec := "fnIsOrdering", unfollowed := true, recurses := true, apart := false, narrowed := true }
def FnIsOrderingUptoSaid : Prop := fnIsOrderingUptoRow.holds Try.pinned (OpenSpec.upto fnIsOrderingSpec)

/-- 'laws.FnTurnRuns', WHERE WHAT IT READS IS OF BULK AT MOST 1048576: true; the input reads as it did. -/
def fnTurnRunsUptoRow : OpenClaim := { program := "ytkboggohkhjciaa", sum := "e8275d04b735861851713cd522ac353d3a4382cf99d67bc330971b91eaa15a7c", func := "loop.example/coveringtests/laws.FnTurnRuns", spec := "fnTurnRuns", unfollowed := true, recurses := true, apart := false, narrowed := true }
def FnTurnRunsUptoSaid : Prop := fnTurnRunsUptoRow.holds Try.pinned (OpenSpec.upto fnTurnRunsSpec)

/-- 'laws.FnGrowRuns', WHERE WHAT IT READS IS OF BULK AT MOST 1048576: true; the input reads as it did. -/
def fnGrowRunsUptoRow : OpenClaim := { program := "ytkboggohkhjciaa", sum := "e8275d04b735861851713cd522ac353d3a4382cf99d67bc330971b91eaa15a7c", func := "loop.example/coveringtests/laws.FnGrowRuns", spec := "fnGrowRuns", unfollowed := true, recurses := true, apart := false, narrowed := true }
def FnGrowRunsUptoSaid : Prop := fnGrowRunsUptoRow.holds Try.pinned (OpenSpec.upto fnGrowRunsSpec)

/-- 'laws.FnDropEvent', WHERE WHAT IT READS IS OF BULK AT MOST 1048576: true; the input reads as it did. -/
def fnDropEventUptoRow : OpenClaim := { program := "ytkboggohkhjciaa", sum := "e8275d04b735861851713cd522ac353d3a4382cf99d67bc330971b91eaa15a7c", func := "loop.example/coveringtests/laws.FnDropEvent", spec := "fnDropEvent", unfollowed := true, recurses := true, apart := false, narrowed := true }
def FnDropEventUptoSaid : Prop := fnDropEventUptoRow.holds Try.pinned (OpenSpec.upto fnDropEventSpec)

end Rows
end Go.Proofs.Ytkboggohkhjciaa
