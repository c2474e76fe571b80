package tests

import (
	"slices"
	"testing"

	"loop.example/coveringtests/impl"
)

// banning are the arguments of a call with two lists of bans.
type banning struct {
	arguments
	bans, others [][]int
}

func (b banning) all() [][]int {
	return slices.Concat(b.arguments.all(), whole(b.bans), whole(b.others))
}

// banCalls calls each function of chapter 3, and returns the results that are
// slices by the names of the functions.
func banCalls(b banning, strength int) map[string][][]int {
	impl.ValidBans(b.m, b.bans)
	impl.IsPossible(b.m, b.bans, b.p)
	impl.SameBans(b.m, b.bans, b.others)
	impl.IsAllowedCovering(b.m, b.bans, b.suite, strength)
	completed, _ := impl.CompleteTest(b.m, b.bans, b.p)
	whole, _ := impl.CompleteTest(b.m, b.bans, b.test)
	grown, _ := impl.GrowAllowed(b.m, b.bans, strength)
	explained, _ := impl.ExplainBans(b.m, b.bans, b.q)
	return map[string][][]int{
		"AllowedTests":           impl.AllowedTests(b.m, b.bans),
		"CompleteTest":           {completed},
		"CompleteTest of a test": {whole},
		"PossiblePatterns":       impl.PossiblePatterns(b.m, b.bans, strength),
		"ImpliedBans":            impl.ImpliedBans(b.m, b.bans, strength),
		"LeastBans":              impl.LeastBans(b.m, b.bans),
		"GrowAllowed":            grown,
		"ExplainBans":            {explained},
	}
}

func TestBansChangeAndShareNothing(t *testing.T) {
	for strength := range 4 {
		for _, bans := range []string{"00.,.10", "00.,.10,00.,.10", "0.0", "0..", "110,0.0,11.,.20"} {
			b := banning{
				arguments{roomy([]int{2, 3, 2}), roomy([]int{1, 2, 1}), roomy([]int{1, Any, Any}), roomy([]int{0, Any, 0}), roomyLists(read("011,101"))},
				roomyLists(read(bans)), roomyLists(read("111,0..")),
			}
			checkMemory(t, b.all, func() map[string][][]int {
				results := banCalls(b, strength)
				for name, lists := range results {
					mustNot(t, len(lists) == 0 && name != "ImpliedBans", "a result of nothing", name, strength, bans)
				}
				return results
			})
		}
	}
	// Many bans are implied by two that ban all.
	b := banning{arguments{m: roomy([]int{2, 3, 2}), q: roomy([]int{Any, Any, Any})}, roomyLists(read("0..,1..")), nil}
	checkMemory(t, b.all, func() map[string][][]int {
		results := banCalls(b, 2)
		mustNot(t, len(results["ImpliedBans"]) != 6 || len(results["ExplainBans"][0]) != 2, "ImpliedBans", results)
		return results
	})
}
