package tests

import (
	"slices"
	"testing"

	"loop.example/coveringtests/impl"
)

// judging are the arguments of a call with results and faults.
type judging struct {
	arguments
	fails        []bool
	faults, list [][]int
	fault, fine  []int
}

func (j judging) all() [][]int {
	hunted := whole([][]int{j.fault, j.fine, numbers(j.fails)})
	return slices.Concat(j.arguments.all(), whole(j.faults), whole(j.list), hunted)
}

// numbers returns results as numbers, up to their capacity.
func numbers(fails []bool) []int {
	var out []int
	for _, fail := range fails[:cap(fails)] {
		if fail {
			out = append(out, 1)
		} else {
			out = append(out, 0)
		}
	}
	return out
}

// roomyBools returns results with spare capacity in which the marks take turns.
func roomyBools(fails []bool) []bool {
	out := append(slices.Clone(fails), true, false, true, false)
	return out[:len(fails)]
}

// faultCalls calls each function of chapter 4, and returns the results that are
// slices by the names of the functions.
func faultCalls(j judging, strength int) map[string][][]int {
	impl.IsLocating(j.m, j.suite, strength)
	impl.IsDetecting(j.m, j.suite, strength)
	fails := impl.ResultsOf(j.m, j.suite, j.faults)
	split, _ := impl.SplitTest(j.m, j.list)
	left, _ := impl.HuntFault(j.m, j.fault)
	shrunk, _ := impl.ShrinkFailure(j.m, j.faults, j.test, j.fine)
	return map[string][][]int{
		"ResultsOf":     {numbers(fails)},
		"SuspectsOf":    impl.SuspectsOf(j.m, j.suite, j.fails, strength),
		"CulpritsOf":    impl.CulpritsOf(j.m, j.suite, j.fails, strength),
		"SplitTest":     {split},
		"HuntFault":     left,
		"ShrinkFailure": {shrunk},
	}
}

func TestFaultsChangeAndShareNothing(t *testing.T) {
	// Of each strength one; nothing names the function that has no result.
	for strength, x := range []struct{ suite, fails, faults, fault, nothing string }{
		{"0000,0201", "11", "....,1...", "....", "ShrinkFailure"},
		{"0000,1101", "01", "1...,1.0.", "1...", ""},
		{"0000,1201,1101", "011", "1.0.,1.0.", ".2.0", ""},
		{"0000,1001,1101,1001", "0101", "1.01,.1.1", "10.1", ""},
		{"1201,1101,0201", "101", "1101,1.01", "1201", "CulpritsOf"},
	} {
		j := judging{
			arguments{m: roomy([]int{2, 3, 1, 2}), test: roomy([]int{1, 2, 0, 1}), suite: roomyLists(read(x.suite))},
			roomyBools(bools(x.fails)), roomyLists(read(x.faults)), roomyLists(read("0...,1...,.2..,.2..")),
			roomy(read(x.fault)[0]), roomy([]int{0, 1, 0, 0}),
		}
		checkMemory(t, j.all, func() map[string][][]int {
			results := faultCalls(j, strength)
			for name, lists := range results {
				nothing := len(lists) == 0 || len(lists[0]) == 0
				mustNot(t, nothing != (name == x.nothing), "a result of nothing", name, strength)
			}
			return results
		})
	}
}

// Factors of one level have several patterns that are left at last.
func TestWhatIsLeftSharesNothing(t *testing.T) {
	j := judging{
		arguments{m: roomy([]int{1, 1, 1}), test: roomy([]int{0, 0, 0}), suite: roomyLists(read("000"))},
		roomyBools(bools("1")), roomyLists(read("0..")), nil,
		roomy([]int{Any, 0, Any}), roomy([]int{0, 0, 0}),
	}
	checkMemory(t, j.all, func() map[string][][]int {
		results := faultCalls(j, 2)
		mustNot(t, len(results["SuspectsOf"]) != 3 || len(results["CulpritsOf"]) != 3 || len(results["HuntFault"]) != 3, "patterns that cannot be told apart", results)
		return results
	})
}
