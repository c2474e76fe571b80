package tests

import (
	"slices"
	"testing"

	"loop.example/coveringtests/impl"
)

// roomy returns a copy of a list with spare capacity that holds a mark.
func roomy(list []int) []int {
	out := append(slices.Clone(list), 77, 77, 77)
	return out[:len(list)]
}

// roomyLists returns a copy of lists with spare capacity at each level.
func roomyLists(lists [][]int) [][]int {
	out := make([][]int, 0, len(lists)+3)
	for _, list := range lists {
		out = append(out, roomy(list))
	}
	copy(out[len(lists):cap(out)], [][]int{{78}, {78}, {78}})
	return out
}

// whole returns a copy of all that lists hold, up to their capacities.
func whole(lists [][]int) [][]int {
	var out [][]int
	for _, list := range lists[:cap(lists)] {
		out = append(out, slices.Clone(list[:cap(list)]))
	}
	return out
}

// arguments are the arguments of a call, with spare capacity.
type arguments struct {
	m, test, p, q []int
	suite         [][]int
}

func (a arguments) all() [][]int {
	return slices.Concat(whole([][]int{a.m, a.test, a.p, a.q}), whole(a.suite))
}

// memoryCalls calls each function of chapter 1, and returns the results that
// are slices by the names of the functions.
func memoryCalls(a arguments, strength int) map[string][][]int {
	impl.ValidModel(a.m)
	impl.ValidTest(a.m, a.test)
	impl.ValidPattern(a.m, a.p)
	impl.ValidSuite(a.m, a.suite)
	impl.StrengthOf(a.m, a.p)
	impl.Matches(a.m, a.p, a.test)
	impl.CoverageOf(a.m, a.suite, strength)
	impl.IsCovering(a.m, a.suite, strength)
	impl.HowOften(a.m, a.suite, a.p)
	impl.IsBalanced(a.m, a.suite, strength)
	joined, _ := impl.JoinPatterns(a.m, a.p, a.q)
	parsed, _ := impl.ParsePattern(a.m, impl.PatternText(a.m, a.p))
	return map[string][][]int{
		"AllTests":     impl.AllTests(a.m),
		"AllPatterns":  impl.AllPatterns(a.m, strength),
		"MissingOf":    impl.MissingOf(a.m, a.suite, strength),
		"SpareTests":   {impl.SpareTests(a.m, a.suite, strength)},
		"TrimSuite":    impl.TrimSuite(a.m, a.suite, strength),
		"JoinPatterns": {joined},
		"ParsePattern": {parsed},
	}
}

// fill writes a number into all of a list, up to its capacity.
func fill(list []int, x int) {
	list = list[:cap(list)]
	for i := range list {
		list[i] = x
	}
}

// overwrite writes over all of a result, up to the capacities, and checks that
// none of its slices lies in the memory of another one.
func overwrite(t *testing.T, name string, lists [][]int) {
	t.Helper()
	lists = lists[:cap(lists)]
	for i, list := range lists {
		fill(list, 1000+i)
	}
	for i, list := range lists {
		for _, x := range list[:cap(list)] {
			mustNot(t, x != 1000+i, "slices of one result share memory", name)
		}
	}
	clear(lists)
}

// checkMemory checks that calls with the arguments change none of them, return
// the same again, and share no memory with them or within a result. The calls
// return the results that are slices by the names of the functions.
func checkMemory(t *testing.T, all func() [][]int, calls func() map[string][][]int) {
	t.Helper()
	before := all()
	results := calls()
	first := map[string][][]int{}
	for name, lists := range results {
		first[name] = copyOf(lists)
	}
	mustNot(t, !sameLists(all(), before), "arguments changed", before)
	for name, lists := range results {
		overwrite(t, name, lists)
		mustNot(t, !sameLists(all(), before), "a result shares memory with an argument", name, before)
	}
	for name, lists := range calls() {
		mustNot(t, !sameLists(lists, first[name]), "a result is kept from call to call", name, before)
	}
}

func TestCoverageChangesAndSharesNothing(t *testing.T) {
	for strength := range 4 {
		for _, suite := range []string{"", "000", "000,000,011,101,110", "000,120,000,021,120"} {
			a := arguments{roomy([]int{2, 3, 2}), roomy([]int{1, 2, 0}), roomy([]int{1, Any, Any}), roomy([]int{Any, 2, Any}), roomyLists(read(suite))}
			checkMemory(t, a.all, func() map[string][][]int {
				results := memoryCalls(a, strength)
				mustNot(t, len(results["JoinPatterns"][0]) != 3 || len(results["ParsePattern"][0]) != 3, "patterns", results)
				return results
			})
		}
	}
}
