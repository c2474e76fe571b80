package tests

import (
	"testing"

	"loop.example/coveringtests/impl"
)

// crossing are the arguments of a call with two suites.
type crossing struct {
	a, b arguments
}

func (c crossing) all() [][]int {
	return append(c.a.all(), c.b.all()...)
}

// growthCalls calls each function of chapter 2, and returns the results that
// are slices by the names of the functions.
func growthCalls(c crossing, strength int) map[string][][]int {
	m, suite := c.a.m, c.a.suite
	impl.FreshOf(m, suite, c.a.test, strength)
	impl.LeastTests(m, strength)
	impl.FewestTests(m, strength)
	grown, _ := impl.GrowSuite(m, suite, strength)
	crossed, _ := impl.CrossSuites(m, suite, c.b.m, c.b.suite)
	square, _ := impl.SquareSuite(3, 4)
	short, _ := impl.SquareSuite(2, 1)
	dropped, _ := impl.DropFactor(m, suite, strength)
	fused, _ := impl.FuseLevels(m, suite, strength, 0)
	added, _ := impl.AddFactor(m, suite, 2, strength+1)
	return map[string][][]int{
		"BestTest":         {impl.BestTest(m, suite, strength)},
		"GrowSuite":        grown,
		"CrossSuites":      crossed,
		"SquareSuite(3,4)": square,
		"SquareSuite(2,1)": short,
		"DropFactor":       dropped,
		"FuseLevels":       fused,
		"AddFactor":        added,
	}
}

func TestGrowthChangesAndSharesNothing(t *testing.T) {
	// For strengths up to 2, suites that cover, that grow, and that do not.
	for strength := range 3 {
		for _, suite := range []string{"000", "000,000,011,101,110,120", "000,001,010,011,020,021,100,101,110,111,120,121"} {
			c := crossing{
				arguments{m: roomy([]int{2, 3, 2}), test: roomy([]int{1, 2, 0}), suite: roomyLists(read(suite))},
				arguments{m: roomy([]int{3, 1}), suite: roomyLists(read("20"))},
			}
			checkMemory(t, c.all, func() map[string][][]int {
				results := growthCalls(c, strength)
				for name, lists := range results {
					mustNot(t, len(lists) == 0 && (name != "AddFactor" || strength < 2), "a result of nothing", name, strength, suite)
				}
				return results
			})
		}
	}
}
