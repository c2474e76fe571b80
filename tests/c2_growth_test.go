package tests

import (
	"slices"
	"testing"

	"loop.example/coveringtests/impl"
)

// agreeing returns how many of the patterns a test agrees with.
func agreeing(patterns [][]int, test []int) int {
	n := 0
	for _, p := range patterns {
		if agrees(p, test) {
			n++
		}
	}
	return n
}

// firstBest returns the first of tests that agree with the most patterns.
func firstBest(tests, patterns [][]int) []int {
	counts := make([]int, len(tests))
	for i, test := range tests {
		counts[i] = agreeing(patterns, test)
	}
	return tests[slices.Index(counts, slices.Max(counts))]
}

// grownByTrying returns what GrowSuite is to return.
func grownByTrying(m []int, suite [][]int, t int) ([][]int, bool) {
	tests := patternsByCounting(m, len(m))
	grown := copyOf(suite)
	for {
		open := unmet(m, grown, t)
		if len(open) == 0 {
			return grown, true
		}
		if len(grown) == impl.MaxTests {
			return nil, false
		}
		grown = append(grown, firstBest(tests, open))
	}
}

// Promise 19.
func TestFreshPatternsAreMissingNoMore(t *testing.T) {
	for _, s := range samples() {
		if len(s.suite) == impl.MaxTests || len(s.m) == impl.MaxFactors {
			continue
		}
		for strength := range len(s.m) + 1 {
			missing := unmet(s.m, s.suite, strength)
			for _, test := range impl.AllTests(s.m) {
				fresh := impl.FreshOf(s.m, s.suite, test, strength)
				mustNot(t, fresh != agreeing(missing, test), "FreshOf", s, test, strength, fresh)
				longer := append(copyOf(s.suite), test)
				left := impl.MissingOf(s.m, longer, strength)
				mustNot(t, len(missing)-len(left) != fresh, "MissingOf with the test behind", s, test, strength)
			}
		}
	}
}

func TestFreshOf(t *testing.T) {
	m := []int{2, 2, 3}
	for _, x := range []struct {
		suite, test string
		t, want     int
	}{
		{"", "000", 0, 1},
		{"", "000", 1, 3},
		{"", "000", 2, 3},
		{"", "000", 3, 1},
		{"000", "112", 0, 0},
		{"000", "000", 1, 0},
		{"000", "002", 1, 1},
		{"000", "012", 2, 3},
		{"000", "002", 2, 2},
		{"000,012", "002", 2, 1},
		{"000,012", "002", 3, 1},
		{"000,012", "012", 3, 0},
	} {
		got := impl.FreshOf(m, read(x.suite), read(x.test)[0], x.t)
		mustNot(t, got != x.want, "FreshOf", x, got)
	}
	// A suite of MaxTests tests has fresh patterns, too.
	full := times(impl.MaxTests, 0, 0, 0)
	mustNot(t, impl.FreshOf(m, full, []int{1, 1, 2}, 2) != 3, "FreshOf behind MaxTests")
	mustNot(t, impl.FreshOf([]int{3, 3, 3, 3, 3}, nil, []int{2, 2, 2, 2, 2}, 3) != 10, "FreshOf in the greatest model")
	for _, test := range [][]int{nil, {0, 0}, {0, 0, 0, 0}, {2, 0, 0}, {0, 0, 3}, {0, Any, 0}, {0, 0, -1 << 63}} {
		mustNot(t, impl.FreshOf(m, nil, test, 1) != -1, "FreshOf no test", test)
	}
}

// Promise 20.
func TestNoTestIsBetterThanTheBestOne(t *testing.T) {
	for _, s := range samples() {
		for strength := range len(s.m) + 1 {
			best := impl.BestTest(s.m, s.suite, strength)
			mustNot(t, !impl.ValidTest(s.m, best), "BestTest", s, strength, best)
			fresh := impl.FreshOf(s.m, s.suite, best, strength)
			mustNot(t, (fresh == 0) != impl.IsCovering(s.m, s.suite, strength), "FreshOf BestTest", s, strength, fresh)
			missing := impl.MissingOf(s.m, s.suite, strength)
			for _, test := range impl.AllTests(s.m) {
				n := agreeing(missing, test)
				mustNot(t, n > fresh, "a test is better than BestTest", s, strength, best, test)
				mustNot(t, n == fresh && slices.Compare(test, best) < 0, "a test as good is ahead of BestTest", s, strength, best, test)
			}
		}
	}
}

func TestBestTest(t *testing.T) {
	m := []int{2, 2, 2}
	for _, x := range []struct {
		suite string
		t     int
		want  string
	}{
		{"", 0, "000"},
		{"", 3, "000"},
		{"111", 0, "000"},
		{"000", 1, "111"},
		{"000", 2, "011"},
		{"000", 3, "001"},
		{"000,011", 2, "101"},
		{"000,011,101,110", 2, "000"},
		{"111,110,101", 1, "000"},
		{"000,111", 1, "000"},
		{"000,001,010,011,100,101,110", 3, "111"},
	} {
		got := write([][]int{impl.BestTest(m, read(x.suite), x.t)})
		mustNot(t, got != x.want, "BestTest", x, got)
	}
	full := times(impl.MaxTests, 0, 0, 0)
	mustNot(t, !slices.Equal(impl.BestTest(m, full, 1), []int{1, 1, 1}), "BestTest behind MaxTests")
}

// Promise 21.
func TestGrownSuitesCover(t *testing.T) {
	grew := 0
	for _, s := range samples() {
		for strength := range len(s.m) + 1 {
			grown, ok := impl.GrowSuite(s.m, s.suite, strength)
			if impl.LeastTests(s.m, strength) > impl.MaxTests {
				mustNot(t, ok || len(grown) != 0, "GrowSuite of too many tests", s, strength)
				continue
			}
			want, wantOK := grownByTrying(s.m, s.suite, strength)
			mustNot(t, ok != wantOK || !sameLists(grown, want), "GrowSuite", s, strength, grown, ok)
			if !ok {
				continue
			}
			grew++
			mustNot(t, !impl.ValidSuite(s.m, grown) || !impl.IsCovering(s.m, grown, strength), "IsCovering GrowSuite", s, strength, grown)
			mustNot(t, !sameLists(grown[:len(s.suite)], s.suite), "GrowSuite does not begin with the suite", s, strength, grown)
			for i := len(s.suite); i < len(grown); i++ {
				ahead := grown[:i]
				mustNot(t, impl.IsCovering(s.m, ahead, strength), "GrowSuite goes on when it is covering", s, strength, grown)
				mustNot(t, !slices.Equal(grown[i], impl.BestTest(s.m, ahead, strength)), "GrowSuite without BestTest", s, strength, grown)
			}
		}
	}
	mustNot(t, grew < 200, "grown suites among the samples", grew)
}

func TestGrowSuite(t *testing.T) {
	for _, x := range []struct {
		m      []int
		suite  string
		t      int
		want   string
		covers bool
	}{
		{[]int{2, 2, 2}, "", 0, "000", true},
		{[]int{2, 2, 2}, "101", 0, "101", true},
		{[]int{2, 2, 2}, "", 1, "000,111", true},
		{[]int{2, 2, 2}, "", 2, "000,011,101,110", true},
		{[]int{2, 2, 2}, "", 3, "000,001,010,011,100,101,110,111", true},
		{[]int{2, 2, 2}, "111,111", 1, "111,111,000", true},
		{[]int{3}, "", 0, "0", true},
		{[]int{3}, "1", 1, "1,0,2", true},
		{[]int{1}, "", 1, "0", true},
		{[]int{1, 1, 1, 1, 1}, "", 0, "00000", true},
		{[]int{1, 1, 1, 1, 1}, "", 5, "00000", true},
		{[]int{1, 3, 1}, "", 2, "000,010,020", true},
		{[]int{3, 3, 3}, "", 3, "", false},
		{[]int{3, 3, 3, 3, 3}, "", 3, "", false},
		{[]int{3, 3, 3, 3, 3}, "", 5, "", false},
	} {
		got, ok := impl.GrowSuite(x.m, read(x.suite), x.t)
		mustNot(t, ok != x.covers || write(got) != x.want, "GrowSuite", x, got, ok)
	}
}

func TestGrowSuiteUpToMaxTests(t *testing.T) {
	m := []int{3, 3, 2}
	for _, x := range []struct{ spare, t int }{{2, 3}, {11, 2}, {17, 1}} {
		suite := times(x.spare+1, 1, 1, 1)
		grown, ok := impl.GrowSuite(m, suite, x.t)
		mustNot(t, !ok || len(grown) != impl.MaxTests, "GrowSuite of MaxTests", x, grown, ok)
		grown, ok = impl.GrowSuite(m, append(suite, []int{1, 1, 1}), x.t)
		mustNot(t, ok || len(grown) != 0, "GrowSuite of one more", x, grown, ok)
	}
	full := append(times(impl.MaxTests-2, 2, 2, 1), read("000,110")...)
	grown, ok := impl.GrowSuite(m, full, 1)
	mustNot(t, !ok || !sameLists(grown, full), "GrowSuite of MaxTests that are covering", grown, ok)
	grown, ok = impl.GrowSuite(m, full, 2)
	mustNot(t, ok || len(grown) != 0, "GrowSuite of MaxTests that are not covering", grown, ok)
}

// Promise 11.
func TestGrownSuitesCoverLess(t *testing.T) {
	for _, m := range allModels() {
		if len(m) == impl.MaxFactors && m[0] != 2 {
			continue
		}
		for strength := range len(m) + 1 {
			grown, ok := impl.GrowSuite(m, nil, strength)
			if !ok {
				continue
			}
			mustNot(t, len(grown) < impl.LeastTests(m, strength), "number of tests", m, strength, grown)
			for less := range strength + 1 {
				mustNot(t, !impl.IsCovering(m, grown, less), "IsCovering of fewer factors", m, strength, less)
			}
		}
	}
}

// Promise 22.
func TestTheLeastNumberRisesWithStrength(t *testing.T) {
	for _, m := range allModels() {
		mustNot(t, impl.LeastTests(m, 0) != 1, "LeastTests of no factors", m)
		mustNot(t, impl.LeastTests(m, len(m)) != len(impl.AllTests(m)), "LeastTests of all factors", m)
		for strength := range len(m) + 1 {
			least := impl.LeastTests(m, strength)
			mustNot(t, least != leastOf(m, strength), "LeastTests", m, strength, least)
			mustNot(t, strength > 0 && least < impl.LeastTests(m, strength-1), "LeastTests of one factor more", m, strength)
		}
		for _, strength := range []int{-1, len(m) + 1, 1 << 62, -1 << 63} {
			mustNot(t, impl.LeastTests(m, strength) != -1, "LeastTests of no strength", m, strength)
		}
	}
	for _, bad := range invalidModels() {
		for strength := -1; strength <= len(bad)+1; strength++ {
			mustNot(t, impl.LeastTests(bad, strength) != -1, "LeastTests of no model", bad, strength)
		}
	}
}

func TestLeastTests(t *testing.T) {
	for _, x := range []struct {
		m    []int
		t    int
		want int
	}{
		{[]int{1}, 0, 1}, {[]int{1}, 1, 1}, {[]int{3}, 1, 3},
		{[]int{1, 3, 2}, 1, 3}, {[]int{1, 3, 2}, 2, 6}, {[]int{1, 3, 2}, 3, 6},
		{[]int{3, 2, 1, 3, 2}, 3, 18}, {[]int{3, 3, 3, 3, 3}, 5, 243},
	} {
		got := impl.LeastTests(x.m, x.t)
		mustNot(t, got != x.want, "LeastTests", x, got)
	}
}

// coversWith reports whether n of the tests agree with all patterns.
func coversWith(tests, patterns [][]int, n int) bool {
	if len(patterns) == 0 {
		return true
	}
	if n > len(tests) || n == 0 {
		return false
	}
	open := slices.DeleteFunc(slices.Clone(patterns), func(p []int) bool { return agrees(p, tests[0]) })
	return coversWith(tests[1:], open, n-1) || coversWith(tests[1:], patterns, n)
}

// Promise 23.
func TestTheFewestTestsAreBetween(t *testing.T) {
	searched := 0
	for _, m := range allModels() {
		tests := patternsByCounting(m, len(m))
		for strength := range len(m) + 1 {
			fewest := impl.FewestTests(m, strength)
			if len(tests) > impl.MaxSearch {
				mustNot(t, fewest != -1, "FewestTests of more than MaxSearch", m, strength, fewest)
				continue
			}
			searched++
			patterns := patternsByCounting(m, strength)
			mustNot(t, !coversWith(tests, patterns, fewest), "FewestTests is too few", m, strength, fewest)
			mustNot(t, coversWith(tests, patterns, fewest-1), "FewestTests is not the least", m, strength, fewest)
			grown, ok := impl.GrowSuite(m, nil, strength)
			mustNot(t, !ok || fewest > len(grown) || fewest < impl.LeastTests(m, strength), "FewestTests is not between", m, strength, fewest)
			mustNot(t, strength == len(m) && fewest != len(tests), "FewestTests for all factors", m, fewest)
		}
		for _, strength := range []int{-1, len(m) + 1, 1 << 62, -1 << 63} {
			mustNot(t, impl.FewestTests(m, strength) != -1, "FewestTests of no strength", m, strength)
		}
	}
	mustNot(t, searched < 300, "models that are searched", searched)
	for _, bad := range invalidModels() {
		for strength := -1; strength <= len(bad)+1; strength++ {
			mustNot(t, impl.FewestTests(bad, strength) != -1, "FewestTests of no model", bad, strength)
		}
	}
}

func TestFewestTests(t *testing.T) {
	for _, x := range []struct {
		m    []int
		t    int
		want int
	}{
		{[]int{1}, 0, 1}, {[]int{1}, 1, 1}, {[]int{3}, 0, 1}, {[]int{3}, 1, 3},
		{[]int{1, 1, 1, 1, 1}, 0, 1}, {[]int{1, 1, 1, 1, 1}, 3, 1}, {[]int{1, 1, 1, 1, 1}, 5, 1},
		{[]int{2, 2, 2}, 1, 2}, {[]int{2, 2, 2}, 2, 4}, {[]int{2, 1, 2, 1, 2}, 2, 4}, {[]int{2, 1, 2, 1, 2}, 3, 8},
		{[]int{3, 3}, 0, 1}, {[]int{3, 3}, 1, 3}, {[]int{3, 3}, 2, 9}, {[]int{3, 1, 1, 1, 3}, 1, 3},
		{[]int{3, 2, 2}, 0, -1}, {[]int{3, 2, 2}, 1, -1}, {[]int{3, 1, 2, 2, 1}, 5, -1}, {[]int{3, 3, 3, 3, 3}, 1, -1},
	} {
		got := impl.FewestTests(x.m, x.t)
		mustNot(t, got != x.want, "FewestTests", x, got)
	}
}

// refusesGrowth checks the fixed results for arguments that are not those of
// IsCovering.
func refusesGrowth(t *testing.T, m []int, suite [][]int, strength int) {
	t.Helper()
	mustNot(t, impl.FreshOf(m, suite, make([]int, len(m)), strength) != -1, "FreshOf", m, suite, strength)
	mustNot(t, len(impl.BestTest(m, suite, strength)) != 0, "BestTest", m, suite, strength)
	grown, ok := impl.GrowSuite(m, suite, strength)
	mustNot(t, ok || len(grown) != 0, "GrowSuite", m, suite, strength)
}

func TestInvalidArgumentsOfGrowth(t *testing.T) {
	refused(t, refusesGrowth)
}
