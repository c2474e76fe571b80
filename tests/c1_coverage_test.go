package tests

import (
	"maps"
	"slices"
	"testing"

	"loop.example/coveringtests/impl"
)

// leastOf returns the product of the t greatest numbers of a model.
func leastOf(m []int, t int) int {
	sorted := slices.Sorted(slices.Values(m))
	product := 1
	for _, levels := range sorted[len(sorted)-t:] {
		product *= levels
	}
	return product
}

// Promise 9.
func TestWhatIsMissingIsMatchedByNoTest(t *testing.T) {
	for _, s := range samples() {
		for strength := range len(s.m) + 1 {
			missing := impl.MissingOf(s.m, s.suite, strength)
			mustNot(t, !sameLists(missing, unmet(s.m, s.suite, strength)), "MissingOf", s, strength, missing)
			for _, p := range missing {
				mustNot(t, impl.HowOften(s.m, s.suite, p) != 0, "HowOften a missing pattern", s, p)
			}
			if len(s.suite) == 0 {
				continue
			}
			before := impl.MissingOf(s.m, s.suite[:len(s.suite)-1], strength)
			for _, p := range missing {
				found := slices.ContainsFunc(before, func(x []int) bool { return slices.Equal(x, p) })
				mustNot(t, !found, "MissingOf with one more test", s, p)
			}
		}
	}
}

// Promise 10.
func TestCoverageIsOfAllPatterns(t *testing.T) {
	for _, s := range samples() {
		for strength := range len(s.m) + 1 {
			covered, all := impl.CoverageOf(s.m, s.suite, strength)
			mustNot(t, all != len(patternsByCounting(s.m, strength)) || all != len(impl.AllPatterns(s.m, strength)), "CoverageOf", s, strength, all)
			mustNot(t, covered+len(impl.MissingOf(s.m, s.suite, strength)) != all, "CoverageOf", s, strength, covered)
		}
	}
}

func TestCoverageOfFewTests(t *testing.T) {
	m := []int{2, 2, 2}
	for _, x := range []struct {
		suite        string
		t            int
		missing      string
		covered, all int
	}{
		{"", 0, "...", 0, 1},
		{"", 1, "0..,1..,.0.,.1.,..0,..1", 0, 6},
		{"000", 0, "", 1, 1},
		{"000", 1, "1..,.1.,..1", 3, 6},
		{"000,000", 1, "1..,.1.,..1", 3, 6},
		{"000,111", 1, "", 6, 6},
		{"000,111", 2, "01.,0.1,10.,1.0,.01,.10", 6, 12},
		{"000,011,101,110", 2, "", 12, 12},
		{"000,011,101,110", 3, "001,010,100,111", 4, 8},
		{"000,001,010,011,100,101,110,111", 3, "", 8, 8},
	} {
		suite := read(x.suite)
		mustNot(t, write(impl.MissingOf(m, suite, x.t)) != x.missing, "MissingOf", x)
		covered, all := impl.CoverageOf(m, suite, x.t)
		mustNot(t, covered != x.covered || all != x.all, "CoverageOf", x, covered, all)
		mustNot(t, impl.IsCovering(m, suite, x.t) != (x.missing == ""), "IsCovering", x)
	}
}

// One test covers all patterns of factors of one level.
func TestFactorsOfOneLevel(t *testing.T) {
	m := []int{1, 1, 1, 1, 1}
	for strength := range len(m) + 1 {
		one := times(1, 0, 0, 0, 0, 0)
		mustNot(t, !impl.IsCovering(m, one, strength), "IsCovering", strength)
		mustNot(t, impl.IsCovering(m, nil, strength), "IsCovering of no tests", strength)
		mustNot(t, len(impl.SpareTests(m, one, strength)) != 0, "SpareTests", strength)
		full := times(impl.MaxTests, 0, 0, 0, 0, 0)
		mustNot(t, len(impl.SpareTests(m, full, strength)) != impl.MaxTests, "SpareTests of the same tests", strength)
		mustNot(t, !sameLists(impl.TrimSuite(m, full, strength), one), "TrimSuite of the same tests", strength)
	}
}

// Promise 11.
func TestCoveringSuitesCoverLess(t *testing.T) {
	covering := 0
	for _, s := range samples() {
		for strength := range len(s.m) + 1 {
			is := impl.IsCovering(s.m, s.suite, strength)
			mustNot(t, is != (len(unmet(s.m, s.suite, strength)) == 0), "IsCovering", s, strength)
			if !is {
				continue
			}
			covering++
			mustNot(t, strength > 0 && !impl.IsCovering(s.m, s.suite, strength-1), "IsCovering of one factor less", s, strength)
			mustNot(t, len(s.suite) < leastOf(s.m, strength), "number of tests", s, strength)
		}
	}
	mustNot(t, covering < 50, "covering suites among the samples", covering)
}

// Promise 12.
func TestLevelsPartTheTests(t *testing.T) {
	for _, s := range samples() {
		for _, p := range everyPattern(s.m) {
			often := impl.HowOften(s.m, s.suite, p)
			mustNot(t, often != countOf(s.suite, p), "HowOften", s, p, often)
			for f := range p {
				if p[f] != Any {
					continue
				}
				together := 0
				for level := range s.m[f] {
					q := slices.Clone(p)
					q[f] = level
					together += impl.HowOften(s.m, s.suite, q)
				}
				mustNot(t, together != often, "HowOften of all levels", s, p, f)
			}
		}
	}
}

func TestHowOften(t *testing.T) {
	m := []int{2, 3}
	suite := read("00,00,01,12")
	for s, n := range map[string]int{"..": 4, "0.": 3, ".0": 2, "00": 2, "12": 1, "11": 0} {
		mustNot(t, impl.HowOften(m, suite, read(s)[0]) != n, "HowOften", s)
		mustNot(t, impl.HowOften(m, nil, read(s)[0]) != 0, "HowOften of no tests", s)
	}
	mustNot(t, impl.HowOften(m, times(impl.MaxTests, 1, 2), []int{Any, Any}) != impl.MaxTests, "HowOften of MaxTests")
	mustNot(t, impl.HowOften(m, times(impl.MaxTests+1, 1, 2), []int{Any, Any}) != -1, "HowOften of one more")
	for _, p := range [][]int{nil, {0}, {2, 0}, {0, 3}, {0, -2}, {0, 0, 0}} {
		mustNot(t, impl.HowOften(m, suite, p) != -1, "HowOften no pattern", p)
	}
	mustNot(t, impl.HowOften(m, read("00,0."), []int{Any, Any}) != -1, "HowOften of no suite")
	for _, bad := range invalidModels() {
		mustNot(t, impl.HowOften(bad, nil, make([]int, len(bad))) != -1, "HowOften of no model", bad)
	}
}

// balanced tells by the least and the greatest counts of the patterns with
// levels for the same factors whether a suite is.
func balanced(m []int, suite [][]int, t int) bool {
	least, greatest := map[string]int{}, map[string]int{}
	for _, p := range patternsByCounting(m, t) {
		factors := ""
		for f, x := range p {
			if x != Any {
				factors += string(rune('A' + f))
			}
		}
		n := countOf(suite, p)
		if old, ok := least[factors]; !ok || n < old {
			least[factors] = n
		}
		greatest[factors] = max(greatest[factors], n)
	}
	return maps.Equal(least, greatest)
}

// Promise 13.
func TestBalancedSuitesAreBalancedForLess(t *testing.T) {
	found := 0
	for _, s := range samples() {
		for strength := range len(s.m) + 1 {
			is := impl.IsBalanced(s.m, s.suite, strength)
			mustNot(t, is != balanced(s.m, s.suite, strength), "IsBalanced", s, strength)
			if !is {
				continue
			}
			found++
			mustNot(t, strength > 0 && !impl.IsBalanced(s.m, s.suite, strength-1), "IsBalanced for one factor less", s, strength)
			mustNot(t, len(s.suite) > 0 && !impl.IsCovering(s.m, s.suite, strength), "IsCovering of a balanced suite", s, strength)
		}
	}
	mustNot(t, found < 50, "balanced suites among the samples", found)
}

func TestIsBalanced(t *testing.T) {
	m := []int{2, 3}
	for _, x := range []struct {
		suite string
		t     int
		want  bool
	}{
		{"", 0, true},
		{"", 2, true},
		{"00", 0, true},
		{"00", 1, false},
		{"00,11", 1, false},
		{"00,01,02,10,11,12", 2, true},
		{"00,01,02,10,11,12,00", 2, false},
		{"00,01,02,10,11,11", 1, false},
		{"00,00,01,11,12,12", 1, true},
		{"00,00,01,11,12,12", 2, false},
	} {
		mustNot(t, impl.IsBalanced(m, read(x.suite), x.t) != x.want, "IsBalanced", x)
	}
}

// Promise 14.
func TestTestsThatComeTwiceAreSpare(t *testing.T) {
	for _, s := range samples() {
		for strength := range len(s.m) + 1 {
			spare := impl.SpareTests(s.m, s.suite, strength)
			var want []int
			missing := unmet(s.m, s.suite, strength)
			for i, test := range s.suite {
				if sameLists(missing, unmet(s.m, leave(s.suite, i), strength)) {
					want = append(want, i)
				}
				more := countOf(s.suite, test) > 1
				mustNot(t, more && !slices.Contains(spare, i), "SpareTests without a test that comes once more", s, strength, i)
			}
			mustNot(t, !slices.Equal(spare, want), "SpareTests", s, strength, spare)
		}
	}
}

func TestSpareTests(t *testing.T) {
	m := []int{2, 2, 2}
	for _, x := range []struct {
		suite string
		t     int
		want  []int
	}{
		{"", 0, nil},
		{"", 2, nil},
		{"000", 0, nil},
		{"000,111", 0, []int{0, 1}},
		{"000,111", 1, nil},
		{"000,111,010", 1, []int{2}},
		{"010,000,111", 1, []int{0}},
		{"000,111,000", 3, []int{0, 2}},
		{"000,011,101,110", 1, []int{0, 1, 2, 3}},
		{"000,011,101,110", 2, nil},
	} {
		got := impl.SpareTests(m, read(x.suite), x.t)
		mustNot(t, !slices.Equal(got, x.want), "SpareTests", x, got)
	}
}

// Promise 15.
func TestTrimmedSuitesHaveNothingSpare(t *testing.T) {
	for _, s := range samples() {
		for strength := range len(s.m) + 1 {
			trimmed := impl.TrimSuite(s.m, s.suite, strength)
			want := s.suite
			for i := len(s.suite) - 1; i >= 0; i-- {
				if less := leave(want, i); len(unmet(s.m, less, strength)) == len(unmet(s.m, want, strength)) {
					want = less
				}
			}
			mustNot(t, !sameLists(trimmed, want), "TrimSuite", s, strength, trimmed)
			mustNot(t, !sameLists(impl.MissingOf(s.m, trimmed, strength), impl.MissingOf(s.m, s.suite, strength)), "MissingOf TrimSuite", s, strength)
			mustNot(t, len(impl.SpareTests(s.m, trimmed, strength)) != 0, "SpareTests of TrimSuite", s, strength)
			mustNot(t, !sameLists(impl.TrimSuite(s.m, trimmed, strength), trimmed), "TrimSuite of TrimSuite", s, strength)
		}
	}
}

func TestTrimSuite(t *testing.T) {
	m := []int{2, 2, 2}
	for _, x := range []struct {
		suite string
		t     int
		want  string
	}{
		{"", 0, ""},
		{"", 2, ""},
		{"101,000", 0, "101"},
		{"101,000,010", 1, "101,010"},
		{"110,000,011,101,110", 2, "110,000,011,101"},
		{"000,011,101,110", 1, "000,011,101"},
		{"000,000,111,000", 3, "000,111"},
	} {
		got := write(impl.TrimSuite(m, read(x.suite), x.t))
		mustNot(t, got != x.want, "TrimSuite", x, got)
	}
}

// refusesCoverage checks the fixed results for arguments that are not those
// of IsCovering.
func refusesCoverage(t *testing.T, m []int, suite [][]int, strength int) {
	t.Helper()
	covered, all := impl.CoverageOf(m, suite, strength)
	mustNot(t, covered != -1 || all != -1, "CoverageOf", m, suite, strength)
	mustNot(t, len(impl.MissingOf(m, suite, strength)) != 0, "MissingOf", m, suite, strength)
	mustNot(t, impl.IsCovering(m, suite, strength), "IsCovering", m, suite, strength)
	mustNot(t, impl.IsBalanced(m, suite, strength), "IsBalanced", m, suite, strength)
	mustNot(t, len(impl.SpareTests(m, suite, strength)) != 0, "SpareTests", m, suite, strength)
	mustNot(t, len(impl.TrimSuite(m, suite, strength)) != 0, "TrimSuite", m, suite, strength)
}

// refused calls a function with arguments that are not those of IsCovering.
func refused(t *testing.T, refuses func(t *testing.T, m []int, suite [][]int, strength int)) {
	t.Helper()
	m := []int{2, 1}
	// Tests that cover and are spare would show in each result.
	for _, suite := range [][][]int{read("00,10,00,10"), nil} {
		for _, strength := range []int{-1, 3, 4, 1 << 62, -1 << 63} {
			refuses(t, m, suite, strength)
		}
	}
	for strength := range len(m) + 1 {
		for _, suite := range [][][]int{append(times(impl.MaxTests, 0, 0), []int{1, 0}), read("00,10,00,20"), read("00,10,00,.0"), read("00,10,000"), {{0, 0}, {1, 0}, nil}} {
			refuses(t, m, suite, strength)
		}
	}
	for _, bad := range invalidModels() {
		for strength := -1; strength <= len(bad)+1; strength++ {
			refuses(t, bad, nil, strength)
			refuses(t, bad, times(2, make([]int, len(bad))...), strength)
		}
	}
}

func TestInvalidArgumentsOfCoverage(t *testing.T) {
	refused(t, refusesCoverage)
}

// The greatest model and the most tests are allowed.
func TestGreatestSuites(t *testing.T) {
	m := []int{3, 3, 3, 3, 3}
	suite := append(times(impl.MaxTests-1, 0, 0, 0, 0, 0), []int{2, 2, 2, 2, 2})
	for strength, all := range []int{1, 15, 90, 270, 405, 243} {
		covered, total := impl.CoverageOf(m, suite, strength)
		once := len(patternsByCounting([]int{1, 1, 1, 1, 1}, strength))
		want := 2 * once
		if strength == 0 {
			want = 1
		}
		mustNot(t, covered != want || total != all, "CoverageOf", strength, covered, total)
		trimmed := impl.TrimSuite(m, suite, strength)
		wantTests := "00000,22222"
		if strength == 0 {
			wantTests = "00000"
		}
		mustNot(t, write(trimmed) != wantTests, "TrimSuite", strength, trimmed)
	}
}
