package tests

import (
	"slices"
	"testing"

	"loop.example/coveringtests/impl"
)

// coversAllowed tells what IsAllowedCovering is to tell.
func coversAllowed(m []int, bans [][]int, suite [][]int, t int) bool {
	for _, test := range suite {
		if inOne(bans, test) {
			return false
		}
	}
	for _, p := range possibleByTrying(m, bans, t) {
		if countOf(suite, p) == 0 {
			return false
		}
	}
	return true
}

// suitesFor returns suites for bans: of no tests, of all allowed tests and all
// but one of them, and of one that is not allowed, too.
func suitesFor(s banned) [][][]int {
	suites := [][][]int{nil}
	allowed := allowedByTrying(s.m, s.bans)
	allowed = allowed[:min(len(allowed), impl.MaxTests-1)]
	suites = append(suites, allowed)
	for i := range allowed {
		suites = append(suites, leave(allowed, i))
	}
	for _, test := range patternsByCounting(s.m, len(s.m)) {
		if inOne(s.bans, test) {
			suites = append(suites, slices.Concat(allowed, [][]int{test}))
			break
		}
	}
	for strength := range len(s.m) + 1 {
		if grown, ok := impl.GrowAllowed(s.m, s.bans, strength); ok {
			suites = append(suites, grown)
		}
	}
	return suites
}

// Promise 37.
func TestAllowedSuitesCoverWhatIsPossible(t *testing.T) {
	covering, not := 0, 0
	for _, s := range banSamples() {
		for _, suite := range suitesFor(s) {
			for strength := range len(s.m) + 1 {
				is := impl.IsAllowedCovering(s.m, s.bans, suite, strength)
				mustNot(t, is != coversAllowed(s.m, s.bans, suite, strength), "IsAllowedCovering", s, suite, strength)
				if !is {
					not++
					continue
				}
				covering++
				mustNot(t, strength > 0 && !impl.IsAllowedCovering(s.m, s.bans, suite, strength-1), "IsAllowedCovering of one factor less", s, suite, strength)
			}
		}
	}
	mustNot(t, covering < 200 || not < 200, "allowed suites of the samples that cover", covering, not)
	for _, s := range samples() {
		for strength := range len(s.m) + 1 {
			is := impl.IsAllowedCovering(s.m, nil, s.suite, strength)
			mustNot(t, is != impl.IsCovering(s.m, s.suite, strength), "IsAllowedCovering without bans", s, strength)
		}
	}
}

func TestIsAllowedCovering(t *testing.T) {
	m := []int{2, 2, 2}
	for _, x := range []struct {
		bans, suite string
		t           int
		want        bool
	}{
		{"00.,.10", "011,100,101,111", 2, true},
		{"00.,.10", "111,101,100,011,011", 2, true},
		{"00.,.10", "011,100,101,111", 3, true},
		{"00.,.10", "100,101,111", 2, false},
		{"00.,.10", "100,011", 1, true},
		{"00.,.10", "100,011,000", 1, false},
		{"00.,.10", "010,100,011", 1, false},
		{"00.,.10", "111", 0, true},
		{"00.,.10", "000", 0, false},
		{"00.,.10", "111,000", 0, false},
		{"00.,.10", "", 0, false},
		{"00.,.10", "011,100,101,111", -1, false},
		{"00.,.10", "011,100,101,111", 4, false},
		{"...", "", 0, true},
		{"...", "", 3, true},
		{"...", "000", 0, false},
		{"0..,1..", "", 2, true},
		{"", "", 0, false},
		{"", "000", 0, true},
		{"", "000,011,101,110", 2, true},
		{"", "000,011,101,110", 3, false},
		{"111", "000,011,101,110", 2, true},
		{"000", "000,011,101,110", 2, false},
		{"00.", "11.", 0, false},
		{"00.", "111,1111", 0, false},
		{"00.", "11", 0, false},
		{"00.", "112", 0, false},
	} {
		got := impl.IsAllowedCovering(m, read(x.bans), read(x.suite), x.t)
		mustNot(t, got != x.want, "IsAllowedCovering", x, got)
	}
	// The tests of a suite may be MaxTests, and no more.
	for _, x := range []struct {
		size int
		want bool
	}{{impl.MaxTests, true}, {impl.MaxTests + 1, false}} {
		mustNot(t, impl.IsAllowedCovering(m, read("0.."), times(x.size, 1, 0, 0), 0) != x.want, "IsAllowedCovering of many tests", x)
	}
}

// grownAllowed returns what GrowAllowed is to return.
func grownAllowed(m []int, bans [][]int, t int) ([][]int, bool) {
	allowed := allowedByTrying(m, bans)
	open := possibleByTrying(m, bans, t)
	var grown [][]int
	for len(open) > 0 {
		if len(grown) == impl.MaxTests {
			return nil, false
		}
		best := firstBest(allowed, open)
		grown = append(grown, best)
		open = slices.DeleteFunc(open, func(p []int) bool { return agrees(p, best) })
	}
	return grown, true
}

// Promise 38.
func TestGrownAllowedSuitesCoverWhatIsPossible(t *testing.T) {
	grew, tooMany := 0, 0
	for _, s := range banSamples() {
		for strength := range len(s.m) + 1 {
			got, ok := impl.GrowAllowed(s.m, s.bans, strength)
			want, wantOK := grownAllowed(s.m, s.bans, strength)
			mustNot(t, ok != wantOK || !sameLists(got, want), "GrowAllowed", s, strength, got, ok)
			if len(s.bans) == 0 {
				suite, suiteOK := impl.GrowSuite(s.m, nil, strength)
				mustNot(t, ok != suiteOK || !sameLists(got, suite), "GrowAllowed without bans", s, strength, got, ok)
			}
			if !ok {
				tooMany++
				continue
			}
			grew++
			mustNot(t, !impl.IsAllowedCovering(s.m, s.bans, got, strength), "IsAllowedCovering GrowAllowed", s, strength, got)
			for _, test := range got {
				mustNot(t, !amongThem(impl.AllowedTests(s.m, s.bans), test), "GrowAllowed of a test that is banned", s, strength, test)
			}
		}
	}
	mustNot(t, grew < 300 || tooMany < 10, "allowed suites that are grown", grew, tooMany)
	for _, m := range allModels() {
		if len(m) == impl.MaxFactors && m[0] != 2 {
			continue
		}
		for strength := range len(m) + 1 {
			got, ok := impl.GrowAllowed(m, nil, strength)
			suite, suiteOK := impl.GrowSuite(m, nil, strength)
			mustNot(t, ok != suiteOK || !sameLists(got, suite), "GrowAllowed without bans", m, strength, got, ok)
		}
	}
}

func TestGrowAllowed(t *testing.T) {
	for _, x := range []struct {
		m    []int
		bans string
		t    int
		want string
		ok   bool
	}{
		{[]int{2, 2, 2}, "00.,.10", 0, "011", true},
		{[]int{2, 2, 2}, "00.,.10", 1, "011,100", true},
		{[]int{2, 2, 2}, "00.,.10", 2, "011,100,101,111", true},
		{[]int{2, 2, 2}, "00.,.10", 3, "011,100,101,111", true},
		{[]int{2, 2, 2}, "00.,.10", -1, "", false},
		{[]int{2, 2, 2}, "00.,.10", 4, "", false},
		{[]int{2, 2, 2}, "", 2, "000,011,101,110", true},
		{[]int{2, 2, 2}, "000", 2, "001,010,100,111", true},
		{[]int{2, 2, 2}, "...", 0, "", true},
		{[]int{2, 2, 2}, "...", 3, "", true},
		{[]int{2, 2, 2}, "0..,1..", 1, "", true},
		{[]int{3}, "1", 1, "0,2", true},
		{[]int{1}, "", 0, "0", true},
		{[]int{1}, "", 1, "0", true},
		{[]int{1}, "0", 1, "", true},
		{[]int{1, 3, 1}, "010", 2, "000,020", true},
		{[]int{1, 1, 1, 1, 1}, "", 5, "00000", true},
		{[]int{3, 3, 3, 3, 3}, "22222", 5, "", false},
	} {
		got, ok := impl.GrowAllowed(x.m, read(x.bans), x.t)
		mustNot(t, ok != x.ok || write(got) != x.want, "GrowAllowed", x, got, ok)
	}
}

func TestGrowAllowedUpToMaxTests(t *testing.T) {
	m := []int{3, 3, 3}
	// For all factors each allowed test is needed.
	just := read("00.,11.,222")
	allowed := impl.AllowedTests(m, just)
	mustNot(t, len(allowed) != impl.MaxTests, "tests that are left", len(allowed))
	got, ok := impl.GrowAllowed(m, just, 3)
	mustNot(t, !ok || !sameLists(got, allowed), "GrowAllowed of MaxTests", got, ok)
	for _, bans := range []string{"00.,11.", "00.,11.,111", "", "000"} {
		got, ok := impl.GrowAllowed(m, read(bans), 3)
		mustNot(t, !none(got, ok), "GrowAllowed of more than MaxTests", bans, got, ok)
	}
}
