package tests

import (
	"slices"
	"testing"

	"loop.example/coveringtests/impl"
)

// judged are a suite and whether each test of it fails.
type judged struct {
	sample
	fails []bool
}

// judgedFaults are a suite and the faults of which it is to tell.
type judgedFaults struct {
	sample
	faults [][]int
}

// bools returns the results of a text, with 1 for a test that fails.
func bools(s string) []bool {
	var out []bool
	for _, c := range s {
		out = append(out, c == '1')
	}
	return out
}

// resultsByTrying returns what ResultsOf is to return.
func resultsByTrying(suite, faults [][]int) []bool {
	var out []bool
	for _, test := range suite {
		out = append(out, inOne(faults, test))
	}
	return out
}

// faultSamples returns faults of many kinds, each with suites for them: of no
// tests, of all tests or the first MaxTests of them, and scattered ones in which
// a test comes twice.
func faultSamples() []judgedFaults {
	var out []judgedFaults
	for i, s := range banSamples() {
		all := patternsByCounting(s.m, len(s.m))
		suites := [][][]int{nil, all[:min(len(all), impl.MaxTests)]}
		for size := 1; size < 8; size += 3 {
			var suite [][]int
			for j := range size {
				suite = append(suite, all[(i+j*j+17*j)%len(all)])
			}
			suites = append(suites, append(suite, suite[size/2]))
		}
		for _, suite := range suites {
			out = append(out, judgedFaults{sample{s.m, suite}, s.bans})
		}
	}
	return out
}

// judgedSamples returns suites of many kinds with results of many kinds: none
// that fail and all that fail, those of faults, and those that no fault tells.
func judgedSamples() []judged {
	var out []judged
	add := func(s sample, fails []bool) {
		out = append(out, judged{s, fails})
	}
	seed := uint64(3)
	for _, s := range samples() {
		add(s, make([]bool, len(s.suite)))
		all := make([]bool, len(s.suite))
		some := make([]bool, len(s.suite))
		for i := range s.suite {
			seed = seed*6364136223846793005 + 1442695040888963407
			all[i], some[i] = true, seed>>63 == 1
		}
		add(s, all)
		add(s, some)
	}
	for _, s := range faultSamples() {
		add(s.sample, resultsByTrying(s.suite, s.faults))
	}
	return out
}

// Promise 40.
func TestTestsFailThatAreBanned(t *testing.T) {
	failing, fine := 0, 0
	for _, s := range faultSamples() {
		fails := impl.ResultsOf(s.m, s.suite, s.faults)
		mustNot(t, !slices.Equal(fails, resultsByTrying(s.suite, s.faults)), "ResultsOf", s, fails)
		allowed := impl.AllowedTests(s.m, s.faults)
		for i, test := range s.suite {
			mustNot(t, fails[i] == amongThem(allowed, test), "ResultsOf and AllowedTests", s, test)
			if fails[i] {
				failing++
			} else {
				fine++
			}
		}
	}
	mustNot(t, failing < 200 || fine < 200, "tests of the samples that fail", failing, fine)
}

func TestResultsOf(t *testing.T) {
	m := []int{2, 1, 3}
	for _, x := range []struct{ suite, faults, want string }{
		{"000,002,100,102", "", "0000"},
		{"000,002,100,102", "...", "1111"},
		{"000,002,100,102", "1..", "0011"},
		{"000,002,100,102", "1.2", "0001"},
		{"000,002,100,102", "1..,..2", "0111"},
		{"000,002,100,102", "..2,1..", "0111"},
		{"000,002,100,102", "1..,1..", "0011"},
		{"000,002,100,102", "1.2,..2,102", "0101"},
		{"000,002,100,102", "001,101,..1", "0000"},
		{"000,002,100,102", "001,101,..1,000,...", "1111"},
		{"102,000,102,000", ".02", "1010"},
		{"000,000", "000", "11"},
		{"", "", ""},
		{"", "...", ""},
	} {
		got := impl.ResultsOf(m, read(x.suite), read(x.faults))
		mustNot(t, !slices.Equal(got, bools(x.want)), "ResultsOf", x, got)
	}
	// Just the greatest numbers of tests and of faults, and one more of each.
	for _, x := range []struct{ tests, faults, want int }{
		{impl.MaxTests, impl.MaxBans, impl.MaxTests},
		{impl.MaxTests + 1, impl.MaxBans, 0},
		{impl.MaxTests, impl.MaxBans + 1, 0},
	} {
		got := impl.ResultsOf(m, times(x.tests, 1, 0, 0), times(x.faults, 1, Any, Any))
		mustNot(t, !slices.Equal(got, slices.Repeat([]bool{true}, x.want)), "ResultsOf of many", x, got)
	}
	got := impl.ResultsOf([]int{3}, read("0,1,2,1"), read("1,2"))
	mustNot(t, !slices.Equal(got, bools("0111")), "ResultsOf of one factor", got)
	got = impl.ResultsOf([]int{1, 1}, read("00,00"), read(".0"))
	mustNot(t, !slices.Equal(got, bools("11")), "ResultsOf of factors of one level", got)
}

// Promise 41.
func TestSuspectsAreNotCleared(t *testing.T) {
	some := 0
	for _, s := range judgedSamples() {
		for strength := range len(s.m) + 1 {
			var want [][]int
			for _, p := range patternsByCounting(s.m, strength) {
				met, cleared := false, false
				for i, test := range s.suite {
					met = met || s.fails[i] && agrees(p, test)
					cleared = cleared || !s.fails[i] && agrees(p, test)
				}
				if met && !cleared {
					want = append(want, p)
				}
			}
			got := impl.SuspectsOf(s.m, s.suite, s.fails, strength)
			mustNot(t, !sameLists(got, want), "SuspectsOf", s, strength, got, want)
			some += len(got)
			for _, p := range got {
				matched := 0
				for i, test := range s.suite {
					matches := impl.Matches(s.m, p, test)
					mustNot(t, matches && !s.fails[i], "SuspectsOf has one that is cleared", s, strength, p)
					if matches {
						matched++
					}
				}
				mustNot(t, matched == 0, "SuspectsOf has one that no test matches", s, strength, p)
			}
		}
	}
	mustNot(t, some < 1000, "suspects of the samples", some)
}

// Promise 42.
func TestFaultsAreSuspects(t *testing.T) {
	for _, s := range samples() {
		for strength := range len(s.m) + 1 {
			for _, p := range impl.AllPatterns(s.m, strength) {
				fails := impl.ResultsOf(s.m, s.suite, [][]int{p})
				suspect := amongThem(impl.SuspectsOf(s.m, s.suite, fails, strength), p)
				mustNot(t, suspect != (impl.HowOften(s.m, s.suite, p) > 0), "SuspectsOf the results of a fault", s, p)
			}
			if len(s.m) == impl.MaxFactors {
				break
			}
		}
	}
}

func TestSuspectsOf(t *testing.T) {
	for _, x := range []struct {
		m            []int
		suite, fails string
		t            int
		want         string
	}{
		{[]int{2, 2, 2}, "000,011,101,110", "0010", 2, "10.,1.1,.01"},
		{[]int{2, 2, 2}, "000,011,101,110", "0010", 1, ""},
		{[]int{2, 2, 2}, "000,011,101,110", "0010", 3, "101"},
		{[]int{2, 2, 2}, "000,011,101,110", "0010", 0, ""},
		{[]int{2, 2, 2}, "000,011,101,110", "0011", 1, "1.."},
		{[]int{2, 2, 2}, "000,011,101,110", "0000", 2, ""},
		{[]int{2, 2, 2}, "000,011,101,110", "0000", 0, ""},
		{[]int{2, 2, 2}, "000,011,101,110", "1111", 0, "..."},
		{[]int{2, 2, 2}, "000,011,101,110", "1111", 1, "0..,1..,.0.,.1.,..0,..1"},
		{[]int{2, 2, 2}, "000", "1", 2, "00.,0.0,.00"},
		{[]int{2, 2, 2}, "000,000", "10", 2, ""},
		{[]int{2, 2, 2}, "000,000", "11", 3, "000"},
		{[]int{2, 2, 2}, "", "", 0, ""},
		{[]int{2, 2, 2}, "", "", 2, ""},
		{[]int{2, 2, 2}, "111,000", "10", -1, ""},
		{[]int{2, 2, 2}, "111,000", "10", 3, "111"},
		{[]int{2, 2, 2}, "111,000", "10", 4, ""},
		{[]int{2, 2, 2}, "111,000", "1", 1, ""},
		{[]int{2, 2, 2}, "111,000", "110", 1, ""},
		{[]int{2, 2, 2}, "111,000", "", 1, ""},
		{[]int{2, 2, 2}, "", "1", 0, ""},
		{[]int{3}, "0,1,2", "011", 1, "1,2"},
		{[]int{3}, "0,1,2", "011", 2, ""},
		{[]int{1}, "0", "1", 0, "."},
		{[]int{1}, "0", "1", 1, "0"},
		{[]int{1, 2, 1}, "000,010", "01", 2, "01.,.10"},
		{[]int{1, 2, 1}, "000,010", "01", 1, ".1."},
		{[]int{1, 1}, "00", "1", 1, "0.,.0"},
	} {
		got := write(impl.SuspectsOf(x.m, read(x.suite), bools(x.fails), x.t))
		mustNot(t, got != x.want, "SuspectsOf", x, got)
	}
}

// culpritsByTrying returns what CulpritsOf is to return.
func culpritsByTrying(s judged, t int) [][]int {
	return slices.DeleteFunc(patternsByCounting(s.m, t), func(p []int) bool {
		return !slices.Equal(resultsByTrying(s.suite, [][]int{p}), s.fails)
	})
}

// Promise 43.
func TestCulpritsTellTheResults(t *testing.T) {
	some, nobody := 0, 0
	for _, s := range judgedSamples() {
		for strength := range len(s.m) + 1 {
			got := impl.CulpritsOf(s.m, s.suite, s.fails, strength)
			mustNot(t, !sameLists(got, culpritsByTrying(s, strength)), "CulpritsOf", s, strength, got)
			some += len(got)
			if len(got) == 0 {
				nobody++
			}
			suspects := impl.SuspectsOf(s.m, s.suite, s.fails, strength)
			for _, p := range got {
				fails := impl.ResultsOf(s.m, s.suite, [][]int{p})
				mustNot(t, !slices.Equal(fails, s.fails), "ResultsOf CulpritsOf", s, strength, p)
				suspect := amongThem(suspects, p)
				mustNot(t, suspect != slices.Contains(s.fails, true), "CulpritsOf and SuspectsOf", s, strength, p)
			}
		}
	}
	mustNot(t, some < 1000 || nobody < 200, "culprits of the samples", some, nobody)
}

func TestCulpritsOf(t *testing.T) {
	for _, x := range []struct {
		m            []int
		suite, fails string
		t            int
		want         string
	}{
		{[]int{2, 2, 2}, "000,011,101,110", "0010", 2, "10.,1.1,.01"},
		{[]int{2, 2, 2}, "000,011,101,110", "0010", 1, ""},
		{[]int{2, 2, 2}, "000,011,101,110", "1100", 1, "0.."},
		{[]int{2, 2, 2}, "000,011,101,110", "1100", 2, ""},
		{[]int{2, 2, 2}, "000,011,101,110", "1110", 1, ""},
		{[]int{2, 2, 2}, "000,011,101,110", "1110", 3, ""},
		{[]int{2, 2, 2}, "000,011,101,110", "1111", 0, "..."},
		{[]int{2, 2, 2}, "000,011,101,110", "1111", 1, ""},
		{[]int{2, 2, 2}, "000,011,101,110", "0000", 0, ""},
		{[]int{2, 2, 2}, "000,011,101,110", "0000", 2, ""},
		{[]int{2, 2, 2}, "000,011,101,110", "0000", 3, "001,010,100,111"},
		{[]int{2, 2, 2}, "000,001", "11", 2, "00."},
		{[]int{2, 2, 2}, "000,001", "11", 1, "0..,.0."},
		{[]int{2, 2, 2}, "000,000", "11", 3, "000"},
		{[]int{2, 2, 2}, "000,000", "10", 3, ""},
		{[]int{2, 2, 2}, "000,000", "10", 0, ""},
		{[]int{2, 2, 2}, "", "", 0, "..."},
		{[]int{2, 2, 2}, "", "", 1, "0..,1..,.0.,.1.,..0,..1"},
		{[]int{2, 2, 2}, "", "", 4, ""},
		{[]int{2, 2, 2}, "", "", -1, ""},
		{[]int{2, 2, 2}, "", "0", 0, ""},
		{[]int{2, 2, 2}, "", "1", 0, ""},
		{[]int{2, 2, 2}, "111,000", "1", 1, ""},
		{[]int{2, 2, 2}, "111,000", "100", 1, ""},
		{[]int{2, 2, 2}, "111,000", "", 1, ""},
		{[]int{3}, "0,1,2", "010", 1, "1"},
		{[]int{3}, "0,1,2", "011", 1, ""},
		{[]int{3}, "0,0", "00", 1, "1,2"},
		{[]int{1}, "0", "1", 0, "."},
		{[]int{1}, "0", "1", 1, "0"},
		{[]int{1}, "0", "0", 1, ""},
		{[]int{1, 2, 1}, "000,010", "11", 1, "0..,..0"},
		{[]int{1, 2, 1}, "000,010", "01", 2, "01.,.10"},
	} {
		got := write(impl.CulpritsOf(x.m, read(x.suite), bools(x.fails), x.t))
		mustNot(t, got != x.want, "CulpritsOf", x, got)
	}
}

func TestResultsOfTwoFaults(t *testing.T) {
	m := []int{2, 2, 2}
	suite := read("000,011,101,110")
	// The third test fails by both, the last one by the second fault alone.
	fails := impl.ResultsOf(m, suite, read(".01,1.."))
	mustNot(t, !slices.Equal(fails, bools("0011")), "ResultsOf two faults", fails)
	suspects := write(impl.SuspectsOf(m, suite, fails, 1))
	mustNot(t, suspects != "1..", "SuspectsOf two faults", suspects)
	suspects = write(impl.SuspectsOf(m, suite, fails, 2))
	mustNot(t, suspects != "10.,11.,1.0,1.1,.01,.10", "SuspectsOf two faults", suspects)
	culprits := write(impl.CulpritsOf(m, suite, fails, 2))
	mustNot(t, culprits != "", "CulpritsOf two faults of two levels", culprits)
	culprits = write(impl.CulpritsOf(m, suite, fails, 1))
	mustNot(t, culprits != "1..", "CulpritsOf two faults", culprits)
}

// refusesResults checks the fixed results for arguments that are not those of
// SuspectsOf.
func refusesResults(t *testing.T, m []int, suite [][]int, strength int) {
	t.Helper()
	for _, fails := range []bool{true, false} {
		all := slices.Repeat([]bool{fails}, len(suite))
		mustNot(t, len(impl.SuspectsOf(m, suite, all, strength)) != 0, "SuspectsOf", m, suite, fails, strength)
		mustNot(t, len(impl.CulpritsOf(m, suite, all, strength)) != 0, "CulpritsOf", m, suite, fails, strength)
	}
}

func TestInvalidArgumentsOfResults(t *testing.T) {
	refused(t, refusesResults)
	m := []int{2, 1, 3}
	for _, suite := range [][][]int{times(impl.MaxTests+1, 0, 0, 0), read("000,00"), read("000,200"), read("0.0"), {nil}, {{0, 0, 0}, {0, 0, -1 << 63}}} {
		for _, faults := range [][][]int{nil, read("..."), read("0..")} {
			mustNot(t, len(impl.ResultsOf(m, suite, faults)) != 0, "ResultsOf of no suite", suite, faults)
		}
	}
	for _, faults := range invalidBans() {
		mustNot(t, len(impl.ResultsOf(m, read("000,001"), faults)) != 0, "ResultsOf of no faults", faults)
	}
	for _, bad := range invalidModels() {
		test, free := make([]int, len(bad)), slices.Repeat([]int{Any}, len(bad))
		mustNot(t, len(impl.ResultsOf(bad, times(2, test...), times(1, free...))) != 0, "ResultsOf of no model", bad)
	}
}
