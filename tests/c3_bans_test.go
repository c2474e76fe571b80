package tests

import (
	"slices"
	"testing"

	"loop.example/coveringtests/impl"
)

// banned are bans with their model.
type banned struct {
	m    []int
	bans [][]int
}

// banSamples returns bans of many kinds: none and MaxBans, bans that ban all,
// without a level, that come twice, that follow from others, and scattered ones.
func banSamples() []banned {
	var out []banned
	for _, x := range []struct {
		m    []int
		bans []string
	}{
		{[]int{1}, []string{"", ".", "0", "0,0"}},
		{[]int{3}, []string{"", ".", "1", "0,2", "0,1,2", "2,2,2"}},
		{[]int{1, 1, 1}, []string{"", "...", "0..", "000", ".0.,0.0"}},
		{[]int{2, 2}, []string{"", "..", "0.,.0", "0.,1.", "00,11", "00,01", "00,0.", "00,01,10,11", "00,00"}},
		{[]int{1, 3, 2}, []string{"", "...", "0..", "001,011,021", "010,.11", ".1.", ".00,..1"}},
		{[]int{2, 2, 2}, []string{"", "...", "00.,.10", "0..,1..", "00.,01.,1.0,1.1", "00.,0.0,.10", "00.,00.,.10", "00.,1.1,.10", "000,011,101,110", "00.,11.,.10", "0..,.1.,..0"}},
		{[]int{3, 3, 2}, []string{"", "00.,11.,22.", "..0,..1", "0.0,.10,1.0,2.1", "00.,01.,02.", "0.1,1.1,2.1,000"}},
		{[]int{2, 1, 2, 2}, []string{"", "0...,.0.1", "00..,10.0,..01,..11", "....,0000"}},
		{[]int{3, 3, 3, 3, 3}, []string{"", ".....", "00...,11...,22...,..00.,...12", "00000,.....", "0....,1....,2...."}},
	} {
		for _, bans := range x.bans {
			out = append(out, banned{x.m, read(bans)})
		}
	}
	seed := uint64(7)
	next := func(n int) int {
		seed = seed*6364136223846793005 + 1442695040888963407
		return int(seed>>33) % n
	}
	for _, m := range [][]int{{3}, {2, 3}, {2, 2, 2}, {3, 1, 3}, {3, 2, 2}, {2, 2, 2, 2}, {1, 3, 2, 3}, {2, 2, 1, 2, 3}} {
		for size := range 3 * (impl.MaxBans + 1) {
			bans := [][]int{}
			for range size % (impl.MaxBans + 1) {
				p := slices.Repeat([]int{Any}, len(m))
				for range 1 + next(3) {
					f := next(len(m))
					p[f] = next(m[f])
				}
				bans = append(bans, p)
			}
			out = append(out, banned{m, bans})
		}
	}
	return out
}

// inOne reports whether one of the bans is in a test or a pattern.
func inOne(bans [][]int, p []int) bool {
	return slices.ContainsFunc(bans, func(ban []int) bool { return agrees(ban, p) })
}

// allowedByTrying returns what AllowedTests is to return.
func allowedByTrying(m []int, bans [][]int) [][]int {
	var out [][]int
	for _, test := range patternsByCounting(m, len(m)) {
		if !inOne(bans, test) {
			out = append(out, test)
		}
	}
	return out
}

// possibleByTrying returns what PossiblePatterns is to return.
func possibleByTrying(m []int, bans [][]int, t int) [][]int {
	allowed := allowedByTrying(m, bans)
	return slices.DeleteFunc(patternsByCounting(m, t), func(p []int) bool { return countOf(allowed, p) == 0 })
}

// amongThem reports whether a list is one of the lists.
func amongThem(lists [][]int, list []int) bool {
	return slices.ContainsFunc(lists, func(x []int) bool { return slices.Equal(x, list) })
}

// Promise 29.
func TestBansCanBeCut(t *testing.T) {
	for _, s := range banSamples() {
		for n := len(s.bans); n >= 0; n-- {
			mustNot(t, !impl.ValidBans(s.m, s.bans[:n]), "ValidBans of cut bans", s.m, s.bans[:n])
		}
	}
}

func TestValidBans(t *testing.T) {
	m := []int{2, 1, 3}
	for _, bans := range [][][]int{nil, {}, read("..."), read("1.2"), read("102"), read("0..,0..,..."), times(impl.MaxBans, Any, 0, 2)} {
		mustNot(t, !impl.ValidBans(m, bans), "ValidBans", bans)
	}
	for _, bans := range invalidBans() {
		mustNot(t, impl.ValidBans(m, bans), "ValidBans", bans)
	}
	for _, m := range allModels() {
		mustNot(t, !impl.ValidBans(m, nil), "ValidBans of none", m)
		all := everyPattern(m)
		for i, p := range all {
			mustNot(t, !impl.ValidBans(m, [][]int{p, all[0], all[len(all)-1-i]}), "ValidBans", m, p)
		}
	}
	for _, bad := range invalidModels() {
		mustNot(t, impl.ValidBans(bad, nil), "ValidBans of no model", bad)
		mustNot(t, impl.ValidBans(bad, times(1, make([]int, len(bad))...)), "ValidBans of no model", bad)
	}
}

// Promise 30.
func TestAllowedTestsMatchNoBan(t *testing.T) {
	for _, s := range banSamples() {
		allowed := impl.AllowedTests(s.m, s.bans)
		mustNot(t, !sameLists(allowed, allowedByTrying(s.m, s.bans)), "AllowedTests", s, allowed)
		for _, test := range impl.AllTests(s.m) {
			matches := slices.ContainsFunc(s.bans, func(ban []int) bool { return impl.Matches(s.m, ban, test) })
			mustNot(t, matches == amongThem(allowed, test), "AllowedTests", s, test)
		}
		for i := range s.bans {
			more := impl.AllowedTests(s.m, leave(s.bans, i))
			for _, test := range allowed {
				mustNot(t, !amongThem(more, test), "AllowedTests with fewer bans", s, i, test)
			}
		}
	}
}

func TestAllowedTests(t *testing.T) {
	m := []int{2, 1, 2}
	for bans, want := range map[string]string{
		"":                "000,001,100,101",
		"...":             "",
		".0.":             "",
		"0..":             "100,101",
		"0..,0..":         "100,101",
		"0..,1..":         "",
		"0.0,101":         "001,100",
		"000,001,100":     "101",
		"000,001,100,101": "",
		"0.0,000,00.,1.1": "100",
		"1..,..1,1.1,.01": "000",
	} {
		got := write(impl.AllowedTests(m, read(bans)))
		mustNot(t, got != want, "AllowedTests", bans, got)
	}
	most := impl.AllowedTests([]int{3, 3, 3, 3, 3}, times(impl.MaxBans, 2, 2, 2, 2, 2))
	mustNot(t, len(most) != 242, "AllowedTests with MaxBans bans", len(most))
	mustNot(t, len(impl.AllowedTests(m, times(impl.MaxBans+1, 0, 0, 0))) != 0, "AllowedTests with one more ban")
}

// Promises 31 and 32.
func TestWhatIsPossibleCanBeCompleted(t *testing.T) {
	for _, s := range banSamples() {
		allowed := allowedByTrying(s.m, s.bans)
		for _, p := range everyPattern(s.m) {
			first := slices.IndexFunc(allowed, func(test []int) bool { return agrees(p, test) })
			possible := impl.IsPossible(s.m, s.bans, p)
			mustNot(t, possible != (first >= 0), "IsPossible", s, p)
			test, ok := impl.CompleteTest(s.m, s.bans, p)
			mustNot(t, ok != possible, "CompleteTest of what is possible", s, p, test)
			if !ok {
				mustNot(t, len(test) != 0, "CompleteTest of what is not possible", s, p, test)
				continue
			}
			mustNot(t, !slices.Equal(test, allowed[first]), "CompleteTest", s, p, test)
			mustNot(t, !impl.Matches(s.m, p, test), "Matches CompleteTest", s, p, test)
			mustNot(t, !amongThem(impl.AllowedTests(s.m, s.bans), test), "CompleteTest is not allowed", s, p, test)
		}
	}
}

func TestCompleteTest(t *testing.T) {
	for _, x := range []struct {
		m             []int
		bans, p, want string
	}{
		{[]int{2, 2, 2}, "", "...", "000"},
		{[]int{2, 2, 2}, "", "1.1", "101"},
		{[]int{2, 2, 2}, "", "110", "110"},
		{[]int{2, 2, 2}, "00.,.10", "...", "011"},
		{[]int{2, 2, 2}, "00.,.10", "0.0", ""},
		{[]int{2, 2, 2}, "00.,.10", "1..", "100"},
		{[]int{2, 2, 2}, "00.,.10", "011", "011"},
		{[]int{2, 2, 2}, "00.,.10", "010", ""},
		{[]int{2, 2, 2}, "000,001,010,011", "...", "100"},
		{[]int{2, 2, 2}, "000,001,010,011,100", ".0.", "101"},
		{[]int{2, 2, 2}, "...", "...", ""},
		{[]int{2, 2, 2}, "...", "111", ""},
		{[]int{2, 2, 2}, "0..,1..", "..1", ""},
		{[]int{3}, "0,1", ".", "2"},
		{[]int{3}, "0,1,2", ".", ""},
		{[]int{1}, "", ".", "0"},
		{[]int{1}, "0", ".", ""},
		{[]int{1, 1, 1, 1, 1}, "0...0", ".....", ""},
		{[]int{3, 3, 3, 3, 3}, "0....,1....,.0...,.1...,....0", "..1..", "22101"},
	} {
		got, ok := impl.CompleteTest(x.m, read(x.bans), read(x.p)[0])
		mustNot(t, ok != (x.want != "") || write([][]int{got}) != x.want, "CompleteTest", x, got, ok)
		mustNot(t, impl.IsPossible(x.m, read(x.bans), read(x.p)[0]) != ok, "IsPossible", x)
	}
}

// Promise 33.
func TestPossiblePatternsAreMatchedByAllowedTests(t *testing.T) {
	for _, s := range banSamples() {
		for strength := range len(s.m) + 1 {
			got := impl.PossiblePatterns(s.m, s.bans, strength)
			mustNot(t, !sameLists(got, possibleByTrying(s.m, s.bans, strength)), "PossiblePatterns", s, strength, got)
			for _, p := range impl.AllPatterns(s.m, strength) {
				mustNot(t, impl.IsPossible(s.m, s.bans, p) != amongThem(got, p), "PossiblePatterns", s, strength, p)
			}
		}
	}
}

func TestPossiblePatterns(t *testing.T) {
	for _, x := range []struct {
		m    []int
		bans string
		t    int
		want string
	}{
		{[]int{2, 2}, "", 0, ".."},
		{[]int{2, 2}, "", 1, "0.,1.,.0,.1"},
		{[]int{2, 2}, "", 2, "00,01,10,11"},
		{[]int{2, 2}, "", 3, ""},
		{[]int{2, 2}, "", -1, ""},
		{[]int{2, 2}, "00,01", 0, ".."},
		{[]int{2, 2}, "00,01", 1, "1.,.0,.1"},
		{[]int{2, 2}, "00,01", 2, "10,11"},
		{[]int{2, 2}, "..", 0, ""},
		{[]int{2, 2}, "..", 1, ""},
		{[]int{2, 2}, "0.,1.", 0, ""},
		{[]int{2, 2}, "0.,1.", 2, ""},
		{[]int{1, 3}, "01", 1, "0.,.0,.2"},
		{[]int{3}, "1", 1, "0,2"},
		{[]int{3}, "1", 2, ""},
		{[]int{1, 1, 1, 1, 1}, "", 4, "0000.,000.0,00.00,0.000,.0000"},
	} {
		got := write(impl.PossiblePatterns(x.m, read(x.bans), x.t))
		mustNot(t, got != x.want, "PossiblePatterns", x, got)
	}
}

// invalidBans returns lists that are no bans of the model 2, 1, 3, with one too
// many and one that is too long among them.
func invalidBans() [][][]int {
	return [][][]int{
		times(impl.MaxBans+1, 0, 0, 0), times(impl.MaxBans+1, Any, Any, Any), times(100, 1, Any, 2),
		{nil}, {{}}, read(".."), read("...,0..."), read("...,2.."), read(".1.,..."), read("0.3"), read("...,..1,00"),
		{{Any, Any, Any}, {-2, Any, Any}}, {{Any, 1 << 62, Any}}, {{Any, Any, -1 << 63}},
	}
}

func TestInvalidArgumentsOfBans(t *testing.T) {
	m := []int{2, 1, 3}
	for _, bans := range invalidBans() {
		refusesBans(t, m, bans)
	}
	for _, bad := range invalidModels() {
		refusesBans(t, bad, nil)
		refusesBans(t, bad, times(1, slices.Repeat([]int{Any}, len(bad))...))
	}
	// With bans that are valid the results would show that there are none, and
	// that all tests are banned.
	for _, bans := range [][][]int{nil, read("..."), read("0..,1..")} {
		for _, strength := range []int{-1, 4, 5, 1 << 62, -1 << 63} {
			refusesStrength(t, m, bans, strength)
		}
		for _, p := range [][]int{nil, {}, {Any, Any}, {0, 0, 0, 0}, {2, 0, 0}, {Any, 1, Any}, {Any, Any, 3}, {-2, 0, 0}, {0, 1 << 62, 0}, {0, 0, -1 << 63}} {
			refusesPattern(t, m, bans, p)
		}
	}
}

// refusesBans checks the fixed results for a model or bans that are not valid.
func refusesBans(t *testing.T, m []int, bans [][]int) {
	t.Helper()
	mustNot(t, impl.ValidBans(m, bans), "ValidBans", m, bans)
	mustNot(t, len(impl.AllowedTests(m, bans)) != 0, "AllowedTests", m, bans)
	mustNot(t, len(impl.LeastBans(m, bans)) != 0, "LeastBans", m, bans)
	mustNot(t, impl.SameBans(m, bans, bans), "SameBans of no bans", m, bans)
	for _, others := range [][][]int{nil, times(1, slices.Repeat([]int{Any}, len(m))...)} {
		mustNot(t, impl.SameBans(m, bans, others) || impl.SameBans(m, others, bans), "SameBans of no bans", m, bans, others)
	}
	refusesPattern(t, m, bans, slices.Repeat([]int{Any}, len(m)))
	refusesPattern(t, m, bans, make([]int, len(m)))
	for strength := -1; strength <= len(m)+1; strength++ {
		refusesStrength(t, m, bans, strength)
	}
}

// refusesStrength checks the fixed results for arguments that are not those of
// PossiblePatterns.
func refusesStrength(t *testing.T, m []int, bans [][]int, strength int) {
	t.Helper()
	mustNot(t, len(impl.PossiblePatterns(m, bans, strength)) != 0, "PossiblePatterns", m, bans, strength)
	mustNot(t, len(impl.ImpliedBans(m, bans, strength)) != 0, "ImpliedBans", m, bans, strength)
	grown, ok := impl.GrowAllowed(m, bans, strength)
	mustNot(t, !none(grown, ok), "GrowAllowed", m, bans, strength)
	// All tests of the model 2, 1, 3 cover, and none do where all are banned.
	for _, suite := range [][][]int{nil, read("000,001,002,100,101,102")} {
		mustNot(t, impl.IsAllowedCovering(m, bans, suite, strength), "IsAllowedCovering", m, bans, suite, strength)
	}
}

// refusesPattern checks the fixed results for arguments that are not those of
// IsPossible.
func refusesPattern(t *testing.T, m []int, bans [][]int, p []int) {
	t.Helper()
	mustNot(t, impl.IsPossible(m, bans, p), "IsPossible", m, bans, p)
	test, ok := impl.CompleteTest(m, bans, p)
	mustNot(t, ok || len(test) != 0, "CompleteTest", m, bans, p)
	indices, ok := impl.ExplainBans(m, bans, p)
	mustNot(t, ok || len(indices) != 0, "ExplainBans", m, bans, p)
}
