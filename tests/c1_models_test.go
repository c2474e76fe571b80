package tests

import (
	"slices"
	"testing"

	"loop.example/coveringtests/impl"
)

func TestLimits(t *testing.T) {
	if impl.MaxFactors != 5 || impl.MaxLevels != 3 || impl.MaxTests != 20 || impl.Any != -1 {
		t.Error("the constants of chapter 1")
	}
	if impl.MaxSearch != 9 || impl.MaxBans != 5 || impl.MaxList != 100 || impl.MaxEvents != 5 || impl.MaxDesk != 20 {
		t.Error("the constants of the later chapters")
	}
}

func TestValidModel(t *testing.T) {
	for _, m := range allModels() {
		mustNot(t, !impl.ValidModel(m), "ValidModel", m)
	}
	for _, m := range invalidModels() {
		mustNot(t, impl.ValidModel(m), "ValidModel", m)
	}
}

func TestValidTest(t *testing.T) {
	m := []int{2, 1, 3}
	for _, test := range [][]int{{0, 0, 0}, {1, 0, 2}} {
		mustNot(t, !impl.ValidTest(m, test), "ValidTest", test)
	}
	for _, test := range [][]int{nil, {}, {0, 0}, {0, 0, 0, 0}, {2, 0, 0}, {0, 1, 0}, {0, 0, 3}, {-1, 0, 0}, {0, 0, Any}, {1 << 62, 0, 0}, {-1 << 63, 0, 0}} {
		mustNot(t, impl.ValidTest(m, test), "ValidTest", test)
	}
	for _, bad := range invalidModels() {
		mustNot(t, impl.ValidTest(bad, make([]int, len(bad))), "ValidTest of no model", bad)
	}
}

func TestValidPattern(t *testing.T) {
	m := []int{2, 1, 3}
	for _, p := range [][]int{{0, 0, 0}, {1, 0, 2}, {Any, Any, Any}, {Any, 0, 2}, {1, Any, Any}} {
		mustNot(t, !impl.ValidPattern(m, p), "ValidPattern", p)
	}
	for _, p := range [][]int{nil, {}, {Any, Any}, {Any, Any, Any, Any}, {2, 0, 0}, {0, 1, 0}, {Any, Any, 3}, {-2, 0, 0}, {0, 0, -2}, {1 << 62, 0, 0}, {-1 << 63, 0, 0}} {
		mustNot(t, impl.ValidPattern(m, p), "ValidPattern", p)
	}
	for _, bad := range invalidModels() {
		p := slices.Repeat([]int{Any}, len(bad))
		mustNot(t, impl.ValidPattern(bad, p), "ValidPattern of no model", bad)
	}
}

func TestValidSuite(t *testing.T) {
	m := []int{2, 1, 3}
	for _, suite := range [][][]int{nil, {}, read("000"), read("000,102,000"), times(impl.MaxTests, 1, 0, 2)} {
		mustNot(t, !impl.ValidSuite(m, suite), "ValidSuite", suite)
	}
	for _, suite := range [][][]int{{nil}, {{}}, read("000,00"), read("000,200"), read("00."), read("...,000"), times(impl.MaxTests+1, 1, 0, 2)} {
		mustNot(t, impl.ValidSuite(m, suite), "ValidSuite", suite)
	}
	for _, bad := range invalidModels() {
		mustNot(t, impl.ValidSuite(bad, nil), "ValidSuite of no model", bad)
	}
}

// Promise 1.
func TestModelsCanBeCut(t *testing.T) {
	for _, m := range allModels() {
		if len(m) == 1 {
			continue
		}
		cut := m[:len(m)-1]
		mustNot(t, !impl.ValidModel(cut), "ValidModel of a cut model", m)
		var heads [][]int
		for _, test := range impl.AllTests(m) {
			if head := test[:len(cut)]; len(heads) == 0 || !slices.Equal(heads[len(heads)-1], head) {
				heads = append(heads, head)
			}
		}
		mustNot(t, !sameLists(impl.AllTests(cut), heads), "AllTests of a cut model", m)
	}
}

// Promise 2.
func TestTestsAreAmongAll(t *testing.T) {
	for _, m := range [][]int{{1}, {2, 3}, {3, 1, 2}, {2, 1, 3, 2, 1}, {3, 3, 3, 3, 3}} {
		all := impl.AllTests(m)
		for _, list := range everyPattern(m) {
			found := slices.ContainsFunc(all, func(x []int) bool { return slices.Equal(x, list) })
			mustNot(t, found != impl.ValidTest(m, list), "AllTests", m, list)
			mustNot(t, found != (impl.ValidPattern(m, list) && impl.StrengthOf(m, list) == len(m)), "StrengthOf a test", m, list)
		}
	}
}

// Promise 3.
func TestPatternsAreAmongAll(t *testing.T) {
	for _, m := range [][]int{{1}, {2, 3}, {3, 1, 2}, {2, 1, 3, 2, 1}} {
		for _, p := range everyPattern(m) {
			all := impl.AllPatterns(m, impl.StrengthOf(m, p))
			found := slices.ContainsFunc(all, func(x []int) bool { return slices.Equal(x, p) })
			mustNot(t, !found || !impl.ValidPattern(m, p), "AllPatterns", m, p)
		}
	}
}

// Promise 4.
func TestSuitesCanBeCut(t *testing.T) {
	for _, s := range samples() {
		for n := len(s.suite); n >= 0; n-- {
			mustNot(t, !impl.ValidSuite(s.m, s.suite[:n]), "ValidSuite of a cut suite", s.m, s.suite[:n])
		}
	}
}

// Promise 5.
func TestAllTestsAreToldOnce(t *testing.T) {
	for _, m := range allModels() {
		product := 1
		for _, levels := range m {
			product *= levels
		}
		all := impl.AllTests(m)
		mustNot(t, len(all) != product, "AllTests", m, len(all))
		for i, test := range all {
			mustNot(t, !impl.ValidTest(m, test), "AllTests", m, test)
			mustNot(t, i > 0 && slices.Compare(all[i-1], test) >= 0, "order of AllTests", m, test)
		}
	}
	if s := write(impl.AllTests([]int{3, 1, 2})); s != "000,001,100,101,200,201" {
		t.Errorf("AllTests = %q", s)
	}
	for _, bad := range invalidModels() {
		mustNot(t, len(impl.AllTests(bad)) != 0, "AllTests of no model", bad)
	}
}

// Promise 6.
func TestStrengthsAreOfLevels(t *testing.T) {
	m := []int{2, 3, 1, 2, 3}
	for s, p := range map[int][]int{0: {Any, Any, Any, Any, Any}, 1: {Any, Any, 0, Any, Any}, 2: {0, Any, Any, Any, 2}, 4: {1, 2, Any, 1, 0}, 5: {0, 0, 0, 0, 0}} {
		mustNot(t, impl.StrengthOf(m, p) != s, "StrengthOf", p)
	}
	for _, m := range [][]int{{1}, {3, 2}, {2, 1, 3, 2}} {
		for _, p := range everyPattern(m) {
			strength := 0
			for _, x := range p {
				if x >= 0 {
					strength++
				}
			}
			twice, ok := impl.JoinPatterns(m, p, p)
			mustNot(t, impl.StrengthOf(m, p) != strength, "StrengthOf", m, p)
			mustNot(t, !ok || !slices.Equal(twice, p) || impl.StrengthOf(m, twice) != strength, "JoinPatterns with itself", m, p)
		}
	}
	for _, p := range [][]int{nil, {0}, {0, 0, 0, 0, 3}, {0, 0, 0, 0, 0, 0}, {-2, 0, 0, 0, 0}} {
		mustNot(t, impl.StrengthOf(m, p) != -1, "StrengthOf no pattern", p)
	}
	for _, bad := range invalidModels() {
		mustNot(t, impl.StrengthOf(bad, make([]int, len(bad))) != -1, "StrengthOf of no model", bad)
	}
}

// Promise 8.
func TestPatternsOfAllStrengthsAreAll(t *testing.T) {
	for _, m := range allModels() {
		product := 1
		for _, levels := range m {
			product *= levels + 1
		}
		seen := map[string]bool{}
		for strength := range len(m) + 1 {
			all := impl.AllPatterns(m, strength)
			mustNot(t, !sameLists(all, patternsByCounting(m, strength)), "AllPatterns", m, strength)
			for _, p := range all {
				mustNot(t, impl.StrengthOf(m, p) != strength, "StrengthOf one of AllPatterns", m, p)
				seen[impl.PatternText(m, p)] = true
			}
			product -= len(all)
		}
		mustNot(t, product != 0, "AllPatterns of all strengths", m)
		for _, p := range everyPattern(m) {
			mustNot(t, !seen[write([][]int{p})], "AllPatterns without one", m, p)
		}
	}
}

func TestAllPatternsInOrder(t *testing.T) {
	for _, x := range []struct {
		m    []int
		t    int
		want string
	}{
		{[]int{2, 2}, 0, ".."},
		{[]int{2, 2}, 1, "0.,1.,.0,.1"},
		{[]int{2, 2}, 2, "00,01,10,11"},
		{[]int{1, 3}, 1, "0.,.0,.1,.2"},
		{[]int{1}, 0, "."},
		{[]int{1}, 1, "0"},
		{[]int{1, 1, 1, 1, 1}, 4, "0000.,000.0,00.00,0.000,.0000"},
		{[]int{3}, 2, ""},
		{[]int{3}, -1, ""},
		{[]int{3, 3}, 3, ""},
		{[]int{3, 3}, 1 << 62, ""},
		{[]int{3, 3}, -1 << 63, ""},
	} {
		mustNot(t, write(impl.AllPatterns(x.m, x.t)) != x.want, "AllPatterns", x.m, x.t)
	}
	for _, bad := range invalidModels() {
		for strength := -1; strength <= len(bad)+1; strength++ {
			mustNot(t, len(impl.AllPatterns(bad, strength)) != 0, "AllPatterns of no model", bad)
		}
	}
}
