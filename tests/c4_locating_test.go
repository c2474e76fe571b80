package tests

import (
	"slices"
	"testing"

	"loop.example/coveringtests/impl"
)

// locatingSamples returns suites of many kinds, with all that is left when the
// tests of all tests, or of a covering suite, are left out one after the other.
func locatingSamples() []sample {
	out := samples()
	for _, m := range [][]int{{1}, {2}, {3}, {1, 1}, {1, 2}, {1, 3, 1}, {2, 2}, {2, 3}, {3, 3}, {1, 2, 2}, {2, 2, 2}, {2, 3, 2}, {2, 2, 2, 2}} {
		all := patternsByCounting(m, len(m))
		for _, order := range []int{1, 5, 7} {
			var suite [][]int
			for i := range all {
				suite = append(suite, all[i*order%len(all)])
			}
			for n := range len(suite) + 1 {
				out = append(out, sample{m, suite[:n]})
			}
		}
		for i := range all {
			out = append(out, sample{m, leave(all, i)})
		}
	}
	return out
}

// alone reports whether for each two patterns with t levels, in both orders
// where both tell, a test matches the first one and not the second one.
func alone(s sample, t int, both bool) bool {
	all := patternsByCounting(s.m, t)
	for i, p := range all {
		for _, q := range all[:i] {
			first := slices.ContainsFunc(s.suite, func(test []int) bool { return agrees(p, test) && !agrees(q, test) })
			second := slices.ContainsFunc(s.suite, func(test []int) bool { return agrees(q, test) && !agrees(p, test) })
			if both && !(first && second) || !first && !second {
				return false
			}
		}
	}
	return true
}

// Promise 44.
func TestLocatedFaultsAreAlone(t *testing.T) {
	locating, not := 0, 0
	for _, s := range locatingSamples() {
		for strength := range len(s.m) + 1 {
			is := impl.IsLocating(s.m, s.suite, strength)
			mustNot(t, is != alone(s, strength, false), "IsLocating", s, strength, is)
			found := true
			for _, p := range impl.AllPatterns(s.m, strength) {
				fails := impl.ResultsOf(s.m, s.suite, [][]int{p})
				culprits := impl.CulpritsOf(s.m, s.suite, fails, strength)
				mustNot(t, !amongThem(culprits, p), "CulpritsOf the results of a fault", s, p, culprits)
				if len(culprits) != 1 {
					found = false
					break
				}
			}
			mustNot(t, is != found, "IsLocating and CulpritsOf", s, strength, is)
			if is {
				locating++
			} else {
				not++
			}
		}
	}
	mustNot(t, locating < 200 || not < 200, "suites of the samples that locate", locating, not)
}

// Promise 45.
func TestDetectingSuitesLocate(t *testing.T) {
	detecting, locating := 0, 0
	for _, s := range locatingSamples() {
		for strength := range len(s.m) + 1 {
			is := impl.IsDetecting(s.m, s.suite, strength)
			mustNot(t, is != alone(s, strength, true), "IsDetecting", s, strength, is)
			locates := impl.IsLocating(s.m, s.suite, strength)
			if !is {
				if locates {
					locating++
				}
				continue
			}
			detecting++
			mustNot(t, !locates, "IsDetecting and not IsLocating", s, strength)
			if len(impl.AllPatterns(s.m, strength)) > 1 {
				mustNot(t, !impl.IsCovering(s.m, s.suite, strength), "IsDetecting and not IsCovering", s, strength)
			}
		}
	}
	mustNot(t, detecting < 100 || locating < 30, "suites of the samples that detect", detecting, locating)
}

func TestIsLocatingAndIsDetecting(t *testing.T) {
	for _, x := range []struct {
		m                   []int
		suite               string
		t                   int
		locating, detecting bool
	}{
		{[]int{2, 2, 2}, "000,011,101,110", 1, true, true},
		{[]int{2, 2, 2}, "000,011,101,110", 2, false, false},
		{[]int{2, 2, 2}, "000,001,010,011,100,101,110,111", 2, true, true},
		{[]int{2, 2, 2}, "000,001,010,011,100,101,110,111", 3, true, true},
		{[]int{2, 2, 2}, "000,001,010,011,100,101,110", 3, true, false},
		{[]int{2, 2, 2}, "000,001,010,011,100,101", 3, false, false},
		{[]int{2, 2, 2}, "000,001,010,011,100,101,110,111", 4, false, false},
		{[]int{2, 2, 2}, "000,001,010,011,100,101,110,111", -1, false, false},
		{[]int{2, 2, 2}, "000,001,010,011,100,101,110,111", 0, true, true},
		{[]int{2, 2, 2}, "", 0, true, true},
		{[]int{2, 2, 2}, "", 1, false, false},
		{[]int{2, 2, 2}, "", 4, false, false},
		{[]int{2, 2}, "00,01", 1, true, false},
		{[]int{2, 2}, "00,01,10", 1, true, false},
		{[]int{2, 2}, "00,01,10,11", 1, true, true},
		{[]int{2, 2}, "00,00,01,10,11,11", 1, true, true},
		{[]int{2, 2}, "00,01,10", 2, true, false},
		{[]int{2, 2}, "00,11", 1, false, false},
		{[]int{2, 2}, "00,01,11", 1, true, false},
		{[]int{1}, "", 0, true, true},
		{[]int{1}, "", 1, true, true},
		{[]int{1}, "0", 1, true, true},
		{[]int{1}, "0", 2, false, false},
		{[]int{2}, "", 1, false, false},
		{[]int{2}, "1", 1, true, false},
		{[]int{2}, "1,0", 1, true, true},
		{[]int{3}, "0", 1, false, false},
		{[]int{3}, "0,1", 1, true, false},
		{[]int{3}, "0,1,2", 1, true, true},
		{[]int{2, 1}, "00,10", 1, true, false},
		{[]int{2, 1}, "00,10", 2, true, true},
		{[]int{1, 1}, "00", 1, false, false},
		{[]int{1, 1}, "00", 2, true, true},
		{[]int{1, 1}, "", 2, true, true},
		{[]int{1, 2, 1}, "000,010", 2, false, false},
		{[]int{1, 2, 1}, "000,010", 3, true, true},
	} {
		locating, detecting := impl.IsLocating(x.m, read(x.suite), x.t), impl.IsDetecting(x.m, read(x.suite), x.t)
		mustNot(t, locating != x.locating, "IsLocating", x, locating)
		mustNot(t, detecting != x.detecting, "IsDetecting", x, detecting)
	}
	// Just the greatest number of tests, and one more.
	m := []int{2, 2, 2, 2}
	all := append(impl.AllTests(m), times(4, 1, 1, 1, 1)...)
	mustNot(t, !impl.IsLocating(m, all, 2) || !impl.IsDetecting(m, all, 2), "suites of MaxTests tests")
	mustNot(t, !impl.IsLocating(m, all, 4) || !impl.IsDetecting(m, all, 4), "suites of MaxTests tests")
	all = append(all, []int{0, 0, 0, 0})
	mustNot(t, impl.IsLocating(m, all, 2) || impl.IsDetecting(m, all, 2), "suites of more than MaxTests tests")
}

// refusesLocating checks the fixed results for arguments that are not those of
// IsLocating.
func refusesLocating(t *testing.T, m []int, suite [][]int, strength int) {
	t.Helper()
	mustNot(t, impl.IsLocating(m, suite, strength), "IsLocating", m, suite, strength)
	mustNot(t, impl.IsDetecting(m, suite, strength), "IsDetecting", m, suite, strength)
}

func TestInvalidArgumentsOfLocating(t *testing.T) {
	refused(t, refusesLocating)
}
