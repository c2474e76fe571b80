package tests

import (
	"slices"
	"testing"

	"loop.example/coveringtests/impl"
)

// wrongNumbers are no factors, levels or strengths of any model.
var wrongNumbers = []int{-1, -2, 6, 7, 1 << 62, 1<<63 - 1, -1 << 63}

// none reports whether a function has answered with nil and false.
func none(lists [][]int, ok bool) bool {
	return !ok && len(lists) == 0
}

// Promise 24.
func TestCrossedSuitesCover(t *testing.T) {
	covering := 0
	for _, a := range samples() {
		for _, b := range samples() {
			crossed, ok := impl.CrossSuites(a.m, a.suite, b.m, b.suite)
			if len(a.m)+len(b.m) > impl.MaxFactors || len(a.suite)*len(b.suite) > impl.MaxTests {
				mustNot(t, !none(crossed, ok), "CrossSuites of too many", a, b)
				continue
			}
			m := slices.Concat(a.m, b.m)
			mustNot(t, !ok || !impl.ValidSuite(m, crossed), "CrossSuites", a, b)
			mustNot(t, len(crossed) != len(a.suite)*len(b.suite), "CrossSuites", a, b)
			for i, test := range crossed {
				want := slices.Concat(a.suite[i/len(b.suite)], b.suite[i%len(b.suite)])
				mustNot(t, !slices.Equal(test, want), "CrossSuites", a, b, i)
			}
			for strength := range min(len(a.m), len(b.m)) + 1 {
				if impl.IsCovering(a.m, a.suite, strength) && impl.IsCovering(b.m, b.suite, strength) {
					covering++
					mustNot(t, !impl.IsCovering(m, crossed, strength), "IsCovering CrossSuites", a, b, strength)
				}
			}
		}
	}
	mustNot(t, covering < 50, "covering suites that are crossed", covering)
}

func TestCrossSuites(t *testing.T) {
	for _, x := range []struct {
		m    []int
		a    string
		n    []int
		b    string
		want string
		ok   bool
	}{
		{[]int{2}, "0,1", []int{3}, "2,0", "02,00,12,10", true},
		{[]int{3}, "2,0", []int{2}, "0,1", "20,21,00,01", true},
		{[]int{2, 1}, "10", []int{1, 3, 2}, "021,001", "10021,10001", true},
		{[]int{1, 1, 1, 1}, "0000", []int{1}, "0,0", "00000,00000", true},
		{[]int{2}, "", []int{3}, "2,0", "", true},
		{[]int{2}, "1", []int{3}, "", "", true},
		{[]int{2}, "", []int{3}, "", "", true},
		{[]int{2}, "0,2", []int{3}, "1", "", false},
		{[]int{2}, "0,1", []int{3}, "3", "", false},
		{[]int{2}, "", []int{3}, "3", "", false},
		{[]int{2}, ".", []int{3}, "1", "", false},
		{[]int{2}, "00", []int{3}, "1", "", false},
		{[]int{2, 2, 2}, "000", []int{2, 2}, "11", "00011", true},
		{[]int{2, 2, 2}, "000", []int{2, 2, 2}, "111", "", false},
		{[]int{2, 2, 2, 2, 2}, "", []int{2}, "", "", false},
		{[]int{2}, "", []int{2, 2, 2, 2, 2}, "0", "", false},
	} {
		got, ok := impl.CrossSuites(x.m, read(x.a), x.n, read(x.b))
		mustNot(t, ok != x.ok || write(got) != x.want, "CrossSuites", x, got, ok)
	}
	for _, bad := range invalidModels() {
		got, ok := impl.CrossSuites(bad, nil, []int{1}, nil)
		mustNot(t, !none(got, ok), "CrossSuites of no model", bad)
		got, ok = impl.CrossSuites([]int{1}, nil, bad, nil)
		mustNot(t, !none(got, ok), "CrossSuites with no model", bad)
	}
}

func TestCrossSuitesUpToMaxTests(t *testing.T) {
	m, n := []int{2}, []int{3, 1}
	for a := range impl.MaxTests + 2 {
		for b := range impl.MaxTests + 2 {
			got, ok := impl.CrossSuites(m, times(a, 1), n, times(b, 2, 0))
			if a <= impl.MaxTests && b <= impl.MaxTests && a*b <= impl.MaxTests {
				mustNot(t, !ok || !sameLists(got, times(a*b, 1, 2, 0)), "CrossSuites", a, b, got)
			} else {
				mustNot(t, !none(got, ok), "CrossSuites of more than MaxTests", a, b, got)
			}
		}
	}
}

// Promise 25.
func TestInSquaresAllPairsMeetOnce(t *testing.T) {
	for q := -2; q <= 6; q++ {
		for k := -2; k <= 8; k++ {
			square, ok := impl.SquareSuite(q, k)
			if (q != 2 && q != 3) || k < 1 || k > q+1 {
				mustNot(t, !none(square, ok), "SquareSuite of wrong numbers", q, k)
				continue
			}
			mustNot(t, !ok || len(square) != q*q, "SquareSuite", q, k, square)
			m := slices.Repeat([]int{q}, k)
			for i, test := range square {
				x, y := i/q, i%q
				want := []int{x, y, (x + y) % q, (x + y + y) % q}[:k]
				mustNot(t, !slices.Equal(test, want), "SquareSuite", q, k, i, test)
			}
			mustNot(t, !impl.IsBalanced(m, square, 1) || !impl.IsCovering(m, square, 1), "SquareSuite for one factor", q, k)
			if k == 1 {
				continue
			}
			mustNot(t, !impl.IsBalanced(m, square, 2) || !impl.IsCovering(m, square, 2), "SquareSuite for two factors", q, k)
			for _, p := range impl.AllPatterns(m, 2) {
				mustNot(t, impl.HowOften(m, square, p) != 1, "HowOften a pair in SquareSuite", q, k, p)
			}
		}
	}
	for _, wrong := range wrongNumbers {
		for _, right := range []int{1, 2, 3} {
			square, ok := impl.SquareSuite(wrong, right)
			mustNot(t, !none(square, ok), "SquareSuite", wrong, right)
			square, ok = impl.SquareSuite(right, wrong)
			mustNot(t, !none(square, ok), "SquareSuite", right, wrong)
		}
	}
}

func TestSquareSuite(t *testing.T) {
	for _, x := range []struct {
		q, k int
		want string
	}{
		{2, 1, "0,0,1,1"},
		{2, 2, "00,01,10,11"},
		{2, 3, "000,011,101,110"},
		{3, 1, "0,0,0,1,1,1,2,2,2"},
		{3, 3, "000,011,022,101,112,120,202,210,221"},
		{3, 4, "0000,0112,0221,1011,1120,1202,2022,2101,2210"},
	} {
		got, ok := impl.SquareSuite(x.q, x.k)
		mustNot(t, !ok || write(got) != x.want, "SquareSuite", x, got)
	}
}

// covered returns the samples, and what they grow to for each strength.
func covered() []sample {
	out := samples()
	for _, s := range samples() {
		for strength := range len(s.m) + 1 {
			if grown, ok := impl.GrowSuite(s.m, s.suite, strength); ok {
				out = append(out, sample{s.m, grown})
			}
		}
	}
	return out
}

// Promise 26.
func TestFewerFactorsAreCovered(t *testing.T) {
	for _, s := range covered() {
		if len(s.m) == 1 {
			continue
		}
		for f := range s.m {
			dropped, ok := impl.DropFactor(s.m, s.suite, f)
			m := slices.Delete(slices.Clone(s.m), f, f+1)
			mustNot(t, !ok || len(dropped) != len(s.suite), "DropFactor", s, f, dropped)
			for i, test := range s.suite {
				want := slices.Delete(slices.Clone(test), f, f+1)
				mustNot(t, !slices.Equal(dropped[i], want), "DropFactor", s, f, dropped[i])
			}
			for strength := range s.m {
				if impl.IsCovering(s.m, s.suite, strength) {
					mustNot(t, !impl.IsCovering(m, dropped, strength), "IsCovering DropFactor", s, f, strength)
				}
			}
		}
	}
}

func TestDropFactor(t *testing.T) {
	for _, x := range []struct {
		m     []int
		suite string
		f     int
		want  string
		ok    bool
	}{
		{[]int{2, 3, 1}, "020,110", 0, "20,10", true},
		{[]int{2, 3, 1}, "020,110", 1, "00,10", true},
		{[]int{2, 3, 1}, "020,110", 2, "02,11", true},
		{[]int{2, 3, 1}, "", 2, "", true},
		{[]int{2, 3, 1}, "020,110", 3, "", false},
		{[]int{2, 3, 1}, "020,110", -1, "", false},
		{[]int{2, 3, 1}, "020,130", 0, "", false},
		{[]int{2, 3, 1}, "020,.10", 0, "", false},
		{[]int{2, 3, 1}, "020,10", 0, "", false},
		{[]int{2, 1}, "10", 0, "0", true},
		{[]int{2}, "1", 0, "", false},
		{[]int{2}, "", 0, "", false},
	} {
		got, ok := impl.DropFactor(x.m, read(x.suite), x.f)
		mustNot(t, ok != x.ok || write(got) != x.want, "DropFactor", x, got, ok)
	}
	for _, f := range wrongNumbers {
		got, ok := impl.DropFactor([]int{2, 2, 2, 2, 2}, read("00000"), f)
		mustNot(t, !none(got, ok), "DropFactor of no factor", f)
	}
	got, ok := impl.DropFactor([]int{2, 2}, times(impl.MaxTests, 0, 1), 0)
	mustNot(t, !ok || !sameLists(got, times(impl.MaxTests, 1)), "DropFactor of MaxTests", got)
	got, ok = impl.DropFactor([]int{2, 2}, times(impl.MaxTests+1, 0, 1), 0)
	mustNot(t, !none(got, ok), "DropFactor of one more", got)
	for _, bad := range invalidModels() {
		got, ok := impl.DropFactor(bad, nil, 0)
		mustNot(t, !none(got, ok), "DropFactor of no model", bad)
	}
}

// Promise 27.
func TestFewerLevelsAreCovered(t *testing.T) {
	for _, s := range covered() {
		for f, levels := range s.m {
			for x := range levels - 1 {
				fused, ok := impl.FuseLevels(s.m, s.suite, f, x)
				m := slices.Clone(s.m)
				m[f]--
				mustNot(t, !ok || len(fused) != len(s.suite) || !impl.ValidSuite(m, fused), "FuseLevels", s, f, x, fused)
				for i, test := range s.suite {
					want := slices.Clone(test)
					if want[f] == levels-1 {
						want[f] = x
					}
					mustNot(t, !slices.Equal(fused[i], want), "FuseLevels", s, f, x, fused[i])
				}
				for strength := range len(s.m) + 1 {
					if impl.IsCovering(s.m, s.suite, strength) {
						mustNot(t, !impl.IsCovering(m, fused, strength), "IsCovering FuseLevels", s, f, x, strength)
					}
				}
			}
			got, ok := impl.FuseLevels(s.m, s.suite, f, levels-1)
			mustNot(t, !none(got, ok), "FuseLevels of the greatest level", s, f)
		}
	}
}

func TestFuseLevels(t *testing.T) {
	for _, x := range []struct {
		m     []int
		suite string
		f, x  int
		want  string
		ok    bool
	}{
		{[]int{3, 2}, "00,11,20", 0, 0, "00,11,00", true},
		{[]int{3, 2}, "00,11,20", 0, 1, "00,11,10", true},
		{[]int{3, 2}, "00,11,20", 0, 2, "", false},
		{[]int{3, 2}, "00,11,20", 0, 3, "", false},
		{[]int{3, 2}, "00,11,20", 0, -1, "", false},
		{[]int{3, 2}, "00,11,20", 1, 0, "00,10,20", true},
		{[]int{3, 2}, "00,11,20", 1, 1, "", false},
		{[]int{3, 2}, "00,11,20", 2, 0, "", false},
		{[]int{3, 2}, "00,11,20", -1, 0, "", false},
		{[]int{3, 2}, "", 0, 0, "", true},
		{[]int{3, 2}, "00,31,20", 0, 0, "", false},
		{[]int{3, 2}, "00,.1,20", 0, 0, "", false},
		{[]int{3, 2}, "00,1,20", 0, 0, "", false},
		{[]int{3, 1}, "20", 1, 0, "", false},
		{[]int{1}, "0", 0, 0, "", false},
		{[]int{2}, "1,0", 0, 0, "0,0", true},
	} {
		got, ok := impl.FuseLevels(x.m, read(x.suite), x.f, x.x)
		mustNot(t, ok != x.ok || write(got) != x.want, "FuseLevels", x, got, ok)
	}
	for _, wrong := range wrongNumbers {
		got, ok := impl.FuseLevels([]int{3, 3, 3, 3, 3}, read("00000"), wrong, 0)
		mustNot(t, !none(got, ok), "FuseLevels of no factor", wrong)
		got, ok = impl.FuseLevels([]int{3, 3, 3, 3, 3}, read("00000"), 0, wrong)
		mustNot(t, !none(got, ok), "FuseLevels of no level", wrong)
	}
	got, ok := impl.FuseLevels([]int{2, 2}, times(impl.MaxTests, 1, 1), 0, 0)
	mustNot(t, !ok || !sameLists(got, times(impl.MaxTests, 0, 1)), "FuseLevels of MaxTests", got)
	got, ok = impl.FuseLevels([]int{2, 2}, times(impl.MaxTests+1, 1, 1), 0, 0)
	mustNot(t, !none(got, ok), "FuseLevels of one more", got)
	for _, bad := range invalidModels() {
		got, ok := impl.FuseLevels(bad, nil, 0, 0)
		mustNot(t, !none(got, ok), "FuseLevels of no model", bad)
	}
}

// addedByTrying returns what AddFactor is to return.
func addedByTrying(m []int, suite [][]int, levels int, t int) ([][]int, bool) {
	wider := append(slices.Clone(m), levels)
	var longer [][]int
	for _, test := range suite {
		open := unmet(wider, longer, t)
		open = slices.DeleteFunc(open, func(p []int) bool { return p[len(m)] == Any })
		var choices [][]int
		for level := range levels {
			choices = append(choices, append(slices.Clone(test), level))
		}
		longer = append(longer, firstBest(choices, open))
	}
	return grownByTrying(wider, longer, t)
}

// Promise 28.
func TestOneMoreFactorIsCovered(t *testing.T) {
	added, tooMany := 0, 0
	for _, s := range samples() {
		if len(s.m) == impl.MaxFactors {
			continue
		}
		for levels := 1; levels <= impl.MaxLevels; levels++ {
			wider := append(slices.Clone(s.m), levels)
			for strength := 1; strength <= len(wider); strength++ {
				got, ok := impl.AddFactor(s.m, s.suite, levels, strength)
				if impl.LeastTests(wider, strength) > impl.MaxTests {
					mustNot(t, !none(got, ok), "AddFactor of too many tests", s, levels, strength)
					continue
				}
				want, wantOK := addedByTrying(s.m, s.suite, levels, strength)
				mustNot(t, ok != wantOK || !sameLists(got, want), "AddFactor", s, levels, strength, got, ok)
				if !ok {
					tooMany++
					continue
				}
				added++
				mustNot(t, !impl.IsCovering(wider, got, strength), "IsCovering AddFactor", s, levels, strength, got)
				without, _ := impl.DropFactor(wider, got, len(s.m))
				mustNot(t, !sameLists(without[:len(s.suite)], s.suite), "AddFactor does not begin with the suite", s, levels, strength, got)
			}
		}
	}
	mustNot(t, added < 200 || tooMany < 20, "factors that are added", added, tooMany)
}

func TestAddFactor(t *testing.T) {
	for _, x := range []struct {
		m         []int
		suite     string
		levels, t int
		want      string
		ok        bool
	}{
		{[]int{2, 2}, "00,01,10,11", 2, 2, "000,011,101,110", true},
		{[]int{2, 2}, "00,01,10,11", 1, 2, "000,010,100,110", true},
		{[]int{2, 2}, "00,01,10,11", 3, 1, "000,011,102,110", true},
		{[]int{2, 2}, "00,01,10,11", 2, 3, "000,010,100,110,001,011,101,111", true},
		{[]int{2, 2}, "00,00,00", 2, 1, "000,001,000,110", true},
		{[]int{2, 2}, "00,00,00", 2, 3, "000,001,000,010,011,100,101,110,111", true},
		{[]int{2}, "", 3, 1, "00,11,02", true},
		{[]int{2}, "", 3, 2, "00,01,02,10,11,12", true},
		{[]int{1}, "", 1, 1, "00", true},
		{[]int{1}, "0", 1, 2, "00", true},
		{[]int{3}, "2,1,0", 3, 1, "20,11,02", true},
		{[]int{1, 1, 1, 1}, "0000", 3, 5, "00000,00001,00002", true},
		{[]int{2, 2}, "00", 2, 0, "", false},
		{[]int{2, 2}, "00", 2, 4, "", false},
		{[]int{2, 2}, "00", 0, 1, "", false},
		{[]int{2, 2}, "00", 4, 1, "", false},
		{[]int{2, 2}, "00,02", 2, 1, "", false},
		{[]int{2, 2}, "00,.0", 2, 1, "", false},
		{[]int{2, 2}, "00,000", 2, 1, "", false},
		{[]int{1, 1, 1, 1, 1}, "00000", 1, 1, "", false},
		{[]int{1, 1, 1, 1, 1}, "", 1, 6, "", false},
		{[]int{3, 3}, "", 3, 3, "", false},
	} {
		got, ok := impl.AddFactor(x.m, read(x.suite), x.levels, x.t)
		mustNot(t, ok != x.ok || write(got) != x.want, "AddFactor", x, got, ok)
	}
	for _, wrong := range wrongNumbers {
		got, ok := impl.AddFactor([]int{2, 2}, read("00"), wrong, 1)
		mustNot(t, !none(got, ok), "AddFactor of no levels", wrong)
		got, ok = impl.AddFactor([]int{2, 2, 2, 2}, read("0000"), 1, wrong)
		mustNot(t, !none(got, ok), "AddFactor of no strength", wrong)
	}
	for _, bad := range invalidModels() {
		for strength := range len(bad) + 2 {
			got, ok := impl.AddFactor(bad, nil, 1, strength)
			mustNot(t, !none(got, ok), "AddFactor to no model", bad, strength)
		}
	}
}

func TestAddFactorUpToMaxTests(t *testing.T) {
	m := []int{2, 2}
	// Two of the tests show both levels, and the last one is grown.
	for _, x := range []struct {
		size int
		ok   bool
	}{{impl.MaxTests - 1, true}, {impl.MaxTests, false}, {impl.MaxTests + 1, false}} {
		got, ok := impl.AddFactor(m, times(x.size, 0, 0), 2, 1)
		mustNot(t, ok != x.ok, "AddFactor", x, got, ok)
		mustNot(t, ok && len(got) != impl.MaxTests, "AddFactor of MaxTests", got)
		mustNot(t, !ok && len(got) != 0, "AddFactor of more than MaxTests", got)
	}
	covering := append(times(impl.MaxTests-1, 0, 0), []int{1, 1})
	got, ok := impl.AddFactor(m, covering, 2, 1)
	mustNot(t, !ok || len(got) != impl.MaxTests, "AddFactor to MaxTests that are covering", got, ok)
	covering = append(covering, []int{1, 1})
	got, ok = impl.AddFactor(m, covering, 2, 1)
	mustNot(t, !none(got, ok), "AddFactor to one more", got)
}
