package tests

import (
	"slices"
	"testing"

	"loop.example/coveringtests/impl"
)

const Any = impl.Any

// sameLists reports whether two lists of lists are equal.
func sameLists(a, b [][]int) bool {
	return slices.EqualFunc(a, b, slices.Equal[[]int])
}

// copyOf returns a copy of lists that shares no memory with them.
func copyOf(lists [][]int) [][]int {
	var out [][]int
	for _, list := range lists {
		out = append(out, slices.Clone(list))
	}
	return out
}

// times returns the test as often as told, each time in its own memory.
func times(n int, test ...int) [][]int {
	var out [][]int
	for range n {
		out = append(out, slices.Clone(test))
	}
	return out
}

// read returns the lists of a text, of digits and points and with a comma
// between two lists; "" are none.
func read(s string) [][]int {
	if s == "" {
		return nil
	}
	out := [][]int{nil}
	for _, c := range s {
		switch last := len(out) - 1; c {
		case ',':
			out = append(out, nil)
		case '.':
			out[last] = append(out[last], Any)
		default:
			out[last] = append(out[last], int(c-'0'))
		}
	}
	return out
}

// write returns the text of lists.
func write(lists [][]int) string {
	out := ""
	for i, list := range lists {
		if i > 0 {
			out += ","
		}
		for _, x := range list {
			if x == Any {
				out += "."
			} else {
				out += string(rune('0' + x))
			}
		}
	}
	return out
}

// allModels returns every model, those of fewer factors first.
func allModels() [][]int {
	var out [][]int
	last := [][]int{nil}
	for range impl.MaxFactors {
		var next [][]int
		for _, m := range last {
			for levels := 1; levels <= impl.MaxLevels; levels++ {
				next = append(next, append(slices.Clone(m), levels))
			}
		}
		out = append(out, next...)
		last = next
	}
	return out
}

// patternsByCounting returns the patterns of a model with t levels in their
// order, found by counting with Any as the last digit of each factor.
func patternsByCounting(m []int, t int) [][]int {
	all := 1
	for _, levels := range m {
		all *= levels + 1
	}
	var out [][]int
	for i := range all {
		p := make([]int, len(m))
		strength := 0
		for f := len(m) - 1; f >= 0; f-- {
			p[f] = i % (m[f] + 1)
			i /= m[f] + 1
			if p[f] == m[f] {
				p[f] = Any
			} else {
				strength++
			}
		}
		if strength == t {
			out = append(out, p)
		}
	}
	return out
}

// everyPattern returns the patterns of a model of all strengths.
func everyPattern(m []int) [][]int {
	var out [][]int
	for t := range len(m) + 1 {
		out = append(out, patternsByCounting(m, t)...)
	}
	return out
}

// agrees reports whether a test has the levels of a pattern.
func agrees(p, test []int) bool {
	for f := range p {
		if p[f] != Any && p[f] != test[f] {
			return false
		}
	}
	return true
}

// countOf returns how many tests of a suite agree with a pattern.
func countOf(suite [][]int, p []int) int {
	n := 0
	for _, test := range suite {
		if agrees(p, test) {
			n++
		}
	}
	return n
}

// unmet returns the patterns with t levels that no test agrees with.
func unmet(m []int, suite [][]int, t int) [][]int {
	var out [][]int
	for _, p := range patternsByCounting(m, t) {
		if countOf(suite, p) == 0 {
			out = append(out, p)
		}
	}
	return out
}

// leave returns a suite without the test at an index.
func leave(suite [][]int, i int) [][]int {
	return slices.Concat(suite[:i], suite[i+1:])
}

// sample is a suite with its model.
type sample struct {
	m     []int
	suite [][]int
}

// samples returns suites of many kinds: of no tests and of MaxTests, of tests
// that come twice, covering ones, balanced ones, and scattered ones.
func samples() []sample {
	models := [][]int{{1}, {3}, {1, 1, 1}, {2, 2}, {3, 1}, {2, 3, 1}, {2, 2, 2}, {3, 3, 2}, {2, 2, 2, 2}, {3, 3, 3, 3}, {1, 3, 2, 1, 2}, {3, 3, 3, 3, 3}}
	var out []sample
	seed := uint64(1)
	for _, m := range models {
		for _, size := range []int{0, 1, 2, 3, 5, 9, impl.MaxTests - 1} {
			suite := [][]int{}
			for range size {
				test := make([]int, len(m))
				for f := range m {
					seed = seed*6364136223846793005 + 1442695040888963407
					test[f] = int(seed>>33) % m[f]
				}
				suite = append(suite, test)
			}
			out = append(out, sample{m, suite})
			if size > 0 {
				out = append(out, sample{m, append(copyOf(suite), slices.Clone(suite[size/2]))})
			}
		}
		if full := patternsByCounting(m, len(m)); len(full) <= impl.MaxTests {
			out = append(out, sample{m, full})
		}
	}
	for _, x := range []struct {
		m     []int
		tests string
	}{
		{[]int{2, 2, 2}, "000,011,101,110"},
		{[]int{2, 2, 2}, "000,011,101,110,000,011,101,110"},
		{[]int{2, 2, 2}, "000,000,011,101,110"},
		{[]int{2, 2, 2, 2}, "0000,0011,0101,0110,1001,1010,1100,1111"},
		{[]int{3, 3, 3, 3}, "0000,0111,0222,1012,1120,1201,2021,2102,2210"},
		{[]int{2, 2}, "00,11"},
	} {
		out = append(out, sample{x.m, read(x.tests)})
	}
	return out
}

// invalidModels returns numbers that are no model, with one factor too many
// and one level too many among them.
func invalidModels() [][]int {
	return [][]int{nil, {}, {0}, {-1}, {2, 0}, {0, 2}, {2, -3, 2}, {impl.MaxLevels + 1}, {1, 2, impl.MaxLevels + 1}, {1, 1, 1, 1, 1, 1}, {2, 2, 2, 2, 2, 2}, {1 << 62}, {-1 << 63}}
}

// mustNot fails the test with a name and values if a condition holds.
func mustNot(t *testing.T, bad bool, name string, values ...interface{}) {
	t.Helper()
	if bad {
		t.Fatalf("%s: %v", name, values)
	}
}
