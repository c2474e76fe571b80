package tests

import (
	"slices"
	"testing"

	"loop.example/coveringtests/impl"
)

// withoutLevels returns all patterns that have Any for one level of a pattern.
func withoutLevels(p []int) [][]int {
	var out [][]int
	for f, x := range p {
		if x != Any {
			less := slices.Clone(p)
			less[f] = Any
			out = append(out, less)
		}
	}
	return out
}

// leastByTrying returns what LeastBans is to return: the patterns that are not
// possible, and in which there is no other one of these.
func leastByTrying(m []int, bans [][]int) [][]int {
	allowed := allowedByTrying(m, bans)
	var out [][]int
	for _, p := range everyPattern(m) {
		if countOf(allowed, p) == 0 && !inOne(out, p) {
			out = append(out, p)
		}
	}
	return out
}

// Promise 34.
func TestImpliedBansHaveLeastOnesInThem(t *testing.T) {
	implied := 0
	for _, s := range banSamples() {
		least := impl.LeastBans(s.m, s.bans)
		for strength := range len(s.m) + 1 {
			possible := possibleByTrying(s.m, s.bans, strength)
			want := slices.DeleteFunc(patternsByCounting(s.m, strength), func(p []int) bool { return amongThem(possible, p) || inOne(s.bans, p) })
			got := impl.ImpliedBans(s.m, s.bans, strength)
			mustNot(t, !sameLists(got, want), "ImpliedBans", s, strength, got)
			for _, p := range got {
				implied++
				mustNot(t, impl.IsPossible(s.m, s.bans, p), "ImpliedBans that are possible", s, p)
				has := slices.ContainsFunc(least, func(q []int) bool {
					joined, ok := impl.JoinPatterns(s.m, p, q)
					return ok && slices.Equal(joined, p)
				})
				mustNot(t, !has, "ImpliedBans without one of LeastBans", s, p)
			}
		}
	}
	mustNot(t, implied < 100, "bans of the samples that are implied", implied)
}

func TestImpliedBans(t *testing.T) {
	for _, x := range []struct {
		m    []int
		bans string
		t    int
		want string
	}{
		{[]int{2, 2, 2}, "00.,.10", 0, ""},
		{[]int{2, 2, 2}, "00.,.10", 1, ""},
		{[]int{2, 2, 2}, "00.,.10", 2, "0.0"},
		{[]int{2, 2, 2}, "00.,.10", 3, ""},
		{[]int{2, 2, 2}, "00.,.10", 4, ""},
		{[]int{2, 2, 2}, "00.,.10", -1, ""},
		{[]int{2, 2, 2}, "", 2, ""},
		{[]int{2, 2, 2}, "...", 0, ""},
		{[]int{2, 2, 2}, "...", 1, ""},
		{[]int{2, 2, 2}, "0..,1..", 0, "..."},
		{[]int{2, 2, 2}, "0..,1..", 1, ".0.,.1.,..0,..1"},
		{[]int{2, 2, 2}, "0..,1..", 2, ".00,.01,.10,.11"},
		{[]int{2, 2, 2}, "0..,1..", 3, ""},
		{[]int{2, 2, 2}, "000,001", 2, "00."},
		{[]int{2, 2, 2}, "000,001,010,011", 1, "0.."},
		{[]int{2, 2, 2}, "00.,00.", 2, ""},
		{[]int{1, 2}, "01", 0, ""},
		{[]int{1, 2}, "01", 1, ".1"},
		{[]int{1, 2}, "01", 2, ""},
		{[]int{2}, "1", 0, ""},
		{[]int{2}, "1,0", 0, "."},
		{[]int{1}, "0", 0, "."},
		{[]int{1}, "0", 1, ""},
		{[]int{3, 3}, "0.,1.,20", 1, ".0"},
		{[]int{3, 3}, "0.,1.,20", 2, ""},
	} {
		got := write(impl.ImpliedBans(x.m, read(x.bans), x.t))
		mustNot(t, got != x.want, "ImpliedBans", x, got)
	}
}

// Promise 35.
func TestLeastBansBanTheSame(t *testing.T) {
	for _, s := range banSamples() {
		least := impl.LeastBans(s.m, s.bans)
		mustNot(t, !sameLists(least, leastByTrying(s.m, s.bans)), "LeastBans", s, least)
		allowed := impl.AllowedTests(s.m, s.bans)
		for _, test := range impl.AllTests(s.m) {
			matches := slices.ContainsFunc(least, func(p []int) bool { return impl.Matches(s.m, p, test) })
			mustNot(t, matches == amongThem(allowed, test), "LeastBans do not ban the same", s, test)
		}
		for _, p := range least {
			mustNot(t, impl.IsPossible(s.m, s.bans, p), "LeastBans that are possible", s, p)
			for _, less := range withoutLevels(p) {
				mustNot(t, !impl.IsPossible(s.m, s.bans, less), "LeastBans with a level too many", s, p, less)
			}
		}
	}
}

func TestLeastBans(t *testing.T) {
	for _, x := range []struct {
		m          []int
		bans, want string
	}{
		{[]int{2, 2, 2}, "", ""},
		{[]int{2, 2, 2}, "...", "..."},
		{[]int{2, 2, 2}, "...,000", "..."},
		{[]int{2, 2, 2}, "0..,1..", "..."},
		{[]int{2, 2, 2}, "00.,.10", "00.,0.0,.10"},
		{[]int{2, 2, 2}, ".10,00.,.10", "00.,0.0,.10"},
		{[]int{2, 2, 2}, "000,001", "00."},
		{[]int{2, 2, 2}, "000,001,010,011", "0.."},
		{[]int{2, 2, 2}, "000,0..", "0.."},
		{[]int{2, 2, 2}, "111", "111"},
		{[]int{2, 2, 2}, "111,0..,.01", "0..,..1"},
		{[]int{1, 2}, "01", ".1"},
		{[]int{1, 1}, "00", ".."},
		{[]int{1, 3, 2}, "010,020,001", ".01,.10,.20"},
		{[]int{3}, "1", "1"},
		{[]int{3}, "2,0", "0,2"},
		{[]int{3}, "2,1,0", "."},
		{[]int{1}, "", ""},
		{[]int{1}, "0", "."},
		{[]int{3, 3}, "0.,1.,20", "0.,1.,.0"},
	} {
		got := write(impl.LeastBans(x.m, read(x.bans)))
		mustNot(t, got != x.want, "LeastBans", x, got)
	}
	m := []int{3, 3, 3, 3, 3}
	most := read("00...,01...,02...,.0..0,....1")
	mustNot(t, write(impl.LeastBans(m, most)) != "0....,....1,.0..0", "LeastBans with MaxBans bans", impl.LeastBans(m, most))
	mustNot(t, len(impl.LeastBans(m, append(most, most[0]))) != 0, "LeastBans with one more ban")
}

// Promise 36.
func TestBansAreTheSameWithTheSameLeastOnes(t *testing.T) {
	same, different := 0, 0
	samples := banSamples()
	for _, a := range samples {
		for _, b := range samples {
			if !slices.Equal(a.m, b.m) {
				continue
			}
			got := impl.SameBans(a.m, a.bans, b.bans)
			mustNot(t, got != sameLists(allowedByTrying(a.m, a.bans), allowedByTrying(a.m, b.bans)), "SameBans", a, b)
			mustNot(t, got != sameLists(impl.LeastBans(a.m, a.bans), impl.LeastBans(a.m, b.bans)), "SameBans and LeastBans", a, b)
			if got {
				same++
			} else {
				different++
			}
		}
		if least := impl.LeastBans(a.m, a.bans); len(least) <= impl.MaxBans {
			mustNot(t, !impl.SameBans(a.m, a.bans, least), "SameBans of LeastBans", a, least)
		}
	}
	mustNot(t, same < 200 || different < 200, "bans of the samples that are the same", same, different)
}

func TestSameBans(t *testing.T) {
	m := []int{2, 1, 2}
	for _, x := range []struct {
		a, b string
		want bool
	}{
		{"", "", true},
		{"", "...", false},
		{"...", "...", true},
		{"...", "0..,1..", true},
		{".0.", "..0,..1", true},
		{"0..", "000,001", true},
		{"0..", "000", false},
		{"000", "0.0", true},
		{"0..", "1..", false},
		{"0..,0..", "0..", true},
		{"0..,..1", "..1,0..", true},
		{"0..,0.1", "0..", true},
		{"000,101", "001,100", false},
		{"000,001,100,101", "...", true},
	} {
		mustNot(t, impl.SameBans(m, read(x.a), read(x.b)) != x.want, "SameBans", x)
	}
	most := times(impl.MaxBans, 0, Any, Any)
	mustNot(t, !impl.SameBans(m, most, read("0..")) || !impl.SameBans(m, most, most), "SameBans of MaxBans bans")
	more := times(impl.MaxBans+1, 0, Any, Any)
	mustNot(t, impl.SameBans(m, more, read("0..")) || impl.SameBans(m, read("0.."), more) || impl.SameBans(m, more, more), "SameBans of one more ban")
}

// Promise 39.
func TestExplanationsAreEnoughAndNotTooMuch(t *testing.T) {
	explained := 0
	for _, s := range banSamples() {
		for _, p := range everyPattern(s.m) {
			got, ok := impl.ExplainBans(s.m, s.bans, p)
			possible := countOf(allowedByTrying(s.m, s.bans), p) > 0
			mustNot(t, ok == possible || !ok && len(got) != 0, "ExplainBans", s, p, got, ok)
			if !ok {
				continue
			}
			explained++
			mustNot(t, !slices.Equal(got, explainedByTrying(s, p)), "ExplainBans", s, p, got)
			left := bansAt(s.bans, got)
			mustNot(t, impl.IsPossible(s.m, left, p), "ExplainBans is not enough", s, p, got)
			for i := range left {
				mustNot(t, !impl.IsPossible(s.m, leave(left, i), p), "ExplainBans is too much", s, p, got, i)
			}
		}
	}
	mustNot(t, explained < 1000, "patterns of the samples that are explained", explained)
}

// bansAt returns the bans at the indices.
func bansAt(bans [][]int, indices []int) [][]int {
	var out [][]int
	for _, i := range indices {
		out = append(out, bans[i])
	}
	return out
}

// explainedByTrying returns what ExplainBans is to return.
func explainedByTrying(s banned, p []int) []int {
	var left []int
	for i := range s.bans {
		left = append(left, i)
	}
	for i := len(s.bans) - 1; i >= 0; i-- {
		less := slices.DeleteFunc(slices.Clone(left), func(x int) bool { return x == i })
		if countOf(allowedByTrying(s.m, bansAt(s.bans, less)), p) == 0 {
			left = less
		}
	}
	return left
}

func TestExplainBans(t *testing.T) {
	m := []int{2, 2, 2}
	for _, x := range []struct {
		bans, p string
		want    []int
		ok      bool
	}{
		{"00.,11.,.10", "0.0", []int{0, 2}, true},
		{"00.,11.,.10", "00.", []int{0}, true},
		{"00.,11.,.10", "1.1", nil, false},
		{"00.,.10", "1..", nil, false},
		{"", "...", nil, false},
		{"", "000", nil, false},
		{"...", "...", []int{0}, true},
		{"...", "111", []int{0}, true},
		{"0..,0..", "000", []int{0}, true},
		{"0..,1..,...", "...", []int{0, 1}, true},
		{"...,0..,1..", "...", []int{0}, true},
		{"0..,...,1..", "...", []int{1}, true},
		{"0..,...,1..", "0..", []int{0}, true},
		{"1..,...,0..", "00.", []int{1}, true},
		{"111,00.,.10,0.0", "0.0", []int{1, 2}, true},
		{"111,0.0,.10,00.", "0.0", []int{1}, true},
		{"00.,01.,1.0,1.1", "...", []int{0, 1, 2, 3}, true},
		{"00.,01.,1.0,1.1,1.1", "1..", []int{2, 3}, true},
		{"1.1,00.,1.1,01.,1.0", ".1.", []int{0, 3, 4}, true},
	} {
		got, ok := impl.ExplainBans(m, read(x.bans), read(x.p)[0])
		mustNot(t, ok != x.ok || !slices.Equal(got, x.want), "ExplainBans", x, got, ok)
	}
	most := times(impl.MaxBans, 0, Any, Any)
	got, ok := impl.ExplainBans(m, most, []int{0, 1, Any})
	mustNot(t, !ok || !slices.Equal(got, []int{0}), "ExplainBans of MaxBans bans", got, ok)
	got, ok = impl.ExplainBans(m, append(most, []int{0, 0, 0}), []int{0, 1, Any})
	mustNot(t, ok || len(got) != 0, "ExplainBans of one more ban", got, ok)
	got, ok = impl.ExplainBans([]int{1}, read("0"), []int{Any})
	mustNot(t, !ok || !slices.Equal(got, []int{0}), "ExplainBans of one factor", got, ok)
}
