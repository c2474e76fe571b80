package tests

import (
	"slices"
	"testing"

	"loop.example/coveringtests/impl"
)

func TestMatches(t *testing.T) {
	m := []int{2, 3, 1}
	test := []int{1, 2, 0}
	for _, s := range []string{"...", "1..", ".2.", "..0", "12.", "120"} {
		mustNot(t, !impl.Matches(m, read(s)[0], test), "Matches", s)
	}
	for _, s := range []string{"0..", ".1.", "10.", "020", "000", "", "..", "....", "2..", "..1"} {
		p := slices.Concat(read(s)...)
		mustNot(t, impl.Matches(m, p, test), "Matches", s)
	}
	for _, bad := range [][]int{nil, {1, 2}, {1, 2, 0, 0}, {1, 2, 1}, {2, 2, 0}, {Any, 2, 0}} {
		mustNot(t, impl.Matches(m, []int{Any, Any, Any}, bad), "Matches no test", bad)
	}
	for _, bad := range invalidModels() {
		zeros := make([]int, len(bad))
		mustNot(t, impl.Matches(bad, zeros, zeros), "Matches of no model", bad)
	}
}

// Promise 7.
func TestWhatMatchesIsJoined(t *testing.T) {
	for _, m := range [][]int{{1}, {3}, {2, 3}, {3, 1, 2}, {2, 2, 2, 2}, {1, 2, 1, 3, 2}} {
		for _, p := range everyPattern(m) {
			for _, test := range impl.AllTests(m) {
				joined, ok := impl.JoinPatterns(m, p, test)
				matches := impl.Matches(m, p, test)
				mustNot(t, matches != agrees(p, test), "Matches", m, p, test)
				mustNot(t, matches != (ok && slices.Equal(joined, test)), "JoinPatterns with a test", m, p, test)
			}
		}
	}
}

// Promise 16.
func TestJoinedPatternsMatchBoth(t *testing.T) {
	for _, m := range [][]int{{1}, {3}, {2, 3}, {3, 1, 2}, {2, 2, 2}} {
		all := everyPattern(m)
		for _, p := range all {
			for _, q := range all {
				joined, ok := impl.JoinPatterns(m, p, q)
				mustNot(t, !ok && len(joined) != 0, "JoinPatterns of none", m, p, q)
				both := 0
				for _, test := range impl.AllTests(m) {
					agree := impl.Matches(m, p, test) && impl.Matches(m, q, test)
					mustNot(t, agree != (ok && impl.Matches(m, joined, test)), "JoinPatterns", m, p, q, test)
					if agree {
						both++
					}
				}
				mustNot(t, ok != (both > 0), "JoinPatterns of different levels", m, p, q)
			}
		}
	}
}

func TestJoinPatterns(t *testing.T) {
	m := []int{2, 3, 1}
	for _, x := range []struct{ p, q, want string }{
		{"...", "...", "..."},
		{"1..", "...", "1.."},
		{"...", ".2.", ".2."},
		{"1.0", ".20", "120"},
		{"1..", "1.0", "1.0"},
		{"1..", "0..", ""},
		{"12.", "110", ""},
		{"0.0", "1..", ""},
		{"2..", "...", ""},
		{"...", "..1", ""},
		{"..", "...", ""},
		{"...", "....", ""},
	} {
		got, ok := impl.JoinPatterns(m, read(x.p)[0], read(x.q)[0])
		mustNot(t, ok != (x.want != "") || write([][]int{got}) != x.want, "JoinPatterns", x, got)
	}
	for _, bad := range invalidModels() {
		zeros := make([]int, len(bad))
		p, ok := impl.JoinPatterns(bad, zeros, zeros)
		mustNot(t, ok || len(p) != 0, "JoinPatterns of no model", bad)
	}
}

func TestPatternText(t *testing.T) {
	m := []int{2, 3, 1}
	for _, s := range []string{"...", "000", "120", "1..", ".2.", "..0"} {
		mustNot(t, impl.PatternText(m, read(s)[0]) != s, "PatternText", s)
	}
	for _, p := range [][]int{nil, {0, 0}, {0, 0, 0, 0}, {2, 0, 0}, {0, 0, 1}, {-2, 0, 0}} {
		mustNot(t, impl.PatternText(m, p) != "", "PatternText of no pattern", p)
	}
	for _, bad := range invalidModels() {
		mustNot(t, impl.PatternText(bad, make([]int, len(bad))) != "", "PatternText of no model", bad)
	}
}

// Promise 17.
func TestPatternsAreReadBack(t *testing.T) {
	for _, m := range allModels() {
		for _, p := range everyPattern(m) {
			back, ok := impl.ParsePattern(m, impl.PatternText(m, p))
			mustNot(t, !ok || !slices.Equal(back, p), "ParsePattern of PatternText", m, p, back)
		}
	}
}

// Promise 18.
func TestTextsOfPatternsAreWrittenBack(t *testing.T) {
	m := []int{2, 3}
	read := 0
	for a := range 256 {
		for b := range 256 {
			s := string([]byte{byte(a), byte(b)})
			p, ok := impl.ParsePattern(m, s)
			mustNot(t, !ok && len(p) != 0, "ParsePattern of none", s, p)
			if ok {
				read++
				mustNot(t, impl.PatternText(m, p) != s, "PatternText of ParsePattern", s, p)
			}
		}
	}
	mustNot(t, read != 12, "texts that are read", read)
}

func TestParsePatternOfWrongTexts(t *testing.T) {
	m := []int{2, 3, 1}
	for _, s := range []string{"", "0", "00", "0000", "....", "200", "030", "001", "0 0", "0.-", "-10", "0,0", "00/", "00:", "00\x00", " ...", "...\n", "é.", "٠00", "\xff00"} {
		p, ok := impl.ParsePattern(m, s)
		mustNot(t, ok || len(p) != 0, "ParsePattern", s, p)
	}
	for _, bad := range invalidModels() {
		for _, s := range []string{"", ".", "..", "...", "0", "00", "000000", "......"} {
			p, ok := impl.ParsePattern(bad, s)
			mustNot(t, ok || len(p) != 0, "ParsePattern of no model", bad, s)
		}
	}
}
