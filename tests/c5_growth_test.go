package tests

import (
	"slices"
	"testing"

	"loop.example/coveringtests/impl"
)

// growByTrying returns what GrowRuns is to return.
func growByTrying(n, t int) ([][]int, bool) {
	s := runSample{n, nil}
	for {
		open := unseenByTrying(s, t)
		if len(open) == 0 {
			return s.runs, true
		}
		if len(s.runs) == impl.MaxTests {
			return nil, false
		}
		var best []int
		most := 0
		for _, run := range listsByCounting(n, n) {
			shown := 0
			for _, list := range open {
				if comesIn(run, list) {
					shown++
				}
			}
			if shown > most {
				best, most = run, shown
			}
		}
		s.runs = append(s.runs, best)
	}
}

// Promise 54.
func TestTurnedRunsShowAllPairs(t *testing.T) {
	turning := 0
	for _, s := range runSamples() {
		got := impl.TurnRuns(s.n, s.runs)
		if len(s.runs) > impl.MaxTests/2 {
			mustNot(t, len(got) != 0, "TurnRuns of too many", s, got)
			continue
		}
		mustNot(t, len(got) != 2*len(s.runs) || !impl.ValidRuns(s.n, got), "TurnRuns", s, got)
		for i, run := range s.runs {
			back := slices.Clone(run)
			slices.Reverse(back)
			mustNot(t, !slices.Equal(got[2*i], run) || !slices.Equal(got[2*i+1], back), "a run of TurnRuns", s, i, got)
		}
		if len(s.runs) > 0 && s.n >= 2 {
			turning++
			mustNot(t, !impl.IsOrdering(s.n, got, 2), "IsOrdering of TurnRuns", s, got)
		}
		for size := range s.n + 1 {
			before := impl.UnseenOf(s.n, s.runs, size)
			for _, list := range impl.UnseenOf(s.n, got, size) {
				mustNot(t, !amongThem(before, list), "UnseenOf TurnRuns", s, size, list)
			}
		}
	}
	mustNot(t, turning < 100, "runs of the samples that are turned", turning)
}

func TestTurnRuns(t *testing.T) {
	for _, x := range []struct {
		n          int
		runs, want string
	}{
		{1, "", ""},
		{1, "0", "0,0"},
		{1, "0,0", "0,0,0,0"},
		{2, "10", "10,01"},
		{3, "102", "102,201"},
		{3, "102,012", "102,201,012,210"},
		{3, "102,201", "102,201,201,102"},
		{4, "0132,3210", "0132,2310,3210,0123"},
		{5, "", ""},
		{5, "43120", "43120,02134"},
	} {
		got := write(impl.TurnRuns(x.n, read(x.runs)))
		mustNot(t, got != x.want, "TurnRuns", x, got)
	}
	// Just half of the greatest number of runs, and one more.
	half := impl.MaxTests / 2
	got := impl.TurnRuns(3, times(half, 0, 2, 1))
	mustNot(t, len(got) != 2*half || !slices.Equal(got[2*half-2], []int{0, 2, 1}) || !slices.Equal(got[2*half-1], []int{1, 2, 0}), "TurnRuns of half", got)
	for _, many := range []int{half + 1, impl.MaxTests - 1, impl.MaxTests, impl.MaxTests + 1} {
		mustNot(t, len(impl.TurnRuns(3, times(many, 0, 2, 1))) != 0, "TurnRuns of more than half", many)
	}
	for _, runs := range invalidRuns() {
		mustNot(t, len(impl.TurnRuns(3, runs)) != 0, "TurnRuns of no runs", runs)
	}
	for _, n := range invalidCounts() {
		for _, runs := range runsOfNone(n) {
			mustNot(t, len(impl.TurnRuns(n, runs)) != 0, "TurnRuns of no events", n, runs)
		}
	}
}

// Promise 55.
func TestGrownRunsShowAll(t *testing.T) {
	for n := 1; n <= impl.MaxEvents; n++ {
		for size := range n + 1 {
			got, ok := impl.GrowRuns(n, size)
			want, can := growByTrying(n, size)
			mustNot(t, ok != can || !sameLists(got, want), "GrowRuns", n, size, got, ok)
			if !ok {
				continue
			}
			mustNot(t, !impl.ValidRuns(n, got) || !impl.IsOrdering(n, got, size), "IsOrdering of GrowRuns", n, size, got)
			for i := range got {
				before, after := impl.UnseenOf(n, got[:i], size), impl.UnseenOf(n, got[:i+1], size)
				mustNot(t, len(after) >= len(before), "GrowRuns has a run that shows nothing new", n, size, got, i)
			}
		}
	}
}

func TestGrowRuns(t *testing.T) {
	for _, x := range []struct {
		n, t int
		want string
	}{
		{1, 0, "0"},
		{1, 1, "0"},
		{2, 0, "01"},
		{2, 1, "01"},
		{2, 2, "01,10"},
		{3, 0, "012"},
		{3, 1, "012"},
		{3, 2, "012,210"},
		{3, 3, "012,021,102,120,201,210"},
		{4, 2, "0123,3210"},
		{5, 0, "01234"},
		{5, 1, "01234"},
		{5, 2, "01234,43210"},
	} {
		got, ok := impl.GrowRuns(x.n, x.t)
		mustNot(t, !ok || write(got) != x.want, "GrowRuns", x, got, ok)
	}
	got, ok := impl.GrowRuns(4, 3)
	mustNot(t, !ok || len(got) < 6 || !impl.IsOrdering(4, got, 3), "GrowRuns of threes", got, ok)
	got, ok = impl.GrowRuns(5, 3)
	mustNot(t, !ok || len(got) < 6 || !impl.IsOrdering(5, got, 3), "GrowRuns of threes", got, ok)
	// Each run shows one order of each set, and fours have more than MaxTests.
	for _, x := range [][2]int{{4, 4}, {5, 4}, {5, 5}} {
		got, ok := impl.GrowRuns(x[0], x[1])
		mustNot(t, ok || len(got) != 0, "GrowRuns of too many", x, got, ok)
	}
	for n := 1; n <= impl.MaxEvents; n++ {
		for _, size := range []int{-1, n + 1, n + 2, 1 << 62, -1 << 63} {
			got, ok := impl.GrowRuns(n, size)
			mustNot(t, ok || len(got) != 0, "GrowRuns beyond", n, size, got)
		}
	}
	for _, n := range invalidCounts() {
		for _, size := range []int{-1, 0, 1, n - 1, n} {
			got, ok := impl.GrowRuns(n, size)
			mustNot(t, ok || len(got) != 0, "GrowRuns of no events", n, size, got)
		}
	}
}

// Promise 56.
func TestFewerEventsAreShown(t *testing.T) {
	ordering := 0
	for _, s := range runSamples() {
		for e := -1; e <= s.n; e++ {
			got, ok := impl.DropEvent(s.n, s.runs, e)
			mustNot(t, ok != (s.n >= 2 && e >= 0 && e < s.n), "DropEvent", s, e, got, ok)
			if !ok {
				mustNot(t, len(got) != 0, "DropEvent of no event", s, e, got)
				continue
			}
			mustNot(t, len(got) != len(s.runs) || !impl.ValidRuns(s.n-1, got), "runs of DropEvent", s, e, got)
			for i, run := range s.runs {
				var want []int
				for _, x := range run {
					switch {
					case x < e:
						want = append(want, x)
					case x > e:
						want = append(want, x-1)
					}
				}
				mustNot(t, !slices.Equal(got[i], want), "a run of DropEvent", s, e, i, got)
			}
			for size := range s.n {
				if impl.IsOrdering(s.n, s.runs, size) {
					ordering++
					mustNot(t, !impl.IsOrdering(s.n-1, got, size), "IsOrdering of DropEvent", s, e, size, got)
				}
			}
		}
	}
	mustNot(t, ordering < 100, "ordering runs of the samples", ordering)
}

func TestDropEvent(t *testing.T) {
	for _, x := range []struct {
		n    int
		runs string
		e    int
		want string
		ok   bool
	}{
		{2, "01,10", 0, "0,0", true},
		{2, "01,10", 1, "0,0", true},
		{2, "01,10", 2, "", false},
		{2, "01,10", -1, "", false},
		{2, "", 0, "", true},
		{2, "", 1, "", true},
		{2, "", 2, "", false},
		{2, "", -1, "", false},
		{3, "012,210,120", 0, "01,10,01", true},
		{3, "012,210,120", 1, "01,10,10", true},
		{3, "012,210,120", 2, "01,10,10", true},
		{3, "012,210,120", 3, "", false},
		{5, "31420,31420", 0, "2031,2031", true},
		{5, "31420", 2, "2130", true},
		{5, "31420", 4, "3120", true},
		{5, "31420", 5, "", false},
		{5, "31420", -1, "", false},
		{5, "31420", 1 << 62, "", false},
		{5, "31420", -1 << 63, "", false},
		{1, "", 0, "", false},
		{1, "0", 0, "", false},
		{1, "0,0", 0, "", false},
		{1, "0", 1, "", false},
		{1, "0", -1, "", false},
	} {
		got, ok := impl.DropEvent(x.n, read(x.runs), x.e)
		mustNot(t, ok != x.ok || write(got) != x.want, "DropEvent", x, got, ok)
	}
	got, ok := impl.DropEvent(3, times(impl.MaxTests, 2, 0, 1), 1)
	mustNot(t, !ok || !sameLists(got, times(impl.MaxTests, 1, 0)), "DropEvent of MaxTests runs", got, ok)
	for e := range 3 {
		for _, runs := range invalidRuns() {
			got, ok := impl.DropEvent(3, runs, e)
			mustNot(t, ok || len(got) != 0, "DropEvent of no runs", runs, e, got)
		}
		for _, n := range invalidCounts() {
			for _, runs := range runsOfNone(n) {
				got, ok := impl.DropEvent(n, runs, e)
				mustNot(t, ok || len(got) != 0, "DropEvent of no events", n, runs, e, got)
			}
		}
	}
}
