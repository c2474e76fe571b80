package tests

import (
	"slices"
	"testing"

	"loop.example/coveringtests/impl"
)

// runSample are runs of so many events.
type runSample struct {
	n    int
	runs [][]int
}

// listsByCounting returns the lists of t different ones of n events in their
// order, found by counting with an event as each digit.
func listsByCounting(n, t int) [][]int {
	all := 1
	for range t {
		all *= n
	}
	var out [][]int
	for i := range all {
		list := make([]int, t)
		for place := t - 1; place >= 0; place-- {
			list[place] = i % n
			i /= n
		}
		if !comesTwice(list) {
			out = append(out, list)
		}
	}
	return out
}

// comesTwice reports whether a list has an event twice.
func comesTwice(list []int) bool {
	for i, e := range list {
		if slices.Contains(list[:i], e) {
			return true
		}
	}
	return false
}

// comesIn reports whether the events of a list come in a run one after the
// other, found by walking through the run.
func comesIn(run, list []int) bool {
	found := 0
	for _, e := range run {
		if found < len(list) && list[found] == e {
			found++
		}
	}
	return found == len(list)
}

// unseenByTrying returns what UnseenOf is to return.
func unseenByTrying(s runSample, t int) [][]int {
	return slices.DeleteFunc(listsByCounting(s.n, t), func(list []int) bool {
		return slices.ContainsFunc(s.runs, func(run []int) bool { return comesIn(run, list) })
	})
}

// runSamples returns runs of many kinds: none, each one alone, all of them or
// the first MaxTests, scattered ones, with one that comes twice, and grown ones.
func runSamples() []runSample {
	var out []runSample
	seed := uint64(5)
	for n := 1; n <= impl.MaxEvents; n++ {
		all := listsByCounting(n, n)
		out = append(out, runSample{n, nil}, runSample{n, all[:min(len(all), impl.MaxTests)]})
		for _, run := range all {
			out = append(out, runSample{n, [][]int{run}})
		}
		for size := 2; size < impl.MaxTests; size += 3 {
			var runs [][]int
			for range size {
				seed = seed*6364136223846793005 + 1442695040888963407
				runs = append(runs, all[int(seed>>33)%len(all)])
			}
			out = append(out, runSample{n, runs}, runSample{n, append(runs[:size:size], runs[size/2])})
		}
		for t := range n + 1 {
			if grown, ok := growByTrying(n, t); ok {
				out = append(out, runSample{n, grown})
			}
		}
	}
	return out
}

// runsOfNone returns lists that would be runs if there could be n events; of
// very many events they have only the first ones.
func runsOfNone(n int) [][][]int {
	run := []int{}
	for e := range min(n, 2*impl.MaxEvents) {
		run = append(run, e)
	}
	return [][][]int{nil, {{}}, {run}}
}

// invalidRuns returns lists that are no runs of three events.
func invalidRuns() [][][]int {
	return [][][]int{
		{nil}, {{}}, {{0}}, {{0, 1}}, {{0, 2}}, {{0, 1, 2, 3}}, {{0, 1, 2, 0}}, {{0, 1, 2, 2}},
		{{0, 0, 0}}, {{0, 0, 1}}, {{0, 1, 1}}, {{2, 1, 2}}, {{1, 2, 3}}, {{0, 1, 3}}, {{3, 1, 0}},
		{{0, 1, -1}}, {{-1, 0, 1}}, {{0, 1, 1 << 62}}, {{-1 << 63, 1, 2}},
		{{0, 1, 2}, {0, 1}}, {{0, 1}, {0, 1, 2}}, {{0, 1, 2}, {2, 1, 0}, {1, 1, 2}}, {{0, 1, 2}, nil}, {{0, 1, 2}, {0, 1, 3}, {2, 1, 0}},
		times(impl.MaxTests+1, 0, 1, 2),
	}
}

// invalidCounts returns numbers of events that there cannot be.
func invalidCounts() []int {
	return []int{0, -1, -3, impl.MaxEvents + 1, impl.MaxEvents + 2, 1 << 62, -1 << 63}
}

// Promise 49.
func TestRunsCanBeCut(t *testing.T) {
	for _, s := range runSamples() {
		for size := len(s.runs); size >= 0; size-- {
			mustNot(t, !impl.ValidRuns(s.n, s.runs[:size]), "ValidRuns", s.n, s.runs[:size])
		}
		for n := -1; n <= impl.MaxEvents+1; n++ {
			is := impl.ValidRuns(n, s.runs)
			want := n == s.n || len(s.runs) == 0 && n >= 1 && n <= impl.MaxEvents
			mustNot(t, is != want, "ValidRuns of other events", n, s)
		}
	}
}

// Each list of numbers near those of the events is a run exactly if it is one
// of the lists of all events.
func TestRunsOfFewEvents(t *testing.T) {
	for n := 1; n <= 4; n++ {
		all := listsByCounting(n, n)
		for length := range n + 2 {
			count := 1
			for range length {
				count *= n + 2
			}
			for i := range count {
				run := make([]int, length)
				for place := range run {
					run[place] = i%(n+2) - 1
					i /= n + 2
				}
				is := impl.ValidRuns(n, [][]int{run})
				mustNot(t, is != amongThem(all, run), "ValidRuns of one run", n, run, is)
			}
		}
	}
}

func TestValidRuns(t *testing.T) {
	for _, x := range []struct {
		n    int
		runs [][]int
		want bool
	}{
		{1, nil, true},
		{1, [][]int{}, true},
		{1, [][]int{{0}}, true},
		{1, [][]int{{1}}, false},
		{1, [][]int{{-1}}, false},
		{1, [][]int{{}}, false},
		{1, [][]int{nil}, false},
		{1, [][]int{{0, 0}}, false},
		{1, times(impl.MaxTests, 0), true},
		{1, times(impl.MaxTests+1, 0), false},
		{3, [][]int{{2, 0, 1}}, true},
		{3, [][]int{{2, 0, 1}, {2, 0, 1}}, true},
		{impl.MaxEvents, nil, true},
		{impl.MaxEvents, [][]int{{4, 2, 0, 1, 3}}, true},
		{impl.MaxEvents, [][]int{{4, 2, 0, 1, 4}}, false},
		{impl.MaxEvents, [][]int{{5, 2, 0, 1, 3}}, false},
		{impl.MaxEvents, times(impl.MaxTests, 4, 3, 2, 1, 0), true},
		{impl.MaxEvents, times(impl.MaxTests+1, 4, 3, 2, 1, 0), false},
		{impl.MaxEvents, append(times(impl.MaxTests-1, 4, 3, 2, 1, 0), []int{4, 3, 2, 1, 1}), false},
	} {
		mustNot(t, impl.ValidRuns(x.n, x.runs) != x.want, "ValidRuns", x)
	}
	for _, runs := range invalidRuns() {
		mustNot(t, impl.ValidRuns(3, runs), "ValidRuns of no runs", runs)
	}
	for _, n := range invalidCounts() {
		for _, runs := range runsOfNone(n) {
			mustNot(t, impl.ValidRuns(n, runs), "ValidRuns of no events", n, runs)
		}
	}
}

// Promise 50.
func TestAllListsAreToldOnce(t *testing.T) {
	for n := 1; n <= impl.MaxEvents; n++ {
		product := 1
		for size := range n + 1 {
			got := impl.AllLists(n, size)
			mustNot(t, len(got) != product, "number of AllLists", n, size, len(got))
			mustNot(t, !sameLists(got, listsByCounting(n, size)), "AllLists", n, size, got)
			seen := map[string]bool{}
			for i, list := range got {
				mustNot(t, len(list) != size || comesTwice(list) || seen[write([][]int{list})], "a list of AllLists", n, size, list)
				seen[write([][]int{list})] = true
				mustNot(t, i > 0 && slices.Compare(got[i-1], list) >= 0, "order of AllLists", n, size, list)
			}
			product *= n - size
		}
	}
}

func TestAllLists(t *testing.T) {
	for _, x := range []struct {
		n, t int
		want string
	}{
		{1, 1, "0"},
		{2, 1, "0,1"},
		{2, 2, "01,10"},
		{3, 1, "0,1,2"},
		{3, 2, "01,02,10,12,20,21"},
		{3, 3, "012,021,102,120,201,210"},
		{4, 2, "01,02,03,10,12,13,20,21,23,30,31,32"},
		{5, 1, "0,1,2,3,4"},
	} {
		got := write(impl.AllLists(x.n, x.t))
		mustNot(t, got != x.want, "AllLists", x, got)
	}
	for n := 1; n <= impl.MaxEvents; n++ {
		got := impl.AllLists(n, 0)
		mustNot(t, len(got) != 1 || len(got[0]) != 0, "AllLists of nothing", n, got)
		for _, size := range []int{-1, n + 1, n + 2, 1 << 62, -1 << 63} {
			mustNot(t, len(impl.AllLists(n, size)) != 0, "AllLists beyond", n, size)
		}
	}
	for _, n := range invalidCounts() {
		for _, size := range []int{-1, 0, 1, n - 1, n} {
			mustNot(t, len(impl.AllLists(n, size)) != 0, "AllLists of no events", n, size)
		}
	}
}

// Promise 51.
func TestRunsShowWhatTheyShow(t *testing.T) {
	for n := 1; n <= impl.MaxEvents; n++ {
		for _, run := range impl.AllLists(n, n) {
			mustNot(t, !impl.Shows(n, run, run), "Shows itself", n, run)
			shown := 0
			for size := range n + 1 {
				for _, list := range impl.AllLists(n, size) {
					shows := impl.Shows(n, run, list)
					mustNot(t, shows != comesIn(run, list), "Shows", n, run, list, shows)
					if !shows {
						continue
					}
					shown++
					for i := range list {
						fewer := slices.Concat(list[:i], list[i+1:])
						mustNot(t, !impl.Shows(n, run, fewer), "Shows one less", n, run, list, fewer)
					}
				}
			}
			// One list of each set of events.
			mustNot(t, shown != 1<<n, "number of lists shown", n, run, shown)
		}
	}
}

func TestShows(t *testing.T) {
	for _, x := range []struct {
		n         int
		run, list []int
		want      bool
	}{
		{4, []int{3, 0, 2, 1}, nil, true},
		{4, []int{3, 0, 2, 1}, []int{}, true},
		{4, []int{3, 0, 2, 1}, []int{0}, true},
		{4, []int{3, 0, 2, 1}, []int{3, 1}, true},
		{4, []int{3, 0, 2, 1}, []int{1, 3}, false},
		{4, []int{3, 0, 2, 1}, []int{3, 2, 1}, true},
		{4, []int{3, 0, 2, 1}, []int{3, 1, 2}, false},
		{4, []int{3, 0, 2, 1}, []int{0, 3, 1}, false},
		{4, []int{3, 0, 2, 1}, []int{3, 0, 2, 1}, true},
		{4, []int{3, 0, 2, 1}, []int{0, 1, 2, 3}, false},
		{4, []int{3, 0, 2, 1}, []int{3, 3}, false},
		{4, []int{3, 0, 2, 1}, []int{3, 0, 0}, false},
		{4, []int{3, 0, 2, 1}, []int{0, 2, 0}, false},
		{4, []int{3, 0, 2, 1}, []int{3, 0, 2, 1, 1}, false},
		{4, []int{3, 0, 2, 1}, []int{3, 0, 2, 1, 4}, false},
		{4, []int{3, 0, 2, 1}, []int{4}, false},
		{4, []int{3, 0, 2, 1}, []int{-1}, false},
		{4, []int{3, 0, 2, 1}, []int{3, 4}, false},
		{4, []int{3, 0, 2, 1}, []int{-1, 3}, false},
		{4, []int{3, 0, 2, 1}, []int{1 << 62}, false},
		{4, []int{3, 0, 2, 1}, []int{-1 << 63}, false},
		{1, []int{0}, nil, true},
		{1, []int{0}, []int{0}, true},
		{1, []int{0}, []int{0, 0}, false},
		{1, []int{0}, []int{1}, false},
		{5, []int{4, 3, 2, 1, 0}, []int{4, 2, 0}, true},
		{5, []int{4, 3, 2, 1, 0}, []int{4, 0, 2}, false},
		{5, []int{4, 3, 2, 1, 0}, []int{5}, false},
	} {
		mustNot(t, impl.Shows(x.n, x.run, x.list) != x.want, "Shows", x)
	}
}

func TestInvalidArgumentsOfShows(t *testing.T) {
	for _, list := range [][]int{nil, {0}, {1}, {0, 1}} {
		for _, runs := range invalidRuns() {
			for _, run := range runs {
				if impl.ValidRuns(3, [][]int{run}) {
					continue
				}
				mustNot(t, impl.Shows(3, run, list), "Shows of no run", run, list)
			}
		}
		for _, n := range invalidCounts() {
			for _, run := range slices.Concat(runsOfNone(n)...) {
				mustNot(t, impl.Shows(n, run, list), "Shows of no events", n, run, list)
			}
		}
		mustNot(t, impl.Shows(2, []int{0, 1, 2}, list), "Shows of fewer events", list)
		mustNot(t, impl.Shows(4, []int{0, 1, 2}, list), "Shows of more events", list)
	}
}

// Promise 52.
func TestWhatIsUnseenIsShownByNoRun(t *testing.T) {
	for _, s := range runSamples() {
		for size := range s.n + 1 {
			unseen := impl.UnseenOf(s.n, s.runs, size)
			mustNot(t, !sameLists(unseen, unseenByTrying(s, size)), "UnseenOf", s, size, unseen)
			for _, list := range unseen {
				for _, run := range s.runs {
					mustNot(t, impl.Shows(s.n, run, list), "Shows one of UnseenOf", s, size, run, list)
				}
			}
			for i := range s.runs {
				before := impl.UnseenOf(s.n, leave(s.runs, i), size)
				for _, list := range unseen {
					mustNot(t, !amongThem(before, list), "UnseenOf with fewer runs", s, size, i, list)
				}
			}
		}
	}
}

func TestUnseenOf(t *testing.T) {
	for _, x := range []struct {
		n    int
		runs string
		t    int
		want string
	}{
		{3, "", 1, "0,1,2"},
		{3, "", 2, "01,02,10,12,20,21"},
		{3, "012", 1, ""},
		{3, "012", 2, "10,20,21"},
		{3, "012", 3, "021,102,120,201,210"},
		{3, "120", 2, "01,02,21"},
		{3, "012,210", 2, ""},
		{3, "012,210", 3, "021,102,120,201"},
		{3, "012,012", 2, "10,20,21"},
		{3, "012,120", 2, "21"},
		{3, "012,021,102,120,201,210", 3, ""},
		{4, "0123,3210", 2, ""},
		{4, "0213,3120", 2, ""},
		{4, "0123,1032", 2, "20,21,30,31"},
		{1, "", 1, "0"},
		{1, "0", 1, ""},
		{2, "10", 2, "01"},
	} {
		got := write(impl.UnseenOf(x.n, read(x.runs), x.t))
		mustNot(t, got != x.want, "UnseenOf", x, got)
		ordering := impl.IsOrdering(x.n, read(x.runs), x.t)
		mustNot(t, ordering != (x.want == ""), "IsOrdering", x, ordering)
	}
	for n := 1; n <= impl.MaxEvents; n++ {
		got := impl.UnseenOf(n, nil, 0)
		mustNot(t, len(got) != 1 || len(got[0]) != 0, "UnseenOf the list of nothing", n, got)
		mustNot(t, impl.IsOrdering(n, nil, 0), "IsOrdering of no runs", n)
		mustNot(t, !impl.IsOrdering(n, listsByCounting(n, n)[:1], 0), "IsOrdering of a run", n)
		mustNot(t, len(impl.UnseenOf(n, listsByCounting(n, n)[:1], 0)) != 0, "UnseenOf of a run", n)
	}
	// Just the greatest number of runs, and one more.
	full := append(times(impl.MaxTests-1, 0, 1, 2, 3, 4), []int{4, 3, 2, 1, 0})
	mustNot(t, !impl.IsOrdering(5, full, 2) || len(impl.UnseenOf(5, full, 5)) != 118, "MaxTests runs")
	full = append(full, []int{4, 3, 2, 1, 0})
	mustNot(t, impl.IsOrdering(5, full, 2) || len(impl.UnseenOf(5, full, 5)) != 0, "more than MaxTests runs")
}

// Promise 53.
func TestEachRunShowsOneOrderOfEachSet(t *testing.T) {
	ordering := 0
	for _, s := range runSamples() {
		orders := 1
		for size := range s.n + 1 {
			orders *= max(size, 1)
			is := impl.IsOrdering(s.n, s.runs, size)
			mustNot(t, is != (len(unseenByTrying(s, size)) == 0), "IsOrdering", s, size, is)
			if !is {
				continue
			}
			ordering++
			mustNot(t, len(s.runs) < orders, "runs that are ordering", s, size)
			mustNot(t, size > 0 && !impl.IsOrdering(s.n, s.runs, size-1), "IsOrdering of fewer", s, size)
		}
	}
	mustNot(t, ordering < 100, "ordering runs among the samples", ordering)
}

func TestInvalidArgumentsOfOrdering(t *testing.T) {
	all := listsByCounting(3, 3)
	for _, size := range []int{-1, 4, 5, 1 << 62, -1 << 63} {
		for _, runs := range [][][]int{nil, all} {
			mustNot(t, len(impl.UnseenOf(3, runs, size)) != 0, "UnseenOf beyond", runs, size)
			mustNot(t, impl.IsOrdering(3, runs, size), "IsOrdering beyond", runs, size)
		}
	}
	for size := range 4 {
		for _, runs := range invalidRuns() {
			for _, some := range [][][]int{runs, slices.Concat(all, runs)} {
				mustNot(t, len(impl.UnseenOf(3, some, size)) != 0, "UnseenOf of no runs", some, size)
				mustNot(t, impl.IsOrdering(3, some, size), "IsOrdering of no runs", some, size)
			}
		}
	}
	for _, n := range invalidCounts() {
		for _, size := range []int{-1, 0, 1, n, n + 1} {
			for _, runs := range runsOfNone(n) {
				mustNot(t, len(impl.UnseenOf(n, runs, size)) != 0, "UnseenOf of no events", n, runs, size)
				mustNot(t, impl.IsOrdering(n, runs, size), "IsOrdering of no events", n, runs, size)
			}
		}
	}
}
