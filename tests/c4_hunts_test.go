package tests

import (
	"slices"
	"testing"

	"loop.example/coveringtests/impl"
)

// splitByTrying returns what SplitTest is to return for so many patterns.
func splitByTrying(m []int, list [][]int) ([]int, bool) {
	var best []int
	least := 0
	for _, test := range patternsByCounting(m, len(m)) {
		matched := agreeing(list, test)
		if matched == 0 || matched == len(list) {
			continue
		}
		difference := max(matched, len(list)-matched) - min(matched, len(list)-matched)
		if best == nil || difference < least {
			best, least = test, difference
		}
	}
	return best, best != nil
}

// lists is a list of patterns with its model.
type lists struct {
	m    []int
	list [][]int
}

// listSamples returns lists of patterns of many kinds: all of one strength, of
// all strengths, one, and scattered ones that may come twice.
func listSamples() []lists {
	var out []lists
	seed := uint64(11)
	for _, m := range [][]int{{1}, {2}, {3}, {1, 1}, {2, 1}, {2, 2}, {3, 2}, {1, 1, 1}, {1, 3, 1}, {2, 2, 2}, {3, 3, 2}, {2, 2, 2, 2}, {1, 2, 1, 3, 2}, {3, 3, 3, 3, 3}} {
		all := everyPattern(m)
		out = append(out, lists{m, nil}, lists{m, all[:min(len(all), impl.MaxList)]}, lists{m, all[len(all)-1:]})
		for strength := range len(m) + 1 {
			patterns := patternsByCounting(m, strength)
			out = append(out, lists{m, patterns[:min(len(patterns), impl.MaxList)]})
		}
		for _, size := range []int{1, 2, 2, 3, 3, 4, 5, 7, 12, 30, impl.MaxList} {
			var list [][]int
			for range size {
				seed = seed*6364136223846793005 + 1442695040888963407
				list = append(list, all[int(seed>>33)%len(all)])
			}
			out = append(out, lists{m, list}, lists{m, slices.Concat(list, list)[:min(2*size, impl.MaxList)]})
		}
	}
	return out
}

// Promise 46.
func TestTestsPartWhatCanBeParted(t *testing.T) {
	parted, not := 0, 0
	for _, s := range listSamples() {
		test, ok := impl.SplitTest(s.m, s.list)
		want, wantOK := splitByTrying(s.m, s.list)
		mustNot(t, ok != wantOK || !slices.Equal(test, want), "SplitTest", s, test, ok, want)
		if !ok {
			not++
			continue
		}
		parted++
		mustNot(t, !amongThem(impl.AllTests(s.m), test), "SplitTest is no test", s, test)
		matched := 0
		for _, p := range s.list {
			if impl.Matches(s.m, p, test) {
				matched++
			}
		}
		mustNot(t, matched == 0 || matched == len(s.list), "SplitTest does not part the patterns", s, test)
	}
	mustNot(t, parted < 100 || not < 30, "lists of the samples that are parted", parted, not)
}

func TestSplitTest(t *testing.T) {
	for _, x := range []struct {
		m          []int
		list, want string
	}{
		{[]int{2, 2, 2}, "0..,1..,.0.,.1.", "000"},
		{[]int{2, 2, 2}, "0..,0..", ""},
		{[]int{2, 2, 2}, "0..", ""},
		{[]int{2, 2, 2}, "", ""},
		{[]int{2, 2, 2}, "...,...", ""},
		{[]int{2, 2, 2}, "...,111", "000"},
		{[]int{2, 2, 2}, "...,000", "001"},
		{[]int{2, 2, 2}, "1..,11.", "100"},
		{[]int{2, 2, 2}, "111,110", "110"},
		{[]int{2, 2, 2}, "00.,01.,10.", "000"},
		{[]int{2, 2, 2}, "1.1,.11,11.,111", "011"},
		// 000 matches one of these three, 100 two: both differ by 1.
		{[]int{2, 2, 2}, "0..,1..,1..", "000"},
		{[]int{2, 2, 2}, "000,1..,1..,.0.,.0.", "000"},
		{[]int{2, 2, 2}, "000,000,000,0..,.0.,..0", "001"},
		{[]int{2, 2, 2}, "000,0..,.0.,..0", "001"},
		{[]int{2, 2, 2}, "0..,0..,0..,.00", "001"},
		{[]int{2, 2, 2}, ".0.,.0.,0..", "010"},
		{[]int{2, 2, 2}, "0..,.0.,..0,..0,..0,..0", "001"},
		{[]int{2, 1}, ".0,..", ""},
		{[]int{2, 1}, ".0,..,00", "10"},
		{[]int{1, 1}, "0.,.0,00,..", ""},
		{[]int{1}, "0,.", ""},
		{[]int{3}, "0,1,2", "0"},
		{[]int{3}, "2,1", "1"},
		{[]int{3}, "1,1,2,0,2,0,2", "2"},
		{[]int{3}, "0,0,0,0,1,2,2", "0"},
		{[]int{3}, "0,0,0,1,1,1,2,2,2,2", "2"},
	} {
		test, ok := impl.SplitTest(x.m, read(x.list))
		mustNot(t, ok != (x.want != "") || write([][]int{test}) != x.want, "SplitTest", x, test, ok)
	}
}

func TestSplitTestUpToMaxList(t *testing.T) {
	m := []int{2, 2, 2}
	for _, x := range []struct {
		size int
		ok   bool
	}{{impl.MaxList, true}, {impl.MaxList + 1, false}, {2 * impl.MaxList, false}} {
		// Just one of so many patterns is different.
		list := append(times(x.size-1, Any, 0, Any), []int{Any, 1, 1})
		test, ok := impl.SplitTest(m, list)
		mustNot(t, ok != x.ok || ok && !slices.Equal(test, []int{0, 0, 0}), "SplitTest of many patterns", x, test, ok)
		mustNot(t, !ok && len(test) != 0, "SplitTest of too many patterns", x, test)
	}
	test, ok := impl.SplitTest(m, times(impl.MaxList, Any, 0, Any))
	mustNot(t, ok || len(test) != 0, "SplitTest of MaxList patterns that are equal", test, ok)
}

func TestInvalidArgumentsOfSplitTest(t *testing.T) {
	m := []int{2, 1, 3}
	for _, list := range [][][]int{{nil}, {{}}, read("0..,1..,..,.00"), read("0..,2..,1.."), read("1..,0..,....,.00"), read(".1.,0..,1.."), {{0, Any, Any}, {1, Any, Any}, {-2, Any, Any}}, {{0, 0, 0}, {1 << 62, 0, 0}}, {{1, 0, 2}, {1, 0, -1 << 63}}} {
		test, ok := impl.SplitTest(m, list)
		mustNot(t, ok || len(test) != 0, "SplitTest of no patterns", list, test, ok)
	}
	for _, bad := range invalidModels() {
		free := slices.Repeat([]int{Any}, len(bad))
		for _, list := range [][][]int{nil, {free, make([]int, len(bad))}} {
			test, ok := impl.SplitTest(bad, list)
			mustNot(t, ok || len(test) != 0, "SplitTest of no model", bad, list, test, ok)
		}
	}
}

// huntedByTrying returns what HuntFault is to return.
func huntedByTrying(m, fault []int) ([][]int, int) {
	strength := 0
	for _, x := range fault {
		if x != Any {
			strength++
		}
	}
	left := patternsByCounting(m, strength)
	for taken := 0; ; taken++ {
		test, ok := splitByTrying(m, left)
		if !ok {
			return left, taken
		}
		left = slices.DeleteFunc(left, func(p []int) bool { return agrees(p, test) != agrees(fault, test) })
	}
}

// hunts returns patterns that are hunted with their models: all of the small
// models, and some of the great ones.
func hunts() []lists {
	var out []lists
	for _, m := range allModels() {
		if len(m) <= 3 {
			out = append(out, lists{m, everyPattern(m)})
		}
	}
	for _, m := range [][]int{{2, 2, 2, 2}, {1, 1, 1, 1, 1}, {1, 3, 2, 1, 2}, {3, 3, 3, 3}, {3, 3, 3, 3, 3}} {
		var some [][]int
		for strength := range len(m) + 1 {
			all := patternsByCounting(m, strength)
			for i := 0; i < len(all); i += 1 + len(all)/4 {
				some = append(some, all[i])
			}
			some = append(some, all[len(all)-1])
		}
		out = append(out, lists{m, some})
	}
	return out
}

// Promise 47.
func TestWhatIsLeftCannotBeToldFromTheFault(t *testing.T) {
	several, great := 0, 0
	for _, s := range hunts() {
		tests := impl.AllTests(s.m)
		for _, fault := range s.list {
			left, taken := impl.HuntFault(s.m, fault)
			want, wantTaken := huntedByTrying(s.m, fault)
			mustNot(t, !sameLists(left, want) || taken != wantTaken, "HuntFault", s.m, fault, left, taken)
			mustNot(t, !amongThem(left, fault), "HuntFault has lost the fault", s.m, fault, left)
			strength := impl.StrengthOf(s.m, fault)
			all := impl.AllPatterns(s.m, strength)
			mustNot(t, taken < 0 || taken >= len(all), "HuntFault takes too many tests", s.m, fault, taken)
			for _, p := range left {
				mustNot(t, impl.StrengthOf(s.m, p) != strength, "HuntFault has another strength", s.m, fault, p)
				for _, test := range tests {
					mustNot(t, impl.Matches(s.m, p, test) != impl.Matches(s.m, fault, test), "HuntFault leaves what can be told", s.m, fault, p, test)
				}
			}
			_, ok := impl.SplitTest(s.m, left)
			mustNot(t, ok, "HuntFault leaves what can be parted", s.m, fault, left)
			if len(left) > 1 {
				several++
			}
			if len(all) > impl.MaxList {
				great++
			}
		}
	}
	mustNot(t, several < 30 || great < 10, "hunts of the samples", several, great)
}

func TestHuntFault(t *testing.T) {
	for _, x := range []struct {
		m           []int
		fault, left string
		taken       int
	}{
		{[]int{2, 2, 2}, "1..", "1..", 3},
		{[]int{2, 2, 2}, "0..", "0..", 3},
		{[]int{2, 2, 2}, "...", "...", 0},
		// The tests are 000, 011, 101, 001 and 100.
		{[]int{2, 2, 2}, "1.1", "1.1", 5},
		{[]int{2, 2, 2}, "000", "000", 1},
		{[]int{2, 2, 2}, "001", "001", 2},
		{[]int{2, 2, 2}, "110", "110", 7},
		{[]int{2, 2, 2}, "111", "111", 7},
		{[]int{1, 2}, "0.", "0.", 2},
		{[]int{1, 2}, ".1", ".1", 1},
		{[]int{1, 2}, "01", "01", 1},
		{[]int{1, 1}, "0.", "0.,.0", 0},
		{[]int{1, 1}, "00", "00", 0},
		{[]int{1, 2, 1}, "0..", "0..,..0", 2},
		{[]int{1, 2, 1}, "01.", "01.,.10", 1},
		{[]int{1, 2, 1}, "0.0", "0.0", 2},
		{[]int{1, 1, 1, 1, 1}, "0.0..", "00...,0.0..,0..0.,0...0,.00..,.0.0.,.0..0,..00.,..0.0,...00", 0},
		{[]int{1}, ".", ".", 0},
		{[]int{1}, "0", "0", 0},
		{[]int{3}, ".", ".", 0},
		{[]int{3}, "0", "0", 1},
		{[]int{3}, "1", "1", 2},
		{[]int{3}, "2", "2", 2},
		{[]int{3, 3, 3, 3, 3}, "22222", "22222", 242},
		{[]int{3, 3, 3, 3, 3}, "00000", "00000", 1},
		{[]int{3, 3, 3, 3, 3}, ".....", ".....", 0},
	} {
		left, taken := impl.HuntFault(x.m, read(x.fault)[0])
		mustNot(t, write(left) != x.left || taken != x.taken, "HuntFault", x, left, taken)
	}
	// At first 405 patterns are left, more than SplitTest would take.
	m := []int{3, 3, 3, 3, 3}
	fault := read("01.21")[0]
	left, taken := impl.HuntFault(m, fault)
	_, want := huntedByTrying(m, fault)
	mustNot(t, write(left) != "01.21" || taken != want, "HuntFault of more than MaxList patterns", left, taken)
}

func TestInvalidArgumentsOfHuntFault(t *testing.T) {
	m := []int{2, 1, 3}
	for _, fault := range [][]int{nil, {}, {0, 0}, {Any, Any}, {0, 0, 0, 0}, {2, 0, 0}, {0, 1, 0}, {0, 0, 3}, {-2, Any, Any}, {Any, Any, -2}, {Any, 1 << 62, Any}, {-1 << 63, 0, 0}} {
		left, taken := impl.HuntFault(m, fault)
		mustNot(t, len(left) != 0 || taken != -1, "HuntFault of no pattern", fault, left, taken)
	}
	for _, bad := range invalidModels() {
		for _, fault := range [][]int{make([]int, len(bad)), slices.Repeat([]int{Any}, len(bad))} {
			left, taken := impl.HuntFault(bad, fault)
			mustNot(t, len(left) != 0 || taken != -1, "HuntFault of no model", bad, left, taken)
		}
	}
}

// shrunkByTrying returns what ShrinkFailure is to return.
func shrunkByTrying(faults [][]int, bad, fine []int) ([]int, bool) {
	if !inOne(faults, bad) || inOne(faults, fine) {
		return nil, false
	}
	shrunk := slices.Clone(bad)
	for f := range shrunk {
		before := shrunk[f]
		shrunk[f] = fine[f]
		if !inOne(faults, shrunk) {
			shrunk[f] = before
		}
	}
	return shrunk, true
}

// Promise 48.
func TestShrunkTestsFail(t *testing.T) {
	shrinks, not := 0, 0
	for _, s := range banSamples() {
		tests := impl.AllTests(s.m)
		step := 1 + len(tests)/16
		for i := 0; i < len(tests); i += step {
			for j := 0; j < len(tests); j += step {
				bad, fine := tests[i], tests[j]
				got, ok := impl.ShrinkFailure(s.m, s.bans, bad, fine)
				want, wantOK := shrunkByTrying(s.bans, bad, fine)
				mustNot(t, ok != wantOK || !slices.Equal(got, want), "ShrinkFailure", s, bad, fine, got, ok)
				fails := impl.ResultsOf(s.m, [][]int{bad, fine}, s.bans)
				mustNot(t, ok != (fails[0] && !fails[1]), "ShrinkFailure and ResultsOf", s, bad, fine, ok)
				if !ok {
					not++
					continue
				}
				shrinks++
				mustNot(t, !impl.ResultsOf(s.m, [][]int{got}, s.bans)[0], "ShrinkFailure does not fail", s, bad, fine, got)
				for f, x := range got {
					mustNot(t, x != bad[f] && x != fine[f], "ShrinkFailure has another level", s, bad, fine, got)
				}
			}
		}
	}
	mustNot(t, shrinks < 1000 || not < 1000, "failures of the samples that are shrunk", shrinks, not)
}

func TestShrinkFailure(t *testing.T) {
	for _, x := range []struct {
		m                       []int
		faults, bad, fine, want string
	}{
		{[]int{2, 2, 2}, "1.1", "111", "000", "101"},
		{[]int{2, 2, 2}, "1.1", "011", "000", ""},
		{[]int{2, 2, 2}, "1.1", "111", "101", ""},
		{[]int{2, 2, 2}, "1.1", "000", "111", ""},
		{[]int{2, 2, 2}, "1.1", "111", "111", ""},
		{[]int{2, 2, 2}, "1.1", "000", "000", ""},
		{[]int{2, 2, 2}, "1.1", "101", "001", "101"},
		{[]int{2, 2, 2}, "1.1", "111", "011", "111"},
		{[]int{2, 2, 2}, "1.1,1.1", "111", "000", "101"},
		{[]int{2, 2, 2}, "1..,..1", "111", "000", "001"},
		{[]int{2, 2, 2}, "1..,.11", "111", "000", "011"},
		{[]int{2, 2, 2}, "11.,.11", "111", "000", "011"},
		{[]int{2, 2, 2}, ".11,11.", "111", "000", "011"},
		{[]int{2, 2, 2}, "111,010", "111", "000", "111"},
		{[]int{2, 2, 2}, "111,011,010", "111", "000", "010"},
		{[]int{2, 2, 2}, "111,001,011", "111", "000", "001"},
		{[]int{2, 2, 2}, "111,001", "111", "000", "111"},
		{[]int{2, 2, 2}, "", "111", "000", ""},
		{[]int{2, 2, 2}, "...", "111", "000", ""},
		{[]int{2, 2, 2}, "...,111", "111", "000", ""},
		{[]int{2, 2, 2}, "0..,1..", "111", "000", ""},
		{[]int{3, 3, 3}, "2.2,.11", "212", "100", "202"},
		{[]int{3, 3, 3}, "2.2,112", "212", "100", "112"},
		{[]int{3, 1, 3}, "..2", "202", "101", "102"},
		{[]int{3}, "1", "1", "2", "1"},
		{[]int{3}, "1", "2", "1", ""},
		{[]int{3}, "1,2", "2", "1", ""},
		{[]int{1}, "0", "0", "0", ""},
		{[]int{1, 2}, ".1", "01", "00", "01"},
		{[]int{3, 3, 3, 3, 3}, "2....,.2...,..2..,...2.,....2", "22222", "00000", "00002"},
	} {
		got, ok := impl.ShrinkFailure(x.m, read(x.faults), read(x.bad)[0], read(x.fine)[0])
		mustNot(t, ok != (x.want != "") || write([][]int{got}) != x.want, "ShrinkFailure", x, got, ok)
	}
	m := []int{2, 2, 2}
	most := times(impl.MaxBans, Any, 1, Any)
	got, ok := impl.ShrinkFailure(m, most, []int{1, 1, 1}, []int{0, 0, 0})
	mustNot(t, !ok || !slices.Equal(got, []int{0, 1, 0}), "ShrinkFailure of MaxBans faults", got, ok)
	got, ok = impl.ShrinkFailure(m, append(most, []int{1, 1, 1}), []int{1, 1, 1}, []int{0, 0, 0})
	mustNot(t, ok || len(got) != 0, "ShrinkFailure of one more fault", got, ok)
}

// refusesShrinking checks the fixed result for arguments that are not valid.
func refusesShrinking(t *testing.T, m []int, faults [][]int, bad, fine []int) {
	t.Helper()
	got, ok := impl.ShrinkFailure(m, faults, bad, fine)
	mustNot(t, ok || len(got) != 0, "ShrinkFailure", m, faults, bad, fine, got, ok)
}

func TestInvalidArgumentsOfShrinkFailure(t *testing.T) {
	m := []int{2, 1, 3}
	for _, faults := range invalidBans() {
		refusesShrinking(t, m, faults, []int{1, 0, 2}, []int{0, 0, 1})
		refusesShrinking(t, m, slices.Concat(read("1.."), faults), []int{1, 0, 2}, []int{0, 0, 1})
	}
	for _, list := range [][]int{nil, {}, {1, 0}, {1, 0, 2, 0}, {2, 0, 0}, {1, 1, 0}, {1, 0, 3}, {-1, 0, 0}, {1, 0, -1}, {1 << 62, 0, 0}, {1, 0, -1 << 63}} {
		for _, faults := range []string{"", "...", "1..", "..2", "0..,1.."} {
			refusesShrinking(t, m, read(faults), list, []int{0, 0, 1})
			refusesShrinking(t, m, read(faults), []int{1, 0, 2}, list)
			refusesShrinking(t, m, read(faults), list, list)
		}
	}
	for _, bad := range invalidModels() {
		test, free := make([]int, len(bad)), slices.Repeat([]int{Any}, len(bad))
		other := slices.Repeat([]int{1}, len(bad))
		refusesShrinking(t, bad, [][]int{free}, test, other)
		refusesShrinking(t, bad, [][]int{test}, test, other)
		refusesShrinking(t, bad, nil, test, test)
	}
}
