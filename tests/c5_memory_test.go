package tests

import (
	"slices"
	"testing"

	"loop.example/coveringtests/impl"
)

// running are the arguments of a call with runs and lines.
type running struct {
	arguments
	n         int
	run, list []int
	runs      [][]int
	lines     []string
}

func (r running) all() [][]int {
	return slices.Concat(r.arguments.all(), whole([][]int{r.run, r.list}), whole(r.runs), bytesOf(r.lines))
}

// bytesOf returns the bytes of lines, up to their capacity.
func bytesOf(lines []string) [][]int {
	var out [][]int
	for _, line := range lines[:cap(lines)] {
		var list []int
		for _, b := range []byte(line) {
			list = append(list, int(b))
		}
		out = append(out, list)
	}
	return out
}

// roomyLines returns lines with spare capacity that holds a mark.
func roomyLines(lines ...string) []string {
	out := append(slices.Clone(lines), "mark", "mark")
	return out[:len(lines)]
}

// runCalls calls each function of chapter 5, and returns the results that are
// slices by the names of the functions.
func runCalls(r running, t int) map[string][][]int {
	impl.ValidRuns(r.n, r.runs)
	impl.Shows(r.n, r.run, r.list)
	impl.IsOrdering(r.n, r.runs, t)
	impl.RunDesk(r.lines)
	grown, _ := impl.GrowRuns(r.n, t)
	dropped, _ := impl.DropEvent(r.n, r.runs, t)
	parsed, _ := impl.ParseSuite(r.m, impl.SuiteText(r.m, r.suite))
	return map[string][][]int{
		"AllLists":   impl.AllLists(r.n, t),
		"UnseenOf":   impl.UnseenOf(r.n, r.runs, t),
		"TurnRuns":   impl.TurnRuns(r.n, r.runs),
		"GrowRuns":   grown,
		"DropEvent":  dropped,
		"ParseSuite": parsed,
	}
}

func TestRunsChangeAndShareNothing(t *testing.T) {
	for _, runs := range []string{"", "0123", "3120,3120", "0123,3210,1032,2301,0213"} {
		for strength := range 4 {
			r := running{
				arguments{m: roomy([]int{2, 3}), suite: roomyLists(read("00,12,00"))},
				4, roomy([]int{2, 0, 3, 1}), roomy([]int{0, 1}), roomyLists(read(runs)),
				roomyLines("grow 23 2 00", "trim 23 1 00,00", "covered 23 2 ", "grow 23 3 ", "what", ""),
			}
			checkMemory(t, r.all, func() map[string][][]int {
				results := runCalls(r, strength)
				for name, lists := range results {
					nothing := runs == "" && (name == "TurnRuns" || name == "DropEvent")
					seen := name == "UnseenOf" && len(unseenByTrying(runSample{4, r.runs}, strength)) == 0
					mustNot(t, (len(lists) == 0) != (nothing || seen), "a result of nothing", name, strength, runs)
				}
				return results
			})
		}
	}
}

// One event alone has only lists of nothing and of itself.
func TestOneEventSharesNothing(t *testing.T) {
	for strength := range 2 {
		r := running{
			arguments{m: roomy([]int{1}), suite: roomyLists(read("0,0"))},
			1, roomy([]int{0}), roomy([]int{}), roomyLists(read("0,0")),
			roomyLines("grow 1 1 "),
		}
		checkMemory(t, r.all, func() map[string][][]int {
			results := runCalls(r, strength)
			mustNot(t, len(results["TurnRuns"]) != 4 || len(results["GrowRuns"]) != 1 || len(results["AllLists"]) != 1, "results of one event", results)
			return results
		})
	}
}
