package tests

import (
	"regexp"
	"slices"
	"strconv"
	"strings"
	"testing"

	"loop.example/coveringtests/impl"
)

// deskModels are models with texts of suites that can be counted out.
var deskModels = [][]int{{1}, {2}, {3}, {1, 1}, {2, 2}, {1, 3}, {2, 1, 2}}

// isSuiteText reports whether a text is that of a suite of a model.
func isSuiteText(m []int, s string) bool {
	if s == "" {
		return true
	}
	texts := strings.Split(s, ",")
	for _, text := range texts {
		if !slices.Contains(strings.Split(write(patternsByCounting(m, len(m))), ","), text) {
			return false
		}
	}
	return len(texts) <= impl.MaxTests
}

// shortTexts returns all texts of at most so many of the signs.
func shortTexts(signs string, most int) []string {
	out := []string{""}
	for first := 0; most > 0; most-- {
		last := len(out)
		for _, text := range out[first:last] {
			for _, sign := range signs {
				out = append(out, text+string(sign))
			}
		}
		first = last
	}
	return out
}

// Promise 57.
func TestSuitesAreReadBack(t *testing.T) {
	for _, s := range samples() {
		text := impl.SuiteText(s.m, s.suite)
		mustNot(t, text != write(s.suite), "SuiteText", s, text)
		got, ok := impl.ParseSuite(s.m, text)
		mustNot(t, !ok || !sameLists(got, s.suite), "ParseSuite of SuiteText", s, text, got)
	}
}

// Promise 58.
func TestTextsOfSuitesAreWrittenBack(t *testing.T) {
	parsed := 0
	for _, m := range deskModels {
		for _, s := range shortTexts("012,.", 5) {
			got, ok := impl.ParseSuite(m, s)
			mustNot(t, ok != isSuiteText(m, s), "ParseSuite", m, s, got, ok)
			if !ok {
				mustNot(t, len(got) != 0, "ParseSuite of no text", m, s, got)
				continue
			}
			parsed++
			mustNot(t, !impl.ValidSuite(m, got) || !sameLists(got, read(s)), "ParseSuite", m, s, got)
			mustNot(t, impl.SuiteText(m, got) != s, "SuiteText of ParseSuite", m, s, got)
		}
	}
	mustNot(t, parsed < 60, "texts of suites among all", parsed)
}

func TestSuiteText(t *testing.T) {
	for _, x := range []struct {
		m     []int
		suite [][]int
		want  string
	}{
		{[]int{2, 2}, nil, ""},
		{[]int{2, 2}, [][]int{}, ""},
		{[]int{2, 2}, [][]int{{0, 1}}, "01"},
		{[]int{2, 2}, [][]int{{0, 1}, {1, 1}, {0, 1}}, "01,11,01"},
		{[]int{3, 1, 2}, [][]int{{2, 0, 1}, {0, 0, 0}}, "201,000"},
		{[]int{1}, times(impl.MaxTests, 0), strings.Repeat("0,", impl.MaxTests-1) + "0"},
		{[]int{1}, times(impl.MaxTests+1, 0), ""},
		{[]int{3, 3, 3, 3, 3}, [][]int{{2, 1, 0, 1, 2}}, "21012"},
		{[]int{2, 2}, [][]int{{0, 2}}, ""},
		{[]int{2, 2}, [][]int{{0, 1}, {0, -2}}, ""},
		{[]int{2, 2}, [][]int{{0, 1}, {0, Any}}, ""},
		{[]int{2, 2}, [][]int{{0}}, ""},
		{[]int{2, 2}, [][]int{{0, 1, 0}, {0, 1}}, ""},
		{[]int{2, 2}, [][]int{nil}, ""},
		{[]int{2, 2}, [][]int{{0, 1}, nil}, ""},
		{[]int{2, 2}, [][]int{{0, 1 << 62}}, ""},
	} {
		got := impl.SuiteText(x.m, x.suite)
		mustNot(t, got != x.want, "SuiteText", x, got)
	}
	for _, bad := range invalidModels() {
		got := impl.SuiteText(bad, times(2, make([]int, len(bad))...))
		mustNot(t, got != "", "SuiteText of no model", bad, got)
	}
}

func TestParseSuite(t *testing.T) {
	m := []int{2, 3}
	most := strings.Repeat("12,", impl.MaxTests-1) + "02"
	for _, s := range []string{"00", "12", "00,00", "12,00,02", most} {
		got, ok := impl.ParseSuite(m, s)
		mustNot(t, !ok || !sameLists(got, read(s)), "ParseSuite", s, got, ok)
	}
	got, ok := impl.ParseSuite(m, "")
	mustNot(t, !ok || len(got) != 0, "ParseSuite of no tests", got, ok)
	for _, s := range []string{
		",", ",,", ",00", "00,", "00,,12", ",00,12", "00,12,", "20", "03", "00,13", "13,00", "0", "000", "00,0", "0,00", "0012", "00,000",
		"0.", "..", "00,.0", "0-1", "-1", "0x", " 00", "00 ", "00 12", "00, 12", "00;12", "00\n", "00\x00", "0\xff", "٠٠", "００", "0a", "0:", "0/", "+0",
		most + ",00", "00," + most, most + ",", most + most, strings.Repeat("00,", 10000) + "00", strings.Repeat(",", 10000), strings.Repeat("0", 10000),
	} {
		got, ok := impl.ParseSuite(m, s)
		mustNot(t, ok || len(got) != 0, "ParseSuite of no text", s, got, ok)
	}
	for _, bad := range invalidModels() {
		for _, s := range []string{"", strings.Repeat("0", len(bad)), "0", "00", "00,00", ","} {
			got, ok := impl.ParseSuite(bad, s)
			mustNot(t, ok || len(got) != 0, "ParseSuite of no model", bad, s, got, ok)
		}
	}
}

var (
	lineWithWord = regexp.MustCompile(`^(covered|grow|trim)( [^ ]*){3}$`)
	lineToRead   = regexp.MustCompile(`^(covered|grow|trim) ([1-3]{1,5}) ([0-9]) ([0-2,]*)$`)
)

// answerByReading returns the answer to a line that RunDesk is to return.
func answerByReading(line string) string {
	if !lineWithWord.MatchString(line) {
		return "what"
	}
	texts := lineToRead.FindStringSubmatch(line)
	if texts == nil {
		return "wrong"
	}
	m := read(texts[2])[0]
	strength := int(texts[3][0] - '0')
	if strength > len(m) || !isSuiteText(m, texts[4]) {
		return "wrong"
	}
	suite := read(texts[4])
	switch texts[1] {
	case "covered":
		all := len(patternsByCounting(m, strength))
		return strconv.Itoa(all-len(unmet(m, suite, strength))) + "/" + strconv.Itoa(all)
	case "grow":
		grown, ok := impl.GrowSuite(m, suite, strength)
		if !ok {
			return "none"
		}
		return write(grown)
	default:
		return write(impl.TrimSuite(m, suite, strength))
	}
}

// deskLines returns lines of many kinds: of each word and of others, with texts
// that can be read and texts that cannot.
func deskLines() []string {
	out := []string{"", " ", "  ", "   ", "    ", "\n", "grow", "grow ", "grow  ", "grow   ", "grow    ", "help"}
	words := []string{"covered", "grow", "trim", "walk", "", "Grow", "trims", "cover", "trim\t", "\ngrow"}
	models := []string{"", "2", "13", "222", "33333", "111111", "04", "4", "2x", "2.", "-2", "2,2", "2\n"}
	strengths := []string{"", "0", "1", "2", "3", "5", "6", "9", "02", "10", "-1", "+1", "x", ".", "2\n", "\x00"}
	suites := []string{"", "0", "1,0", "00", "02,00,00", "03", "000", "000,011,101,110,000", "000,,011", "000,", ",", "0 0", "000,011 ", "21012,00000", "0.0", "x", "0\t", "0\n"}
	for _, word := range words {
		for _, model := range models {
			for _, strength := range strengths {
				for _, suite := range suites {
					out = append(out, strings.Join([]string{word, model, strength, suite}, " "))
				}
			}
			out = append(out, word+" "+model+" 1", word+" "+model, " "+word+" "+model+" 1 0", word+"  "+model+" 1 0", word+" "+model+" 1  0")
		}
	}
	return out
}

// Promise 59.
func TestEachLineHasAnAnswer(t *testing.T) {
	found := map[string]int{}
	lines := deskLines()
	for size := 0; len(lines) > 0; size = (size + 7) % (impl.MaxDesk + 1) {
		size = min(size, len(lines))
		some := lines[:size]
		lines = lines[size:]
		got := impl.RunDesk(some)
		want := ""
		for i, line := range some {
			begin := impl.RunDesk(some[:i])
			mustNot(t, begin != want || !strings.HasPrefix(got, begin), "RunDesk of the first lines", some, i, begin)
			answer := answerByReading(line)
			found[answer]++
			want += answer + "\n"
		}
		mustNot(t, got != want, "RunDesk", some, got, want)
		mustNot(t, strings.Count(got, "\n") != len(some), "newlines of RunDesk", some, got)
	}
	for answer, least := range map[string]int{"what": 1000, "wrong": 1000, "none": 3, "": 10, "12/12": 1} {
		mustNot(t, found[answer] < least, "answers to the lines", answer, found[answer])
	}
}

func TestRunDesk(t *testing.T) {
	full := strings.Repeat("00,", impl.MaxTests-1)
	for _, x := range []struct{ line, want string }{
		{"", "what"},
		{"covered 222 2 000,011,101", "9/12"},
		{"covered 222 2 000,011,101,110", "12/12"},
		{"covered 222 3 000,011,101,110", "4/8"},
		{"covered 222 2 ", "0/12"},
		{"covered 222 0 ", "0/1"},
		{"covered 222 0 000", "1/1"},
		{"covered 222 4 000", "wrong"},
		{"covered 222 4 ", "wrong"},
		{"covered 222 02 000", "wrong"},
		{"covered 222 10 000", "wrong"},
		{"covered 222 -1 000", "wrong"},
		{"covered 222 . 000", "wrong"},
		{"covered 222  000", "wrong"},
		{"covered 33333 5 ", "0/243"},
		{"covered 33333 6 ", "wrong"},
		{"covered 333333 5 ", "wrong"},
		{"covered 1 1 0,0", "1/1"},
		{"covered 4 1 0", "wrong"},
		{"covered 0 0 ", "wrong"},
		{"covered  0 ", "wrong"},
		{"covered 2x 1 00", "wrong"},
		{"covered 22 1 0", "wrong"},
		{"covered 22 1 02", "wrong"},
		{"covered 22 1 0.", "wrong"},
		{"covered 22 1 00,", "wrong"},
		{"covered 22 1 ,", "wrong"},
		{"covered 22 1 " + full + "11", "4/4"},
		{"covered 22 1 " + full + "11,11", "wrong"},
		{"covered 22 1 00,11", "4/4"},
		{"covered 22 1 00, 11", "what"},
		{"covered 22 1 00 ", "what"},
		{" covered 22 1 00", "what"},
		{"covered  22 1 00", "what"},
		{"covered  22 1", "wrong"},
		{"covered 22 1", "what"},
		{"covered 22", "what"},
		{"covered", "what"},
		{"covered   ", "wrong"},
		{"covered\t22\t1\t00", "what"},
		{"covered 22 1 00\n", "wrong"},
		{"Covered 22 1 00", "what"},
		{"grow 222 2 ", "000,011,101,110"},
		{"grow 33 1 11", "11,00,22"},
		{"grow 22 0 ", "00"},
		{"grow 22 0 11", "11"},
		{"grow 22 2 00,00", "00,00,01,10,11"},
		{"grow 333 3 ", "none"},
		{"grow 333 2 ", "000,011,022,101,110,202,220,112,121,211"},
		{"grow 22 1 " + full + "00", "none"},
		{"grow 22 1 " + full + "11", full + "11"},
		{"grow 22 3 ", "wrong"},
		{"grow  22 2", "wrong"},
		{"grow 22 2", "what"},
		{"trim 222 2 000,000,011", "000,011"},
		{"trim 222 2 ", ""},
		{"trim 22 0 01,10", "01"},
		{"trim 22 1 " + full + "11", "00,11"},
		{"trim 2x 1 00", "wrong"},
		{"trim 22 3 00", "wrong"},
		{"trim 22 2 00 11", "what"},
		{"walk 22 2 00", "what"},
		{"walk x", "what"},
		{"help", "what"},
		{"wrong", "what"},
	} {
		got := impl.RunDesk([]string{x.line})
		mustNot(t, got != x.want+"\n", "RunDesk", x, got)
		mustNot(t, answerByReading(x.line) != x.want, "the answer that is expected", x, answerByReading(x.line))
	}
}

func TestRunDeskOfManyLines(t *testing.T) {
	for _, lines := range [][]string{nil, {}} {
		got := impl.RunDesk(lines)
		mustNot(t, got != "", "RunDesk of no lines", got)
	}
	lines := slices.Repeat([]string{"grow 22 1 "}, impl.MaxDesk)
	got := impl.RunDesk(lines)
	mustNot(t, got != strings.Repeat("00,11\n", impl.MaxDesk), "RunDesk of MaxDesk lines", got)
	got = impl.RunDesk(make([]string, impl.MaxDesk))
	mustNot(t, got != strings.Repeat("what\n", impl.MaxDesk), "RunDesk of MaxDesk lines of nothing", got)
	for _, many := range []int{impl.MaxDesk + 1, impl.MaxDesk + 2, 10 * impl.MaxDesk} {
		got = impl.RunDesk(slices.Repeat([]string{"grow 22 1 "}, many))
		mustNot(t, got != "", "RunDesk of more than MaxDesk lines", many, got)
	}
}
