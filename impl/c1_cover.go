package impl

import "slices"

// MaxFactors is the largest number of factors.
const MaxFactors = 5

// MaxLevels is the largest number of levels.
const MaxLevels = 3

// MaxTests is the largest number of tests.
const MaxTests = 20

// Any is what stands in a pattern for any level.
const Any = -1

// pattern is a pattern or a test as a value, so that it can be the key of a
// map. The places behind the last factor stay 0 and so match each other.
type pattern [MaxFactors]int

// factorSet tells for which factors a pattern has a level.
type factorSet [MaxFactors]bool

// ValidModel reports whether numbers are the levels of factors.
func ValidModel(m []int) bool {
	if len(m) < 1 || len(m) > MaxFactors {
		return false
	}
	for _, levels := range m {
		if levels < 1 || levels > MaxLevels {
			return false
		}
	}
	return true
}

// ValidTest reports whether numbers are a test of a model.
func ValidTest(m []int, test []int) bool {
	return ValidModel(m) && allWithin(m, test, 0)
}

// ValidPattern reports whether numbers are a pattern of a model.
func ValidPattern(m []int, p []int) bool {
	return ValidModel(m) && allWithin(m, p, Any)
}

// ValidSuite reports whether lists are tests of a model.
func ValidSuite(m []int, suite [][]int) bool {
	if !ValidModel(m) || len(suite) > MaxTests {
		return false
	}
	for _, test := range suite {
		if !ValidTest(m, test) {
			return false
		}
	}
	return true
}

// AllTests returns all tests of a model.
func AllTests(m []int) [][]int {
	return AllPatterns(m, len(m))
}

// StrengthOf returns how many levels of a pattern are told.
func StrengthOf(m []int, p []int) int {
	if !ValidPattern(m, p) {
		return -1
	}
	strength := 0
	for _, x := range p {
		if x != Any {
			strength++
		}
	}
	return strength
}

// Matches reports whether a test has all levels of a pattern.
func Matches(m []int, p []int, test []int) bool {
	return ValidPattern(m, p) && ValidTest(m, test) && patternOf(p).meets(patternOf(test))
}

// AllPatterns returns all patterns of a strength.
func AllPatterns(m []int, t int) [][]int {
	if !ValidModel(m) || !isStrength(m, t) {
		return nil
	}
	return listsOf(patternsOf(m, t), len(m))
}

// MissingOf returns the patterns that no test matches.
func MissingOf(m []int, suite [][]int, t int) [][]int {
	if !canCover(m, suite, t) {
		return nil
	}
	return listsOf(missingPatterns(m, suite, t), len(m))
}

// CoverageOf returns how many patterns tests match, of how many.
func CoverageOf(m []int, suite [][]int, t int) (int, int) {
	if !canCover(m, suite, t) {
		return -1, -1
	}
	all := len(patternsOf(m, t))
	return all - len(missingPatterns(m, suite, t)), all
}

// IsCovering reports whether tests match all patterns.
func IsCovering(m []int, suite [][]int, t int) bool {
	return canCover(m, suite, t) && len(missingPatterns(m, suite, t)) == 0
}

// HowOften returns how many tests match a pattern.
func HowOften(m []int, suite [][]int, p []int) int {
	if !ValidSuite(m, suite) || !ValidPattern(m, p) {
		return -1
	}
	return countMatches(suite, patternOf(p))
}

// IsBalanced reports whether patterns of the same factors come equally often.
func IsBalanced(m []int, suite [][]int, t int) bool {
	if !canCover(m, suite, t) {
		return false
	}
	counts := map[factorSet]int{}
	for _, p := range patternsOf(m, t) {
		factors := p.factors()
		count := countMatches(suite, p)
		if before, ok := counts[factors]; ok && before != count {
			return false
		}
		counts[factors] = count
	}
	return true
}

// SpareTests returns the tests that are not needed one by one.
func SpareTests(m []int, suite [][]int, t int) []int {
	if !canCover(m, suite, t) {
		return nil
	}
	var spare []int
	for i := range suite {
		if isSpare(m, suite, t, i) {
			spare = append(spare, i)
		}
	}
	return spare
}

// TrimSuite returns a suite without tests that are not needed.
func TrimSuite(m []int, suite [][]int, t int) [][]int {
	if !canCover(m, suite, t) {
		return nil
	}
	left := suite
	for i := len(suite) - 1; i >= 0; i-- {
		if isSpare(m, left, t, i) {
			left = without(left, i)
		}
	}
	return copyLists(left)
}

// JoinPatterns returns the pattern with the levels of two ones.
func JoinPatterns(m []int, p []int, q []int) ([]int, bool) {
	if !ValidPattern(m, p) || !ValidPattern(m, q) {
		return nil, false
	}
	joined := slices.Clone(p)
	for f, x := range q {
		if x == Any {
			continue
		}
		if p[f] != Any && p[f] != x {
			return nil, false
		}
		joined[f] = x
	}
	return joined, true
}

// PatternText returns the text of a pattern.
func PatternText(m []int, p []int) string {
	if !ValidPattern(m, p) {
		return ""
	}
	text := make([]byte, len(p))
	for f, x := range p {
		text[f] = '.'
		if x != Any {
			text[f] = byte('0' + x)
		}
	}
	return string(text)
}

// ParsePattern returns the pattern of a text.
func ParsePattern(m []int, s string) ([]int, bool) {
	if !ValidModel(m) || len(s) != len(m) {
		return nil, false
	}
	p := make([]int, len(m))
	for f := range m {
		switch c := s[f]; {
		case c == '.':
			p[f] = Any
		case c >= '0' && int(c-'0') < m[f]:
			p[f] = int(c - '0')
		default:
			return nil, false
		}
	}
	return p, true
}

// allWithin reports whether list has for each factor of the model m a number
// from least up to the greatest level.
func allWithin(m []int, list []int, least int) bool {
	if len(list) != len(m) {
		return false
	}
	for f, x := range list {
		if x < least || x >= m[f] {
			return false
		}
	}
	return true
}

// isStrength reports whether patterns of the model m can have t levels.
func isStrength(m []int, t int) bool {
	return t >= 0 && t <= len(m)
}

// canCover reports whether the arguments are those of IsCovering.
func canCover(m []int, suite [][]int, t int) bool {
	return ValidSuite(m, suite) && isStrength(m, t)
}

// patternOf returns a valid pattern or test as a value.
func patternOf(list []int) pattern {
	var p pattern
	copy(p[:], list)
	return p
}

// meets reports whether the test has all levels of p.
func (p pattern) meets(test pattern) bool {
	for f, x := range p {
		if x != Any && x != test[f] {
			return false
		}
	}
	return true
}

// factors returns for which factors p has a level.
func (p pattern) factors() factorSet {
	var set factorSet
	for f, x := range p {
		set[f] = x != Any
	}
	return set
}

// patternsOf returns all patterns of the model m with t levels, in order.
func patternsOf(m []int, t int) []pattern {
	return addPatterns(nil, m, pattern{}, 0, t)
}

// addPatterns adds to list all patterns that begin as p does ahead of the
// factor f, and have t levels from it on.
func addPatterns(list []pattern, m []int, p pattern, f int, t int) []pattern {
	if f == len(m) {
		return append(list, p)
	}
	if t > 0 {
		for x := range m[f] {
			p[f] = x
			list = addPatterns(list, m, p, f+1, t-1)
		}
	}
	// With Any here there must be enough factors behind for the levels.
	if t < len(m)-f {
		p[f] = Any
		list = addPatterns(list, m, p, f+1, t)
	}
	return list
}

// listsOf returns the first n places of each pattern as new slices.
func listsOf(patterns []pattern, n int) [][]int {
	lists := make([][]int, 0, len(patterns))
	for _, p := range patterns {
		lists = append(lists, slices.Clone(p[:n]))
	}
	return lists
}

// missingPatterns returns the patterns of the model m with t levels that no
// test of the suite matches, in order.
func missingPatterns(m []int, suite [][]int, t int) []pattern {
	all := patternsOf(m, t)
	open := make(map[pattern]bool, len(all))
	for _, p := range all {
		open[p] = true
	}
	for _, test := range suite {
		closeMatched(open, all, patternOf(test))
	}
	// The list is walked again, since a map has no order.
	var missing []pattern
	for _, p := range all {
		if open[p] {
			missing = append(missing, p)
		}
	}
	return missing
}

// closeMatched deletes those of all patterns from open that the test matches.
func closeMatched(open map[pattern]bool, all []pattern, test pattern) {
	for _, p := range all {
		if p.meets(test) {
			delete(open, p)
		}
	}
}

// countMatches returns how many tests of the suite match p.
func countMatches(suite [][]int, p pattern) int {
	count := 0
	for _, test := range suite {
		if p.meets(patternOf(test)) {
			count++
		}
	}
	return count
}

// isSpare reports whether without the test at index i the same is missing.
func isSpare(m []int, suite [][]int, t int, i int) bool {
	// A test less can only add to what is missing, so that it is the same
	// exactly if it is as many.
	fewer := missingPatterns(m, without(suite, i), t)
	return len(fewer) == len(missingPatterns(m, suite, t))
}

// without returns a new list of all that list has but what is at index i.
func without[E any](list []E, i int) []E {
	return slices.Concat(list[:i], list[i+1:])
}

// copyLists returns copies of the lists that share no memory with them.
func copyLists(lists [][]int) [][]int {
	copies := make([][]int, 0, len(lists))
	for _, list := range lists {
		copies = append(copies, slices.Clone(list))
	}
	return copies
}
