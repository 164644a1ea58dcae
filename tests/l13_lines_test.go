package tests

import (
	"math"
	"slices"
	"strings"
	"testing"
	"time"
	"unsafe"

	"loop.example/g00253/impl"
)

const wordBytes = "abcdefghijklmnopqrstuvwxyz0123456789.,"

func plainWordIsGood(w string) bool {
	return w != "" && len(w) <= impl.MaxWidth && strings.Trim(w, wordBytes) == ""
}

func wordsAreGood(words []string) bool {
	for _, w := range words {
		if !plainWordIsGood(w) {
			return false
		}
	}
	return len(words) <= impl.MaxWords
}

func widthIsGood(width int) bool { return width > 0 && width < impl.MaxWidth+1 }

func breaksAreGood(words []string, width int) bool {
	return wordsAreGood(words) && widthIsGood(width) && longestOf(words) <= width
}

func longestOf(texts []string) int {
	n := 0
	for _, s := range texts {
		n = max(n, len(s))
	}
	return n
}

// wordsByHand takes the other bytes away one kind after the other.
func wordsByHand(s string) ([]string, bool) {
	if !textIsGood(s) {
		return nil, false
	}
	for _, c := range namesOfElements + "/" {
		s = strings.ReplaceAll(s, string(c), "")
	}
	words := slices.DeleteFunc(strings.Split(s, " "), func(w string) bool { return w == "" })
	if !wordsAreGood(words) {
		return nil, false
	}
	return words, true
}

// layout is one way to break words: how many stand in each line, and the lines.
type layout struct {
	counts []int
	lines  []string
}

func layoutOf(words []string, counts ...int) layout {
	x := layout{counts: counts}
	for _, n := range counts {
		x.lines = append(x.lines, strings.Join(words[:n], " "))
		words = words[n:]
	}
	return x
}

// layoutAt begins lines at the cuts, which are as said.
func layoutAt(words []string, cuts []int) layout {
	if len(words) == 0 {
		return layout{}
	}
	var counts []int
	ends := append(slices.Clone(cuts), len(words))
	for k, end := range ends {
		counts = append(counts, end-append([]int{0}, ends...)[k])
	}
	return layoutOf(words, counts...)
}

func (x layout) cuts() []int {
	var out []int
	at := 0
	for k := 1; k < len(x.counts); k++ {
		at += x.counts[k-1]
		out = append(out, at)
	}
	return out
}

func (x layout) cost(width int) int { return costByLines(x.lines, width) }

func costByLines(lines []string, width int) int {
	n := 0
	for k, line := range lines {
		if k < len(lines)-1 {
			n += int(math.Pow(float64(width-len(line)), 2))
		}
	}
	return n
}

// eachLayout goes through all ways to break words, also those that do not fit.
func eachLayout(words []string, f func(x layout)) {
	if len(words) == 0 {
		f(layout{})
		return
	}
	for set := range 1 << (len(words) - 1) {
		var cuts []int
		for k := 1; k < len(words); k++ {
			if set>>(k-1)&1 == 1 {
				cuts = append(cuts, k)
			}
		}
		f(layoutAt(words, cuts))
	}
}

// compareLayouts is below 0 where x is told rather than y.
func compareLayouts(x, y layout, width int) int {
	if n := x.cost(width) - y.cost(width); n != 0 {
		return n
	}
	if n := len(x.lines) - len(y.lines); n != 0 {
		return n
	}
	return -slices.Compare(x.counts, y.counts)
}

// bestOfAll tries all ways, and tells how many others cost as much, and how many
// of these have as many lines.
func bestOfAll(words []string, width int) (best layout, tied, even int) {
	var fit []layout
	eachLayout(words, func(x layout) {
		if longestOf(x.lines) <= width {
			fit = append(fit, x)
		}
	})
	best = slices.MinFunc(fit, func(x, y layout) int { return compareLayouts(x, y, width) })
	for _, x := range fit {
		if x.cost(width) == best.cost(width) {
			tied++
			if len(x.lines) == len(best.lines) {
				even++
			}
		}
	}
	return best, tied - 1, even - 1
}

// weighLines has how much each line of words from one to another weighs: so much
// more for its cost than for being one that one number has both.
func weighLines(words []string, width int) [][]int {
	n := len(words)
	out := make([][]int, n+1)
	for from := range out {
		out[from] = slices.Repeat([]int{1 << 40}, n+1)
		for to := from + 1; to <= n; to++ {
			switch line := len(strings.Join(words[from:to], " ")); {
			case line <= width && to == n:
				out[from][to] = 1
			case line <= width:
				out[from][to] = 1 + 1000*(width-line)*(width-line)
			}
		}
	}
	return out
}

// bestByNumbers is for more words than can be tried: the weights of what is left
// behind each word are made less till none becomes less any more.
func bestByNumbers(words []string, width int) layout {
	n, weights := len(words), weighLines(words, width)
	left := slices.Repeat([]int{1 << 40}, n+1)
	left[n] = 0
	for again := true; again; {
		again = false
		for from := range n {
			for to := from + 1; to <= n; to++ {
				if w := weights[from][to] + left[to]; w < left[from] {
					left[from], again = w, true
				}
			}
		}
	}
	var counts []int
	for from := 0; from < n; from += counts[len(counts)-1] {
		most := 0
		for to := from + 1; to <= n; to++ {
			if weights[from][to]+left[to] == left[from] {
				most = to - from
			}
		}
		counts = append(counts, most)
	}
	return layoutOf(words, counts...)
}

// greedyByHand takes words from the front as long as the line with the next one fits.
func greedyByHand(words []string, width int) layout {
	var counts []int
	for rest := words; len(rest) > 0; {
		n := 1
		for n < len(rest) && len(strings.Join(rest[:n+1], " ")) <= width {
			n++
		}
		counts = append(counts, n)
		rest = rest[n:]
	}
	return layoutOf(words, counts...)
}

func cutsAreGood(cuts []int, words int) bool {
	for k, cut := range cuts {
		if cut < 1 || cut > words-1 || k > 0 && cut <= cuts[k-1] {
			return false
		}
	}
	return true
}

func linesAreGood(lines []string, width int) bool {
	words := 0
	for _, line := range lines {
		row := strings.Split(line, " ")
		if line == "" || len(line) > width || !wordsAreGood(row) {
			return false
		}
		words += len(row)
	}
	return words <= impl.MaxWords && widthIsGood(width)
}

func leastWidthByHand(words []string, lines int) (int, bool) {
	if !wordsAreGood(words) || lines < 1 || lines > impl.MaxWords {
		return 0, false
	}
	for width := longestOf(words); width <= impl.MaxWidth; width++ {
		if len(greedyByHand(words, width).lines) <= lines {
			return width, true
		}
	}
	return 0, false
}

// madeWords are words of these lengths, no two near ones of the same bytes.
func madeWords(lengths ...int) []string {
	var out []string
	for k, n := range lengths {
		c := k * 7 % len(wordBytes)
		out = append(out, strings.Repeat(wordBytes[c:c+1], n))
	}
	return out
}

func manyWords(n, length int) []string {
	return madeWords(slices.Repeat([]int{length}, n)...)
}

func (c *chooser) words(n, longest int) []string {
	var out []string
	for range n {
		out = append(out, c.textOf(wordBytes, 1+c.next(longest)))
	}
	return out
}

func zeroOfBreaks(t *testing.T, words []string, width int) {
	t.Helper()
	if l, ok := impl.GreedyLines(words, width); len(l) != 0 || ok {
		t.Errorf("GreedyLines(%.80q, %d) = %.80q, %v", words, width, l, ok)
	}
	if l, cost, ok := impl.BestLines(words, width); len(l) != 0 || cost != 0 || ok {
		t.Errorf("BestLines(%.80q, %d) = %.80q, %d, %v", words, width, l, cost, ok)
	}
	zeroOfCuts(t, words, nil, width)
}

func zeroOfCuts(t *testing.T, words []string, cuts []int, width int) {
	t.Helper()
	if l, ok := impl.BreakAt(words, cuts, width); len(l) != 0 || ok {
		t.Errorf("BreakAt(%.80q, %v, %d) = %.80q, %v", words, cuts, width, l, ok)
	}
}

func zeroOfLines(t *testing.T, lines []string, width int) {
	t.Helper()
	if n, ok := impl.CostOfLines(lines, width); n != 0 || ok {
		t.Errorf("CostOfLines(%.80q, %d) = %d, %v", lines, width, n, ok)
	}
}

func zeroOfLeast(t *testing.T, words []string, lines int) {
	t.Helper()
	if n, ok := impl.LeastWidth(words, lines); n != 0 || ok {
		t.Errorf("LeastWidth(%.80q, %d) = %d, %v", words, lines, n, ok)
	}
}

// checkWordsOf tells whether there are words.
func checkWordsOf(t *testing.T, s string) bool {
	t.Helper()
	want, can := wordsByHand(s)
	l, ok := impl.WordsOf(s)
	if !slices.Equal(l, want) || ok != can {
		t.Fatalf("WordsOf(%q) = %q, %v, not %q, %v", s, l, ok, want, can)
	}
	return ok
}

func checkGreedy(t *testing.T, words []string, width int) {
	t.Helper()
	want := greedyByHand(words, width)
	l, ok := impl.GreedyLines(words, width)
	if !slices.Equal(l, want.lines) || !ok {
		t.Fatalf("GreedyLines(%q, %d) = %q, %v, not %q", words, width, l, ok, want.lines)
	}
	for k, line := range l {
		if k > 0 && len(l[k-1])+1+len(strings.Split(line, " ")[0]) <= width {
			t.Fatalf("GreedyLines(%q, %d) = %q, though the next word fits in %q", words, width, l, l[k-1])
		}
	}
	checkRows(t, words, l, width)
}

// checkRows: lines are all the words, in order, with one blank between.
func checkRows(t *testing.T, words, lines []string, width int) {
	t.Helper()
	if longestOf(lines) > width || slices.Contains(lines, "") || strings.Join(lines, " ") != strings.Join(words, " ") {
		t.Fatalf("%q in lines of at most %d bytes are %q", words, width, lines)
	}
	if s := strings.Join(lines, " "); len(s) <= impl.MaxDoc {
		if l, ok := impl.WordsOf(s); !slices.Equal(l, words) || !ok {
			t.Fatalf("WordsOf(%q) = %q, %v, not %q", s, l, ok, words)
		}
	}
}

func checkBestIs(t *testing.T, words []string, width int, want layout) {
	t.Helper()
	l, cost, ok := impl.BestLines(words, width)
	if !slices.Equal(l, want.lines) || cost != want.cost(width) || !ok {
		t.Fatalf("BestLines(%q, %d) = %q, %d, %v, not %q, %d", words, width, l, cost, ok, want.lines, want.cost(width))
	}
	if n, ok := impl.CostOfLines(l, width); n != cost || !ok {
		t.Fatalf("CostOfLines(%q, %d) = %d, %v, not %d", l, width, n, ok, cost)
	}
	checkRows(t, words, l, width)
	greedy, _ := impl.GreedyLines(words, width)
	if n, ok := impl.CostOfLines(greedy, width); n < cost || !ok {
		t.Fatalf("CostOfLines(%q, %d) = %d, %v, which is less than %d", greedy, width, n, ok, cost)
	}
}

// checkBreaks holds what is told of words and a width against what is reckoned by
// numbers, and tells whether there are lines.
func checkBreaks(t *testing.T, words []string, width int) bool {
	t.Helper()
	if !breaksAreGood(words, width) {
		zeroOfBreaks(t, words, width)
		return false
	}
	checkGreedy(t, words, width)
	checkBestIs(t, words, width, bestByNumbers(words, width))
	return true
}

func checkCuts(t *testing.T, words []string, cuts []int, width int) bool {
	t.Helper()
	if !breaksAreGood(words, width) || !cutsAreGood(cuts, len(words)) {
		zeroOfCuts(t, words, cuts, width)
		return false
	}
	want := layoutAt(words, cuts)
	if longestOf(want.lines) > width {
		zeroOfCuts(t, words, cuts, width)
		return false
	}
	l, ok := impl.BreakAt(words, cuts, width)
	if !slices.Equal(l, want.lines) || !ok {
		t.Fatalf("BreakAt(%q, %v, %d) = %q, %v, not %q", words, cuts, width, l, ok, want.lines)
	}
	checkRows(t, words, l, width)
	return true
}

func checkCost(t *testing.T, lines []string, width int) bool {
	t.Helper()
	if !linesAreGood(lines, width) {
		zeroOfLines(t, lines, width)
		return false
	}
	want := costByLines(lines, width)
	if n, ok := impl.CostOfLines(lines, width); n != want || !ok {
		t.Fatalf("CostOfLines(%q, %d) = %d, %v, not %d", lines, width, n, ok, want)
	}
	return true
}

func checkLeastWidth(t *testing.T, words []string, lines int) bool {
	t.Helper()
	want, can := leastWidthByHand(words, lines)
	n, ok := impl.LeastWidth(words, lines)
	if n != want || ok != can {
		t.Fatalf("LeastWidth(%q, %d) = %d, %v, not %d, %v", words, lines, n, ok, want, can)
	}
	if !ok || len(words) == 0 {
		return ok
	}
	if l, ok := impl.GreedyLines(words, n); len(l) > lines || !ok {
		t.Fatalf("LeastWidth(%q, %d) = %d, with which there are %q, %v", words, lines, n, l, ok)
	}
	if l, ok := impl.GreedyLines(words, n-1); len(l) <= lines && ok {
		t.Fatalf("LeastWidth(%q, %d) = %d, though one less has %q", words, lines, n, l)
	}
	return true
}

// eachLengths goes through all lists of at most n numbers from 1 to most.
func eachLengths(n, most int, f func(lengths []int)) {
	lists := [][]int{nil}
	for k := 0; k < len(lists); k++ {
		f(lists[k])
		for x := 1; len(lists[k]) < n && x <= most; x++ {
			lists = append(lists, append(slices.Clone(lists[k]), x))
		}
	}
}

// Promise 13: of few words, all ways being tried, no other one costs less, has
// fewer lines with this cost, or with as many lines more words in the first line
// that is not alike.
func TestBestLinesAreTheBestOfAll(t *testing.T) {
	more, other := 0, 0
	check := func(words []string, width int) {
		if longestOf(words) > width {
			zeroOfBreaks(t, words, width)
			return
		}
		best, _, even := bestOfAll(words, width)
		checkBestIs(t, words, width, best)
		if even > 0 {
			more++
		}
		if !slices.Equal(best.lines, greedyByHand(words, width).lines) {
			other++
		}
	}
	eachLengths(5, 4, func(lengths []int) {
		for width := 1; width <= 11; width++ {
			check(madeWords(lengths...), width)
		}
	})
	c := &chooser{131}
	for k := range 300 {
		words := c.words(6+k%4, 1+k%7)
		check(words, longestOf(words)+c.next(9))
	}
	if more < 100 || other < 100 {
		t.Errorf("%d times as many lines cost as much, %d times they are not as greedy lines are", more, other)
	}
}

// Promise 13: by each way to break the words a cost that is not less.
func TestNoOtherLinesCostLess(t *testing.T) {
	c := &chooser{132}
	for k := range 120 {
		words := c.words(1+k%9, 1+k%6)
		width := longestOf(words) + c.next(12)
		_, least, _ := impl.BestLines(words, width)
		fit := 0
		eachLayout(words, func(x layout) {
			if !checkCuts(t, words, x.cuts(), width) {
				return
			}
			fit++
			l, _ := impl.BreakAt(words, x.cuts(), width)
			if n, ok := impl.CostOfLines(l, width); n < least || !ok {
				t.Fatalf("%q cost %d, %v, less than the best of %q, %d, which cost %d", l, n, ok, words, width, least)
			}
		})
		if fit == 0 {
			t.Fatalf("no way to break %q fits in %d", words, width)
		}
	}
}

// The two ways to reckon the best lines by hand are held against each other.
func TestLinesByHand(t *testing.T) {
	eachLengths(4, 4, func(lengths []int) {
		words := madeWords(lengths...)
		for width := max(1, longestOf(words)); width <= 10; width++ {
			best, _, _ := bestOfAll(words, width)
			if x := bestByNumbers(words, width); !slices.Equal(x.lines, best.lines) {
				t.Fatalf("%q in %d are reckoned to be %q and %q", words, width, x.lines, best.lines)
			}
		}
	})
}

// Promise 13: many words of all lengths, in all widths.
func TestLinesOfManyWords(t *testing.T) {
	c := &chooser{133}
	for k := range 60 {
		longest := []int{1, 2, 5, 9, 20, impl.MaxWidth}[k%6]
		words := c.words(impl.MaxWords-k%3*c.next(30), longest)
		for width := longestOf(words); width <= impl.MaxWidth; width += 1 + c.next(9) {
			if !checkBreaks(t, words, width) {
				t.Fatalf("%q have no lines in %d", words, width)
			}
		}
		for lines := 1; lines <= impl.MaxWords; lines += 1 + c.next(5) {
			checkLeastWidth(t, words, lines)
		}
	}
}

func TestBestLinesOneByOne(t *testing.T) {
	for _, x := range []struct {
		words string
		width int
		best  string
		cost  int
	}{
		{"aaa bb cc ddddd", 6, "aaa|bb cc|ddddd", 10},
		// The last line costs nothing, however short it is; a line alone is the last one.
		{"a", 1, "a", 0}, {"a", 80, "a", 0}, {"a b", 3, "a b", 0}, {"a b", 80, "a b", 0}, {"aa b", 2, "aa|b", 0}, {"a b", 2, "a|b", 1}, {"aaa b", 4, "aaa|b", 1}, {"aaa bbb c", 7, "aaa bbb|c", 0}, {"a b c", 4, "a b|c", 1}, {"a b c d", 2, "a|b|c|d", 3}, {"a a a a a", 5, "a a a|a a", 0},
		// As greedy lines, and not.
		{"a bb cccc d", 4, "a bb|cccc|d", 0}, {"aa b ccc dddd", 4, "aa b|ccc|dddd", 1}, {"a bb ccc dddd", 5, "a bb|ccc|dddd", 5}, {"a b cccc dd", 5, "a b|cccc|dd", 5}, {"aa bb ccc dddd", 6, "aa bb|ccc|dddd", 10}, {"aa b ccc dddd", 5, "aa b|ccc|dddd", 5}, {"aaaaa b cc dddddd", 8, "aaaaa|b cc|dddddd", 25}, {"aa b ccc d ee", 6, "aa b|ccc d|ee", 5},
	} {
		words := strings.Fields(x.words)
		want := strings.Split(x.best, "|")
		if l, cost, ok := impl.BestLines(words, x.width); !slices.Equal(l, want) || cost != x.cost || !ok {
			t.Errorf("BestLines(%q, %d) = %q, %d, %v, not %q, %d", words, x.width, l, cost, ok, want, x.cost)
		}
		checkBreaks(t, words, x.width)
	}
}

// Promise 13: of two ways that cost the same the first is told.
func TestTiesOfLinesOneByOne(t *testing.T) {
	for _, x := range []struct {
		lengths     []int
		width       int
		best, other []int
	}{
		// Fewer lines.
		{[]int{4, 1, 2, 3, 1, 1, 4, 1}, 6, []int{2, 2, 2, 2}, []int{1, 2, 2, 2, 1}}, {[]int{5, 3, 3, 5, 1, 2, 5, 3}, 9, []int{2, 2, 2, 2}, []int{1, 2, 2, 2, 1}}, {[]int{6, 3, 2, 6, 1, 2, 6, 1}, 10, []int{2, 2, 2, 2}, []int{1, 2, 2, 2, 1}}, {[]int{21, 1, 19, 3, 17, 5, 15, 7, 13, 9, 11, 11, 9, 13, 7, 7, 13, 9, 11, 11, 9, 13, 7, 15, 5, 17, 3, 19, 1, 21, 23}, 23, append(slices.Repeat([]int{2}, 15), 1), append(append([]int{1}, slices.Repeat([]int{2}, 14)...), 1, 1)},
		// As many lines: more words in the first one, the second one, the third one.
		{[]int{1, 1, 1, 2}, 3, []int{2, 1, 1}, []int{1, 2, 1}}, {[]int{1, 2, 1, 3}, 4, []int{2, 1, 1}, []int{1, 2, 1}}, {[]int{2, 1, 2, 1, 1, 3}, 4, []int{2, 1, 2, 1}, []int{1, 2, 2, 1}}, {[]int{2, 1, 1, 1, 2}, 3, []int{1, 2, 1, 1}, []int{1, 1, 2, 1}}, {[]int{4, 1, 1, 1, 3, 3}, 6, []int{1, 3, 1, 1}, []int{1, 2, 2, 1}}, {[]int{1, 2, 1, 1, 1, 2}, 3, []int{1, 1, 2, 1, 1}, []int{1, 1, 1, 2, 1}},
	} {
		words := madeWords(x.lengths...)
		best, other := layoutOf(words, x.best...), layoutOf(words, x.other...)
		if best.cost(x.width) != other.cost(x.width) || longestOf(other.lines) > x.width || strings.Join(other.lines, " ") != strings.Join(words, " ") {
			t.Errorf("%q and %q are not as good in %d", best.lines, other.lines, x.width)
		}
		checkBestIs(t, words, x.width, best)
		checkBreaks(t, words, x.width)
		if len(words) > 10 {
			continue
		}
		if all, tied, _ := bestOfAll(words, x.width); !slices.Equal(all.lines, best.lines) || tied == 0 {
			t.Errorf("%q in %d are broken best as %q, with %d others", words, x.width, all.lines, tied)
		}
	}
}

func TestGreedyLinesOneByOne(t *testing.T) {
	for _, x := range []struct {
		words string
		width int
		lines string
	}{
		{"a", 1, "a"}, {"a b", 1, "a|b"}, {"a b", 2, "a|b"}, {"a b", 3, "a b"}, {"a b c", 3, "a b|c"}, {"a b c", 4, "a b|c"}, {"a b c", 5, "a b c"}, {"aaa bb cc ddddd", 6, "aaa bb|cc|ddddd"}, {"aaa b", 3, "aaa|b"}, {"b aaa", 3, "b|aaa"}, {"b aaa", 5, "b aaa"}, {"., 0.9", 6, "., 0.9"}, {"., 0.9", 5, ".,|0.9"}, {"aa bb cc dd ee", 5, "aa bb|cc dd|ee"},
	} {
		words := strings.Fields(x.words)
		want := strings.Split(x.lines, "|")
		if l, ok := impl.GreedyLines(words, x.width); !slices.Equal(l, want) || !ok {
			t.Errorf("GreedyLines(%q, %d) = %q, %v, not %q", words, x.width, l, ok, want)
		}
		checkBreaks(t, words, x.width)
	}
}

// Promise 13: of all small lists of words each line has as many as fit.
func TestGreedyLinesAsSaid(t *testing.T) {
	eachLengths(6, 3, func(lengths []int) {
		words := madeWords(lengths...)
		for width := 1; width <= 9; width++ {
			if longestOf(words) <= width {
				checkGreedy(t, words, width)
			} else {
				zeroOfBreaks(t, words, width)
			}
		}
	})
}

func TestCostsOneByOne(t *testing.T) {
	for _, x := range []struct {
		lines string
		width int
		cost  int
	}{
		{"a", 1, 0}, {"a", 80, 0}, {"a|b", 1, 0}, {"a|b", 2, 1}, {"a|b", 80, 79 * 79}, {"a|bb", 3, 4}, {"bb|a", 3, 1}, {"aaa bb|cc|ddddd", 6, 16}, {"aaa|bb cc|ddddd", 6, 10}, {"a b c|d|e f", 5, 16}, {"a b c|d|e f|g", 5, 20}, {"., 0.9|z", 7, 1},
	} {
		lines := strings.Split(x.lines, "|")
		if n, ok := impl.CostOfLines(lines, x.width); n != x.cost || !ok {
			t.Errorf("CostOfLines(%q, %d) = %d, %v, not %d", lines, x.width, n, ok, x.cost)
		}
		checkCost(t, lines, x.width)
	}
}

// Promise 13: the squares of what is left of each line but the last.
func TestCostsAsSaid(t *testing.T) {
	rows := []string{"a", "bc", "d e", "fgh", "i j k"}
	told := 0
	eachLengths(4, len(rows), func(list []int) {
		var lines []string
		for _, k := range list {
			lines = append(lines, rows[k-1])
		}
		for _, width := range []int{0, 1, 2, 3, 4, 5, 6, 79, 80, 81} {
			if checkCost(t, lines, width) {
				told++
			}
		}
	})
	if told < 1000 {
		t.Errorf("%d costs are told", told)
	}
	c := &chooser{134}
	for k := range 200 {
		words := c.words(1+c.next(impl.MaxWords), 1+k%30)
		width := longestOf(words) + c.next(impl.MaxWidth+1-longestOf(words))
		l, _ := impl.GreedyLines(words, width)
		checkCost(t, l, width)
		checkCost(t, l, longestOf(l))
		checkCost(t, l, longestOf(l)-1)
		slices.Reverse(l)
		checkCost(t, l, width)
	}
}

func TestCutsOneByOne(t *testing.T) {
	words := strings.Fields("aa b ccc d ee")
	for _, x := range []struct {
		cuts  []int
		width int
		lines string
	}{
		{nil, 13, "aa b ccc d ee"}, {[]int{}, 80, "aa b ccc d ee"}, {[]int{1}, 10, "aa|b ccc d ee"}, {[]int{4}, 10, "aa b ccc d|ee"}, {[]int{1, 4}, 7, "aa|b ccc d|ee"}, {[]int{2, 3}, 4, "aa b|ccc|d ee"}, {[]int{1, 2, 3, 4}, 3, "aa|b|ccc|d|ee"}, {[]int{1, 2, 3, 4}, 80, "aa|b|ccc|d|ee"},
	} {
		want := strings.Split(x.lines, "|")
		if l, ok := impl.BreakAt(words, x.cuts, x.width); !slices.Equal(l, want) || !ok {
			t.Errorf("BreakAt(%q, %v, %d) = %q, %v, not %q", words, x.cuts, x.width, l, ok, want)
		}
		checkCuts(t, words, x.cuts, x.width)
		zeroOfCuts(t, words, x.cuts, longestOf(want)-1)
	}
}

// Promise 13: lines begin just at the words that the cuts name.
func TestLinesBeginAtCuts(t *testing.T) {
	told, not := 0, 0
	eachLengths(4, 3, func(lengths []int) {
		words := madeWords(lengths...)
		eachLayout(words, func(x layout) {
			for width := 1; width <= 12; width++ {
				if checkCuts(t, words, x.cuts(), width) {
					told++
				} else {
					not++
				}
			}
		})
	})
	if told < 1000 || not < 1000 {
		t.Errorf("%d are told, %d not", told, not)
	}
	words := madeWords(2, 1, 3, 1)
	eachLengths(4, 7, func(list []int) {
		var cuts []int
		for _, n := range list {
			cuts = append(cuts, n-2)
		}
		checkCuts(t, words, cuts, impl.MaxWidth)
	})
}

func TestLeastWidthsOneByOne(t *testing.T) {
	for _, x := range []struct {
		words string
		lines int
		width int
	}{
		{"aaa bb cc ddddd", 1, 15}, {"aaa bb cc ddddd", 2, 8}, {"aaa bb cc ddddd", 3, 5}, {"aaa bb cc ddddd", 4, 5}, {"aaa bb cc ddddd", 60, 5}, {"a", 1, 1}, {"a", 60, 1}, {"a b", 1, 3}, {"a b", 2, 1}, {"a b c", 2, 3}, {"aaa b", 2, 3}, {"b aaa", 2, 3}, {"b aaa b", 2, 5},
	} {
		words := strings.Fields(x.words)
		if n, ok := impl.LeastWidth(words, x.lines); n != x.width || !ok {
			t.Errorf("LeastWidth(%q, %d) = %d, %v, not %d", words, x.lines, n, ok, x.width)
		}
		checkLeastWidth(t, words, x.lines)
	}
}

// Promise 13: with the least width there are at most so many lines, with one less
// there is no way at all to have so few.
func TestLeastWidthsAsSaid(t *testing.T) {
	eachLengths(5, 4, func(lengths []int) {
		words := madeWords(lengths...)
		least := slices.Repeat([]int{math.MaxInt}, len(words)+1)
		eachLayout(words, func(x layout) {
			n := len(x.lines)
			least[n] = min(least[n], longestOf(x.lines))
		})
		for lines := 1; lines <= len(words); lines++ {
			checkLeastWidth(t, words, lines)
			if n, ok := impl.LeastWidth(words, lines); n != slices.Min(least[1:lines+1]) || !ok {
				t.Fatalf("LeastWidth(%q, %d) = %d, %v, though %v are the least of so many lines", words, lines, n, ok, least)
			}
		}
		checkLeastWidth(t, words, len(words)+1)
	})
}

func TestWordsOneByOne(t *testing.T) {
	for _, x := range []struct {
		s     string
		words []string
	}{
		{"", nil}, {" ", nil}, {"     ", nil}, {"A/", nil}, {"A /", nil}, {"/", nil}, {"a", []string{"a"}}, {" a", []string{"a"}}, {"a ", []string{"a"}}, {"   a   ", []string{"a"}}, {"a b", []string{"a", "b"}}, {"a    b", []string{"a", "b"}}, {"  a  b  c.  ", []string{"a", "b", "c."}}, {"., 0,9 .", []string{".,", "0,9", "."}},
		// What is not plain parts no words.
		{"A a  b/ c.", []string{"a", "b", "c."}}, {"aA/b", []string{"ab"}}, {"aAb/Bc/d", []string{"abcd"}}, {"a/b", []string{"ab"}}, {"A a/b ", []string{"ab"}}, {"aA /b", []string{"a", "b"}}, {" A B ", nil}, {"//a//", []string{"a"}}, {"ABCDEFz", []string{"z"}},
	} {
		if l, ok := impl.WordsOf(x.s); !slices.Equal(l, x.words) || !ok {
			t.Errorf("WordsOf(%q) = %q, %v, not %q", x.s, l, ok, x.words)
		}
		checkWordsOf(t, x.s)
	}
}

// Promise 13: of all small texts, and of long ones, the words that blanks part;
// told with one blank between they come back.
func TestWordsAsSaid(t *testing.T) {
	for _, s := range append(allTexts("a /A.", 6), append(someDocs(), edgeDocs()...)...) {
		checkWordsOf(t, s)
	}
	c := &chooser{135}
	told, not := 0, 0
	for k := range 600 {
		alphabet := []string{"ab ", "abc     ", "A/b ", "abcdefghij ", allBytes}[k%5]
		s := c.textOf(alphabet, c.next(impl.MaxDoc+1))
		if !checkWordsOf(t, s) {
			not++
			continue
		}
		told++
		l, _ := impl.WordsOf(s)
		again, ok := impl.WordsOf(strings.Join(l, " "))
		if !slices.Equal(again, l) || !ok {
			t.Fatalf("WordsOf(%q) = %q, which come back as %q, %v", s, l, again, ok)
		}
		wide := 2 * impl.MaxWidth / 3
		if longestOf(l) <= wide {
			checkBreaks(t, l, wide)
		}
	}
	if told < 100 || not < 50 {
		t.Errorf("%d have words, %d have none that are good", told, not)
	}
}

// Chapter 13: no words at all.
func TestNoWordsAtAll(t *testing.T) {
	for _, none := range [][]string{nil, {}} {
		for _, width := range []int{math.MinInt, -1, 0, 1, 2, 79, impl.MaxWidth, impl.MaxWidth + 1, math.MaxInt} {
			want := widthIsGood(width)
			if l, ok := impl.GreedyLines(none, width); len(l) != 0 || ok != want {
				t.Errorf("GreedyLines(none, %d) = %q, %v", width, l, ok)
			}
			if l, cost, ok := impl.BestLines(none, width); len(l) != 0 || cost != 0 || ok != want {
				t.Errorf("BestLines(none, %d) = %q, %d, %v", width, l, cost, ok)
			}
			if n, ok := impl.CostOfLines(none, width); n != 0 || ok != want {
				t.Errorf("CostOfLines(none, %d) = %d, %v", width, n, ok)
			}
			for _, cuts := range [][]int{nil, {}} {
				if l, ok := impl.BreakAt(none, cuts, width); len(l) != 0 || ok != want {
					t.Errorf("BreakAt(none, none, %d) = %q, %v", width, l, ok)
				}
			}
			for _, cut := range []int{math.MinInt, -1, 0, 1, math.MaxInt} {
				zeroOfCuts(t, none, []int{cut}, width)
			}
		}
		for _, lines := range []int{math.MinInt, -1, 0, 1, 2, impl.MaxWords, impl.MaxWords + 1, math.MaxInt} {
			want := lines >= 1 && lines <= impl.MaxWords
			if n, ok := impl.LeastWidth(none, lines); n != 0 || ok != want {
				t.Errorf("LeastWidth(none, %d) = %d, %v", lines, n, ok)
			}
		}
	}
}

// Chapter 13: one word, in the width that it just has, in more and in less.
func TestOneWord(t *testing.T) {
	for n := 1; n <= impl.MaxWidth; n++ {
		words := madeWords(n)
		for _, width := range []int{n, n + 1, impl.MaxWidth} {
			if width > impl.MaxWidth {
				zeroOfBreaks(t, words, width)
				continue
			}
			if l, cost, ok := impl.BestLines(words, width); !slices.Equal(l, words) || cost != 0 || !ok {
				t.Fatalf("BestLines(%q, %d) = %q, %d, %v", words, width, l, cost, ok)
			}
			checkBreaks(t, words, width)
			checkCuts(t, words, nil, width)
			checkCost(t, words, width)
			zeroOfCuts(t, words, []int{0}, width)
			zeroOfCuts(t, words, []int{1}, width)
		}
		zeroOfBreaks(t, words, n-1)
		zeroOfLines(t, words, n-1)
		for _, lines := range []int{1, 2, impl.MaxWords} {
			if w, ok := impl.LeastWidth(words, lines); w != n || !ok {
				t.Fatalf("LeastWidth(%q, %d) = %d, %v", words, lines, w, ok)
			}
		}
		if l, ok := impl.WordsOf(words[0]); !slices.Equal(l, words) || !ok {
			t.Fatalf("WordsOf(%q) = %q, %v", words[0], l, ok)
		}
	}
}

// Chapter 13: MaxWords words, and one more; words of MaxWidth bytes, and of one more.
func TestMostWordsAndLongest(t *testing.T) {
	for _, length := range []int{1, 2, 4, 39, 40, impl.MaxWidth} {
		most := manyWords(impl.MaxWords, length)
		for _, width := range []int{1, 2, 3, 4, 5, 8, 9, 40, 79, 80} {
			if checkBreaks(t, most, width) != (width >= length) {
				t.Fatalf("%d words of %d bytes in %d", len(most), length, width)
			}
			zeroOfBreaks(t, append(slices.Clone(most), "a"), width)
			zeroOfLines(t, append(slices.Clone(most), "a"), width)
			if checkCost(t, most, width) != (width >= length) {
				t.Fatalf("%d lines of %d bytes in %d", len(most), length, width)
			}
		}
		for lines := 1; lines <= impl.MaxWords; lines++ {
			checkLeastWidth(t, most, lines)
			zeroOfLeast(t, append(slices.Clone(most), "a"), lines)
		}
		every := make([]int, impl.MaxWords-1)
		for k := range every {
			every[k] = k + 1
		}
		if l, ok := impl.BreakAt(most, every, length); !slices.Equal(l, most) || !ok {
			t.Errorf("BreakAt(most of %d, before each, %d) = %q, %v", length, length, l, ok)
		}
		zeroOfCuts(t, most, append(every, impl.MaxWords), impl.MaxWidth)
		zeroOfCuts(t, append(slices.Clone(most), "a"), every, impl.MaxWidth)
	}
	long := longText(impl.MaxWidth)
	for _, words := range [][]string{{long + "a"}, {"a", long + "a"}, {long + "a", "a"}, {long, long, long + "a"}} {
		zeroOfBreaks(t, words, impl.MaxWidth)
		zeroOfBreaks(t, words, impl.MaxWidth+1)
		zeroOfLeast(t, words, impl.MaxWords)
		zeroOfLines(t, words, impl.MaxWidth)
		zeroOfLines(t, words, impl.MaxWidth+1)
	}
}

// Chapter 13: a text with MaxWords words, and with one more; with a word of
// MaxWidth bytes, and of one more.
func TestTextsAtTheLimits(t *testing.T) {
	for _, blanks := range []string{" ", "  ", "/ ", " A "} {
		for _, edge := range []string{"", " ", "   "} {
			most := edge + strings.Repeat("a"+blanks, impl.MaxWords-1) + "b" + edge
			if l, ok := impl.WordsOf(most); len(l) != impl.MaxWords || !ok || l[impl.MaxWords-1] != "b" {
				t.Errorf("WordsOf(%q) = %q, %v", most, l, ok)
			}
			checkWordsOf(t, most)
			if l, ok := impl.WordsOf(most + " c"); len(l) != 0 || ok {
				t.Errorf("WordsOf(%q) = %q, %v", most+" c", l, ok)
			}
		}
	}
	long := longText(impl.MaxWidth)
	for _, s := range []string{long, " " + long, long + " ", "b " + long + " c", long + " " + long + " " + long, "A" + long + "/", long[:40] + "A/" + long[40:]} {
		if !checkWordsOf(t, s) {
			t.Errorf("WordsOf(%q) tells nothing", s)
		}
		if l, ok := impl.WordsOf(strings.ReplaceAll(s, "aa", "aaa")); len(l) != 0 || ok {
			t.Errorf("WordsOf of a longer word = %q, %v", l, ok)
		}
	}
	for _, s := range []string{long + "b", "b" + long, long + "A/b", long + "/b", "b c " + long + "b", longText(impl.MaxDoc), strings.Repeat("a ", impl.MaxDoc/2)} {
		if l, ok := impl.WordsOf(s); len(l) != 0 || ok {
			t.Errorf("WordsOf(%q) = %q, %v", s, l, ok)
		}
	}
	for _, s := range []string{strings.Repeat(" ", impl.MaxDoc), strings.Repeat("A/", impl.MaxDoc/2), strings.Repeat(" ", impl.MaxDoc-1) + "a", "a" + strings.Repeat(" ", impl.MaxDoc-2) + "a"} {
		if !checkWordsOf(t, s) || checkWordsOf(t, s+" ") {
			t.Errorf("WordsOf(%q) tells nothing, or something of one byte more", s)
		}
	}
}

// Chapter 13: words that no width up to MaxWidth serves.
func TestWordsThatNoWidthServes(t *testing.T) {
	half := impl.MaxWidth / 2
	for _, x := range []struct {
		lengths []int
		lines   int
		width   int
	}{
		{[]int{half, half - 1}, 1, impl.MaxWidth}, {[]int{half, half}, 1, 0}, {[]int{half, half}, 2, half}, {[]int{impl.MaxWidth, 1}, 1, 0}, {[]int{impl.MaxWidth, 1}, 2, impl.MaxWidth}, {[]int{impl.MaxWidth, impl.MaxWidth, 1}, 2, 0}, {slices.Repeat([]int{1}, 40), 1, 79}, {slices.Repeat([]int{1}, 41), 1, 0}, {slices.Repeat([]int{1}, 41), 2, 41}, {slices.Repeat([]int{2}, impl.MaxWords), 2, 0}, {slices.Repeat([]int{2}, impl.MaxWords), 3, 59}, {slices.Repeat([]int{impl.MaxWidth}, impl.MaxWords), impl.MaxWords - 1, 0}, {slices.Repeat([]int{impl.MaxWidth}, impl.MaxWords), impl.MaxWords, impl.MaxWidth},
	} {
		words := madeWords(x.lengths...)
		if n, ok := impl.LeastWidth(words, x.lines); n != x.width || ok != (x.width > 0) {
			t.Errorf("LeastWidth(%q, %d) = %d, %v, not %d", words, x.lines, n, ok, x.width)
		}
		checkLeastWidth(t, words, x.lines)
	}
}

// oddWords are no words: empty, too long, or with a byte that is none of theirs.
// Some have runes whose last byte is a plain one.
func oddWords() []string {
	out := []string{"", " ", "a ", " a", "a b", "  ", "A", "/", "aA", "A/", "a/b", "-", "a-", "a\n", "\x00", "a\xff", "\u00e4", "a\u00e4", "\u0161", "\u0120", "\u0361b", "\U00010061", "\ufffd", "a\tb", "\u00a0", "G", "Z", "a|b", longText(impl.MaxWidth + 1), longText(impl.MaxWidth - 1), strings.Repeat("\u00e4", impl.MaxWidth), strings.Repeat("a", 500000)}
	for c := range 256 {
		s := string([]byte{byte(c)})
		out = append(out, s, "a"+s, s+"a", "a"+s+"a")
	}
	return slices.DeleteFunc(out, plainWordIsGood)
}

// Promise 20: words that are none.
func TestWordsThatAreNone(t *testing.T) {
	odd := oddWords()
	if len(odd) < 4*200 {
		t.Fatalf("%d words are none", len(odd))
	}
	for _, w := range odd {
		for _, words := range [][]string{{w}, {"a", w}, {w, "a"}, {"a", w, "a"}, append(manyWords(impl.MaxWords-1, 1), w)} {
			for _, width := range []int{1, 3, impl.MaxWidth} {
				zeroOfBreaks(t, words, width)
				zeroOfCuts(t, words, []int{1}, width)
				zeroOfCuts(t, words, []int{len(words) - 1}, width)
				checkCost(t, words, width)
				checkCost(t, []string{strings.Join(words, " ")}, width)
			}
			for _, lines := range []int{1, 2, impl.MaxWords} {
				zeroOfLeast(t, words, lines)
			}
		}
	}
}

// Promise 20: lines that are none: empty, too long, not of words with one blank
// between, or of too many words.
func TestLinesThatAreNone(t *testing.T) {
	for _, line := range []string{"", " ", "  ", " a", "a ", "a  b", "a b ", " a b", "A", "a A", "a/", "Ab/", "\xff", "a \u00e4", "a\n", "a-b", longText(impl.MaxWidth + 1), strings.Repeat("a ", 40) + "a", strings.Repeat("\u00e4", 40)} {
		for _, lines := range [][]string{{line}, {"a", line}, {line, "a"}, {"a", line, "b"}} {
			zeroOfLines(t, lines, impl.MaxWidth)
			zeroOfLines(t, lines, 10)
			zeroOfLines(t, lines, 1)
			checkCost(t, lines, 2)
		}
	}
	row := strings.Repeat("a ", 29) + "a"
	for _, x := range []struct {
		lines []string
		can   bool
	}{
		{[]string{row, row}, true}, {[]string{row, row, "a"}, false}, {[]string{row, row + " a"}, false}, {[]string{"a", row, row}, false}, {slices.Repeat([]string{"a"}, impl.MaxWords), true}, {slices.Repeat([]string{"a"}, impl.MaxWords+1), false}, {slices.Repeat([]string{"a b"}, impl.MaxWords/2), true}, {slices.Repeat([]string{"a b"}, impl.MaxWords), false}, {slices.Repeat([]string{"a"}, 100000), false},
	} {
		if checkCost(t, x.lines, impl.MaxWidth) != x.can {
			t.Errorf("CostOfLines(%.80q) is told, or not", x.lines)
		}
	}
	for _, x := range []struct {
		line  string
		width int
	}{{"a b", 2}, {"aa", 1}, {"a b c", 4}, {longText(80), 79}, {row, 58}} {
		for _, lines := range [][]string{{x.line}, {"a", x.line}, {x.line, "a"}} {
			zeroOfLines(t, lines, x.width)
			if n, ok := impl.CostOfLines(lines, x.width+1); n != costByLines(lines, x.width+1) || !ok {
				t.Errorf("CostOfLines(%q, %d) = %d, %v", lines, x.width+1, n, ok)
			}
		}
	}
}

// Promise 20: widths, numbers of lines, and cuts that are not as said.
func TestNumbersOfLinesThatAreNone(t *testing.T) {
	words := strings.Fields("aa b ccc d ee")
	for _, width := range []int{math.MinInt, -80, -1, 0, 1, 2, impl.MaxWidth + 1, 1 << 32, math.MaxInt} {
		zeroOfBreaks(t, words, width)
		zeroOfCuts(t, words, []int{1, 2, 3, 4}, width)
		zeroOfLines(t, []string{"aa b", "ccc"}, width)
	}
	for _, lines := range []int{math.MinInt, -1, 0, impl.MaxWords + 1, 1 << 32, math.MaxInt} {
		zeroOfLeast(t, words, lines)
		zeroOfLeast(t, []string{"a"}, lines)
	}
	for _, cuts := range [][]int{{0}, {-1}, {math.MinInt}, {5}, {6}, {math.MaxInt}, {0, 1}, {-1, 1}, {1, 1}, {2, 1}, {4, 3}, {1, 2, 2}, {1, 3, 2}, {1, 5}, {1, 4, 5}, {1, 2, 3, 4, 5}, {1, 2, 3, 4, 4}, {1, math.MaxInt}, slices.Repeat([]int{1}, 100000)} {
		zeroOfCuts(t, words, cuts, impl.MaxWidth)
		zeroOfCuts(t, words, cuts, 3)
	}
	for _, x := range []struct {
		cuts  []int
		width int
	}{{nil, 12}, {[]int{1}, 9}, {[]int{4}, 9}, {[]int{2}, 7}, {[]int{3}, 7}, {[]int{1, 2, 3}, 3}, {[]int{1, 2, 3, 4}, 2}} {
		zeroOfCuts(t, words, x.cuts, x.width)
	}
	for _, s := range append(notTexts(), longText(impl.MaxDoc)+"/", "a\u00e4 b", "a\tb", "a\nb") {
		if l, ok := impl.WordsOf(s); len(l) != 0 || ok {
			t.Errorf("WordsOf(%.40q) = %q, %v", s, l, ok)
		}
	}
	for c := range 256 {
		s := string([]byte{byte(c)})
		for _, x := range []string{s, "a" + s, "a" + s + "b", s + " a", "a " + s} {
			checkWordsOf(t, x)
		}
	}
}

func shareLists(a, b []string) bool {
	size := unsafe.Sizeof("")
	x, y := uintptr(unsafe.Pointer(unsafe.SliceData(a))), uintptr(unsafe.Pointer(unsafe.SliceData(b)))
	return cap(a) > 0 && cap(b) > 0 && x < y+uintptr(cap(b))*size && y < x+uintptr(cap(a))*size
}

func checkNewMemory(t *testing.T, answer, given []string) {
	t.Helper()
	if shareLists(answer, given) {
		t.Errorf("%q lies in the memory of %q", answer, given)
	}
	for _, x := range answer {
		for _, y := range given {
			if shareText(x, y) {
				t.Errorf("%q lies in the memory of %q, which was handed in", x, y)
			}
		}
	}
}

// Promise 20: what is answered shares no memory with what was handed in, nor
// with what is answered later.
func TestLinesAreNewMemory(t *testing.T) {
	for _, lengths := range [][]int{{2}, {80}, {40, 40}, {2, 3, 4}, {20, 3, 30, 4, 50}, slices.Repeat([]int{7}, impl.MaxWords)} {
		words := madeWords(lengths...)
		width := longestOf(words)
		var answers [][]string
		for range 2 {
			greedy, _ := impl.GreedyLines(words, width)
			best, _, _ := impl.BestLines(words, width)
			wide, _, _ := impl.BestLines(words, impl.MaxWidth)
			alone, _ := impl.BreakAt(words, layoutOf(words, slices.Repeat([]int{1}, len(words))...).cuts(), width)
			answers = append(answers, greedy, best, wide, alone)
		}
		for k, l := range answers {
			if len(l) == 0 {
				t.Errorf("%q in %d have no lines", words, width)
			}
			checkNewMemory(t, l, words)
			for _, other := range answers[:k] {
				if shareLists(l, other) {
					t.Errorf("two answers of %q lie in one memory", words)
				}
			}
		}
		for _, l := range answers {
			clear(l[:cap(l)])
		}
		if !slices.Equal(words, madeWords(lengths...)) {
			t.Errorf("the words were changed: %q", words)
		}
		checkBreaks(t, words, width)
	}
	for _, s := range []string{"abc", "abc def", "  abc  ", "AabcB/def/ ghi", longText(impl.MaxWidth)} {
		given := strings.Clone(s)
		one, _ := impl.WordsOf(given)
		two, _ := impl.WordsOf(given)
		checkNewMemory(t, one, []string{given})
		if len(one) == 0 || shareLists(one, two) {
			t.Errorf("two answers of %q lie in one memory", s)
		}
		clear(one[:cap(one)])
		checkWordsOf(t, given)
		if given != s {
			t.Errorf("%q was changed to %q", s, given)
		}
	}
}

// Promise 20: nothing is written into words, lines or cuts, nor behind their
// lengths, nor read there.
func TestWordsAndCutsStayAsTheyWere(t *testing.T) {
	words := strings.Fields("aa b ccc d ee")
	cuts := []int{1, 3, 4}
	for n := range len(words) + 1 {
		for k := range len(cuts) + 1 {
			full := append(slices.Clone(words[:n]), "A", "", "no word", longText(200))
			places := append(slices.Clone(cuts[:k]), -1, 99, 0)
			given, at := full[:n], places[:k]
			fullWas, placesWas := slices.Clone(full), slices.Clone(places)
			for _, width := range []int{2, 3, 5, 8, impl.MaxWidth, 81} {
				checkBreaks(t, given, width)
				checkCuts(t, given, at, width)
				checkCost(t, given, width)
			}
			for _, lines := range []int{0, 1, 2, 5, impl.MaxWords, 61} {
				checkLeastWidth(t, given, lines)
			}
			if !slices.Equal(full, fullWas) || !slices.Equal(places, placesWas) {
				t.Fatalf("%q, %v were changed to %q, %v", fullWas, placesWas, full, places)
			}
			// What is refused is left as it was, too.
			for _, width := range []int{2, impl.MaxWidth, 81} {
				zeroOfBreaks(t, full, width)
				zeroOfCuts(t, full, places, width)
				zeroOfLines(t, full, width)
			}
			zeroOfLeast(t, full, 3)
			if !slices.Equal(full, fullWas) || !slices.Equal(places, placesWas) {
				t.Fatalf("%q, %v were changed to %q, %v", fullWas, placesWas, full, places)
			}
		}
	}
	s := "-aa bb-cc-"
	for _, x := range []string{s[1:6], s[1:5], s[1:1], s[4:6], s[7:9]} {
		checkWordsOf(t, x)
	}
}

// An answer is the same, whatever was asked and refused ahead of it.
func TestLinesAreToldAnew(t *testing.T) {
	words := strings.Fields("aaa bb cc ddddd")
	for range 3 {
		if l, cost, ok := impl.BestLines(words, 6); !slices.Equal(l, []string{"aaa", "bb cc", "ddddd"}) || cost != 10 || !ok {
			t.Errorf("BestLines = %q, %d, %v", l, cost, ok)
		}
		zeroOfBreaks(t, words, 4)
		zeroOfBreaks(t, append(words, "-"), 80)
		if n, ok := impl.LeastWidth(words, 2); n != 8 || !ok {
			t.Errorf("LeastWidth = %d, %v", n, ok)
		}
		zeroOfLeast(t, words, 0)
	}
}

// MaxWords words are answered in a moment, whatever they are.
func TestMostWordsInAMoment(t *testing.T) {
	c := &chooser{136}
	lists := [][]string{manyWords(impl.MaxWords, 1), manyWords(impl.MaxWords, 2), manyWords(impl.MaxWords, impl.MaxWidth), c.words(impl.MaxWords, 3), c.words(impl.MaxWords, 12), c.words(impl.MaxWords, impl.MaxWidth)}
	for _, words := range lists {
		start := time.Now()
		for width := 1; width <= impl.MaxWidth; width++ {
			impl.BestLines(words, width)
			l, _ := impl.GreedyLines(words, width)
			impl.CostOfLines(l, width)
			impl.BreakAt(words, nil, width)
			impl.LeastWidth(words, min(width, impl.MaxWords))
		}
		if took := time.Since(start); took > 5*time.Second {
			t.Errorf("%.80q took %v", words, took)
		}
		if !checkBreaks(t, words, impl.MaxWidth) {
			t.Errorf("%.80q have no lines", words)
		}
	}
}

// FuzzLines: no argument makes one of the six functions panic, or tell another thing than the document says.
func FuzzLines(f *testing.F) {
	f.Add("aaa bb cc ddddd", 6, 2, 1, 3)
	f.Add("A a  b/ c.", 80, 1, 0, 0)
	f.Add("a\xff \u0161 b", 81, 61, -1, 2)
	f.Add(strings.Repeat("a ", 61), 1, 60, 59, 60)
	f.Fuzz(func(t *testing.T, s string, width, lines, one, two int) {
		checkWordsOf(t, s)
		for _, words := range [][]string{strings.Fields(s), strings.Split(s, " "), {s}} {
			checkBreaks(t, words, width)
			checkCost(t, words, width)
			checkLeastWidth(t, words, lines)
			for _, cuts := range [][]int{nil, {one}, {one, two}} {
				checkCuts(t, words, cuts, width)
			}
		}
		checkCost(t, strings.Split(s, "/"), width)
	})
}
