package tests

import (
	"slices"
	"strings"
	"testing"
	"time"

	"loop.example/g00253/impl"
)

// isOneApart tells whether one byte put, dropped or (with turns) turned into
// another one makes one text of the other one.
func isOneApart(a, b string, turns bool) bool {
	if len(a) > len(b) {
		a, b = b, a
	}
	for at := range len(b) {
		if len(a)+1 == len(b) && a == b[:at]+b[at+1:] {
			return true
		}
		if turns && len(a) == len(b) && a != b && a[:at]+a[at+1:] == b[:at]+b[at+1:] {
			return true
		}
	}
	return false
}

// waysBetween has of all texts the fewest steps from each to each, by going
// from text to text. No shortest way needs a text longer than both its ends:
// what is dropped can be dropped first.
func waysBetween(texts []string, turns bool) [][]int {
	next := make([][]int, len(texts))
	for i, a := range texts {
		for j, b := range texts {
			if isOneApart(a, b, turns) {
				next[i] = append(next[i], j)
			}
		}
	}
	var out [][]int
	for from := range texts {
		far := slices.Repeat([]int{-1}, len(texts))
		far[from] = 0
		for met := []int{from}; len(met) > 0; met = met[1:] {
			for _, k := range next[met[0]] {
				if far[k] < 0 {
					far[k] = far[met[0]] + 1
					met = append(met, k)
				}
			}
		}
		out = append(out, far)
	}
	return out
}

// apartByHand has how far each beginning of a is apart from each beginning of
// b, from the front on, which is another way than the program's.
func apartByHand(a, b string, turn int) [][]int {
	var out [][]int
	for i := range len(a) + 1 {
		line := make([]int, len(b)+1)
		for j := range line {
			switch {
			case i == 0 || j == 0:
				line[j] = i + j
			case a[i-1] == b[j-1]:
				line[j] = min(out[i-1][j-1], out[i-1][j]+1, line[j-1]+1)
			default:
				line[j] = min(out[i-1][j-1]+turn, out[i-1][j]+1, line[j-1]+1)
			}
		}
		out = append(out, line)
	}
	return out
}

func distanceByHand(a, b string) int { return apartByHand(a, b, 2)[len(a)][len(b)] }

func editsByHand(a, b string) int { return apartByHand(a, b, 1)[len(a)][len(b)] }

// commonByHand has the least of the longest texts that two beginnings have in
// common, for all beginnings.
func commonByHand(a, b string) string {
	before := make([]string, len(b)+1)
	for i := range len(a) {
		line := make([]string, len(b)+1)
		for j := range len(b) {
			line[j+1] = longerOrLess(before[j+1], line[j])
			if a[i] == b[j] {
				line[j+1] = longerOrLess(line[j+1], before[j]+a[i:i+1])
			}
		}
		before = line
	}
	return before[len(b)]
}

func longerOrLess(a, b string) string {
	if len(a) > len(b) || len(a) == len(b) && a <= b {
		return a
	}
	return b
}

func reversedText(s string) string {
	b := []byte(s)
	slices.Reverse(b)
	return string(b)
}

// diffByHand goes by the words of chapter 9; the change need not be good.
func diffByHand(a, b string) []impl.Part {
	table := apartByHand(reversedText(a), reversedText(b), 2)
	var out []impl.Part
	for a != "" || b != "" {
		left := table[len(a)][len(b)]
		switch {
		case a != "" && b != "" && a[0] == b[0]:
			out = append(out, keep(1))
			a, b = a[1:], b[1:]
		case a != "" && table[len(a)-1][len(b)] == left-1:
			out = append(out, drop(a[:1]))
			a = a[1:]
		default:
			out = append(out, put(b[:1]))
			b = b[1:]
		}
	}
	return normalByHand(out)
}

func costByHand(op []impl.Part) int {
	n := 0
	for _, p := range op {
		n += len(p.Put + p.Drop)
	}
	return n
}

// textsWithin has all that is left of a text when bytes are dropped.
func textsWithin(s string) map[string]bool {
	out := map[string]bool{"": true}
	for i := range len(s) {
		var longer []string
		for x := range out {
			longer = append(longer, x+s[i:i+1])
		}
		for _, x := range longer {
			out[x] = true
		}
	}
	return out
}

func zeroOfTexts(t *testing.T, a, b string) {
	t.Helper()
	if n, ok := impl.DistanceOf(a, b); n != 0 || ok {
		t.Errorf("DistanceOf(%.40q, %.40q) = %d, %v", a, b, n, ok)
	}
	if n, ok := impl.EditsOf(a, b); n != 0 || ok {
		t.Errorf("EditsOf(%.40q, %.40q) = %d, %v", a, b, n, ok)
	}
	if s, ok := impl.CommonOf(a, b); s != "" || ok {
		t.Errorf("CommonOf(%.40q, %.40q) = %.40q, %v", a, b, s, ok)
	}
	if op, ok := impl.DiffOps(a, b); op != nil || ok {
		t.Errorf("DiffOps(%.40q, %.40q) = %v, %v", a, b, op, ok)
	}
	if is, ok := impl.IsWithin(a, b); is || ok {
		t.Errorf("IsWithin(%.40q, %.40q) = %v, %v", a, b, is, ok)
	}
}

// checkDiff holds DiffOps against what is reckoned by hand, and tells whether
// there is a change.
func checkDiff(t *testing.T, a, b string) bool {
	t.Helper()
	want := diffByHand(a, b)
	can := opIsGood(want)
	if !can {
		want = nil
	}
	op, ok := impl.DiffOps(a, b)
	if !slices.Equal(op, want) || ok != can {
		t.Fatalf("DiffOps(%q, %q) = %v, %v, not %v, %v", a, b, op, ok, want, can)
	}
	if !can {
		return false
	}
	if !isNormal(op) || !impl.GoodOp(op) {
		t.Fatalf("DiffOps(%q, %q) = %v, which is not normal or not good", a, b, op)
	}
	if text, fits := impl.ApplyOp(op, a); text != b || !fits {
		t.Fatalf("DiffOps(%q, %q) = %v, which makes %q, %v", a, b, op, text, fits)
	}
	far, _ := impl.DistanceOf(a, b)
	if cost, ok := impl.CostOf(op); cost != far || !ok {
		t.Fatalf("DiffOps(%q, %q) = %v, which costs %d, %v, not %d", a, b, op, cost, ok, far)
	}
	return true
}

func checkCommon(t *testing.T, a, b string) {
	t.Helper()
	want := commonByHand(a, b)
	s, ok := impl.CommonOf(a, b)
	if s != want || !ok {
		t.Fatalf("CommonOf(%q, %q) = %q, %v, not %q", a, b, s, ok, want)
	}
	far, _ := impl.DistanceOf(a, b)
	if 2*len(s)+far != len(a)+len(b) {
		t.Fatalf("CommonOf(%q, %q) = %q, though they are %d apart", a, b, s, far)
	}
	for _, x := range []string{a, b} {
		if is, ok := impl.IsWithin(s, x); !is || !ok {
			t.Fatalf("CommonOf(%q, %q) = %q, which is not within %q: %v, %v", a, b, s, x, is, ok)
		}
	}
}

// checkTexts holds all that is told of two texts against what is reckoned by
// hand, and tells whether there is a least change.
func checkTexts(t *testing.T, a, b string) bool {
	t.Helper()
	if !textIsGood(a) || !textIsGood(b) {
		zeroOfTexts(t, a, b)
		return false
	}
	far, edits := distanceByHand(a, b), editsByHand(a, b)
	if n, ok := impl.DistanceOf(a, b); n != far || !ok {
		t.Fatalf("DistanceOf(%q, %q) = %d, %v, not %d", a, b, n, ok, far)
	}
	if n, ok := impl.EditsOf(a, b); n != edits || !ok {
		t.Fatalf("EditsOf(%q, %q) = %d, %v, not %d", a, b, n, ok, edits)
	}
	// What is left is less by just what was dropped where nothing must be put.
	want := len(b)-len(a) == far
	if is, ok := impl.IsWithin(a, b); is != want || !ok {
		t.Fatalf("IsWithin(%q, %q) = %v, %v, not %v", a, b, is, ok, want)
	}
	checkCommon(t, a, b)
	return checkDiff(t, a, b)
}

func eachPair(texts []string, f func(a, b string)) {
	for _, a := range texts {
		for _, b := range texts {
			f(a, b)
		}
	}
}

func (c *chooser) textOf(alphabet string, n int) string {
	var b []byte
	for range n {
		b = append(b, alphabet[c.next(len(alphabet))])
	}
	return string(b)
}

// longPairs are texts up to MaxDoc bytes: such as have nothing to do with each
// other, of few kinds of bytes and of all, and such as were made of each other.
func longPairs(f func(a, b string)) {
	c := &chooser{91}
	for k := range 60 {
		alphabet := []string{"ab", "A/b", "zyx .,0", allBytes}[k%4]
		a := c.textOf(alphabet, c.next(impl.MaxDoc+1))
		f(a, c.textOf(alphabet, c.next(impl.MaxDoc+1)))
		b, _ := applyByHand(c.opOn(a, 2+k), a)
		f(a, b)
		f(b, a)
		if k%10 == 0 {
			f(c.textOf(alphabet, impl.MaxDoc), c.textOf(alphabet, impl.MaxDoc))
		}
	}
}

// Promise 9: how far texts are apart is the fewest steps that lead from one to
// the other one.
func TestDistancesAreTheFewestSteps(t *testing.T) {
	texts := allTexts("/Aa", 4)
	far, edits := waysBetween(texts, false), waysBetween(texts, true)
	less := 0
	for i, a := range texts {
		for j, b := range texts {
			if n, ok := impl.DistanceOf(a, b); n != far[i][j] || !ok {
				t.Fatalf("DistanceOf(%q, %q) = %d, %v, not %d", a, b, n, ok, far[i][j])
			}
			if n, ok := impl.EditsOf(a, b); n != edits[i][j] || !ok {
				t.Fatalf("EditsOf(%q, %q) = %d, %v, not %d", a, b, n, ok, edits[i][j])
			}
			if distanceByHand(a, b) != far[i][j] || editsByHand(a, b) != edits[i][j] {
				t.Fatalf("%q and %q are reckoned wrongly by hand", a, b)
			}
			if edits[i][j] < far[i][j] {
				less++
			}
		}
	}
	if less < 1000 {
		t.Errorf("a turn is of use %d times", less)
	}
}

// checkAxioms asks of how far texts are apart what makes a distance of it.
func checkAxioms(t *testing.T, name string, texts []string, apart func(a, b string) (int, bool)) {
	t.Helper()
	far := make([][]int, len(texts))
	for i, a := range texts {
		for _, b := range texts {
			n, ok := apart(a, b)
			if !ok || n < 0 || (n == 0) != (a == b) {
				t.Fatalf("%s(%q, %q) = %d, %v", name, a, b, n, ok)
			}
			far[i] = append(far[i], n)
		}
	}
	for i := range texts {
		for j := range texts {
			if far[i][j] != far[j][i] {
				t.Fatalf("%s of %q and %q is %d, and %d the other way", name, texts[i], texts[j], far[i][j], far[j][i])
			}
			for k := range texts {
				if far[i][j] > far[i][k]+far[k][j] {
					t.Fatalf("%s of %q and %q is more than by way of %q", name, texts[i], texts[j], texts[k])
				}
			}
		}
	}
}

// Promise 9: nothing just of the same text, the same both ways, never more
// than by way of a third text.
func TestDistancesAreDistances(t *testing.T) {
	small := append(allTexts("/Aa", 4), allTexts("b ", 3)[1:]...)
	c := &chooser{92}
	var long []string
	for k := range 6 {
		more, _ := c.chain(c.textOf([]string{"ab", allBytes}[k%2], 50*(k+1)), 4, 10*(k+1))
		long = append(long, more...)
	}
	slices.Sort(long)
	for _, texts := range [][]string{small, slices.Compact(long)} {
		checkAxioms(t, "DistanceOf", texts, impl.DistanceOf)
		checkAxioms(t, "EditsOf", texts, impl.EditsOf)
	}
}

// A turn does what a drop and a put do, and no step makes a text longer by more than one.
func TestEditsAreBesideDistances(t *testing.T) {
	check := func(a, b string) {
		far, _ := impl.DistanceOf(a, b)
		edits, _ := impl.EditsOf(a, b)
		longer := max(len(a), len(b)) - min(len(a), len(b))
		if edits < longer || edits > max(len(a), len(b)) || edits > far || far > 2*edits || (far-longer)%2 != 0 {
			t.Fatalf("%q and %q are %d apart, and %d with turns", a, b, far, edits)
		}
	}
	eachPair(allTexts("/Aa", 4), check)
	longPairs(check)
}

// Promise 9: what is in common is within both, none is longer, and of as many the least byte counts.
func TestCommonIsTheLeastOfTheLongest(t *testing.T) {
	several := 0
	for _, texts := range [][]string{allTexts("/Aa", 4), allTexts("ab", 6)} {
		within := map[string]map[string]bool{}
		for _, s := range texts {
			within[s] = textsWithin(s)
		}
		eachPair(texts, func(a, b string) {
			want, many := "", 0
			for x := range within[a] {
				if !within[b][x] {
					continue
				}
				if len(x) > len(want) {
					want, many = x, 0
				}
				if len(x) == len(want) {
					want = min(want, x)
					many++
				}
			}
			if got, ok := impl.CommonOf(a, b); got != want || !ok || commonByHand(a, b) != want {
				t.Fatalf("CommonOf(%q, %q) = %q, %v, not %q", a, b, got, ok, want)
			}
			if many > 1 {
				several++
			}
			is, ok := impl.IsWithin(a, b)
			if is != within[b][a] || !ok {
				t.Fatalf("IsWithin(%q, %q) = %v, %v", a, b, is, ok)
			}
		})
	}
	if several < 1000 {
		t.Errorf("there were several longest ones %d times", several)
	}
}

// Promise 9: a text is within another one just where it is all that both have in common.
func TestWithinIsAnOrder(t *testing.T) {
	texts := allTexts("/Aa", 3)
	is := func(a, b string) bool {
		x, _ := impl.IsWithin(a, b)
		return x
	}
	eachPair(texts, func(a, b string) {
		common, _ := impl.CommonOf(a, b)
		if is(a, b) != (common == a) || is(a, b) && is(b, a) != (a == b) {
			t.Fatalf("IsWithin(%q, %q) = %v, both have %q in common", a, b, is(a, b), common)
		}
		for _, c := range texts {
			if is(a, b) && is(b, c) && !is(a, c) {
				t.Fatalf("%q is within %q, that within %q", a, b, c)
			}
		}
	})
}

// Promise 9: the least change is kept, dropped and put in the order that is told.
func TestDiffsAsSaid(t *testing.T) {
	for _, texts := range [][]string{allTexts("/Aa", 4), allTexts("ab", 6)} {
		eachPair(texts, func(a, b string) {
			if !checkDiff(t, a, b) {
				t.Fatalf("there is no least change of %q and %q", a, b)
			}
		})
	}
}

func TestLongTextsAsSaid(t *testing.T) {
	told, not := 0, 0
	longPairs(func(a, b string) {
		if checkTexts(t, a, b) {
			told++
		} else {
			not++
		}
	})
	if told < 50 || not < 50 {
		t.Errorf("%d least changes are good, %d not", told, not)
	}
	for _, s := range append(someDocs(), edgeDocs()...) {
		checkTexts(t, s, s)
		checkTexts(t, s, "")
		checkTexts(t, "", s)
		checkTexts(t, s, s[len(s)/2:]+s[:len(s)/2])
	}
}

// Promise 9: of all changes, byte by byte, that make b of a, none costs less;
// of those that cost as much the one told keeps where it can, then drops.
func TestNoChangeCostsLess(t *testing.T) {
	texts := allTexts("ab", 3)
	// In this order the first least change is the one that keeps soonest, then drops soonest.
	ops := opsOf(6, keep(1), drop("a"), drop("b"), put("a"), put("b"))
	type ends struct{ a, b string }
	least := map[ends][]impl.Part{}
	for _, op := range ops {
		cost, ok := impl.CostOf(op)
		if cost != costByHand(op) || !ok {
			t.Fatalf("CostOf(%v) = %d, %v", op, cost, ok)
		}
		for _, a := range texts {
			b, fits := applyByHand(op, a)
			if !fits {
				continue
			}
			x := ends{a, b}
			if far, _ := impl.DistanceOf(a, b); cost < far {
				t.Fatalf("%v makes %q of %q and costs %d, not %d", op, b, a, cost, far)
			}
			if old, met := least[x]; !met || cost < costByHand(old) {
				least[x] = op
			}
		}
	}
	eachPair(texts, func(a, b string) {
		op, met := least[ends{a, b}]
		far, _ := impl.DistanceOf(a, b)
		if !met || costByHand(op) != far {
			t.Fatalf("DistanceOf(%q, %q) = %d, but the least change is %v", a, b, far, op)
		}
		if got, ok := impl.DiffOps(a, b); !slices.Equal(got, normalByHand(op)) || !ok {
			t.Fatalf("DiffOps(%q, %q) = %v, %v, not %v", a, b, got, ok, normalByHand(op))
		}
	})
}

// Promise 9: changes of long texts cost no less than the texts are apart, alone and put together.
func TestChangesCostNoLessThanDistances(t *testing.T) {
	just, more := 0, 0
	eachChange(func(op []impl.Part, s string) {
		cost, ok := impl.CostOf(op)
		if cost != costByHand(op) || !ok {
			t.Fatalf("CostOf(%v) = %d, %v", op, cost, ok)
		}
		text, _ := impl.ApplyOp(op, s)
		far, _ := impl.DistanceOf(s, text)
		if cost < far {
			t.Fatalf("%v makes %q of %q and costs %d, not %d", op, text, s, cost, far)
		}
		if cost == far {
			just++
		} else {
			more++
		}
	})
	if just < 100 || more < 100 {
		t.Errorf("%d changes were least ones, %d not", just, more)
	}
	c := &chooser{93}
	for k := range 40 {
		texts, ops := c.chain(c.text(200), 2, 2+k%20)
		both, ok := impl.ComposeOps(ops[0], ops[1])
		if !ok {
			continue
		}
		one, _ := impl.CostOf(ops[0])
		two, _ := impl.CostOf(ops[1])
		cost, _ := impl.CostOf(both)
		far, _ := impl.DistanceOf(texts[0], texts[2])
		if cost > one+two || cost < far {
			t.Fatalf("%v costs %d, its parts %d and %d, the texts are %d apart", both, cost, one, two, far)
		}
	}
}

// A change costs the same however its parts are cut, and as much as to take it back.
func TestCostsOfChangesThatAreNotNormal(t *testing.T) {
	for _, x := range []struct {
		op   []impl.Part
		cost int
	}{
		{nil, 0}, {[]impl.Part{}, 0}, {[]impl.Part{keep(1)}, 0}, {[]impl.Part{keep(impl.MaxDoc)}, 0}, {[]impl.Part{keep(3), keep(4)}, 0}, {[]impl.Part{put("a")}, 1}, {[]impl.Part{drop("a")}, 1}, {[]impl.Part{put("abc"), drop("de")}, 5}, {[]impl.Part{keep(7), put("abc"), keep(9), drop("de"), keep(1)}, 5},
		// A put that stands behind a drop, parts of one kind side by side, what is put and dropped alike.
		{[]impl.Part{drop("de"), put("abc")}, 5}, {[]impl.Part{put("a"), put("b"), drop("c"), put("d"), drop("e")}, 5}, {[]impl.Part{put("a"), drop("a")}, 2}, {[]impl.Part{drop("ab"), put("ab"), keep(2)}, 4}, {[]impl.Part{drop("A"), keep(2), keep(1), drop("/")}, 2},
		{[]impl.Part{put(longText(impl.MaxDoc)), drop(longText(impl.MaxDoc))}, 2 * impl.MaxDoc}, {[]impl.Part{put(longText(impl.MaxDoc))}, impl.MaxDoc}, {fence(impl.MaxParts, put("abcde"), drop("abcde")), 5 * impl.MaxParts}, {fence(impl.MaxParts, put("abcde"), put("edcba")), 5 * impl.MaxParts}, {fence(impl.MaxParts, keep(1), put("x")), impl.MaxParts / 2},
	} {
		if cost, ok := impl.CostOf(x.op); cost != x.cost || !ok {
			t.Errorf("CostOf(%v) = %d, %v, not %d", x.op, cost, ok, x.cost)
		}
	}
	eachChange(func(op []impl.Part, s string) {
		n, _ := impl.NormalOp(op)
		back, _ := impl.InvertOp(op)
		for _, x := range [][]impl.Part{n, back} {
			if cost, ok := impl.CostOf(x); cost != costByHand(op) || !ok {
				t.Fatalf("CostOf(%v) = %d, %v, not as %v", x, cost, ok, op)
			}
		}
	})
}

func TestDistancesOneByOne(t *testing.T) {
	full := longText(impl.MaxDoc)
	for _, x := range []struct {
		a, b       string
		far, edits int
	}{
		{"kitten", "sitting", 5, 3}, {"", "", 0, 0}, {"", "abc", 3, 3}, {"abc", "", 3, 3}, {"abc", "abc", 0, 0}, {"a", "b", 2, 1}, {"ab", "ba", 2, 2}, {"abc", "cab", 2, 2}, {"abc", "axc", 2, 1}, {"abcd", "bcde", 2, 2}, {"abcdef", "azced", 5, 3}, {"saturday", "sunday", 4, 3}, {"flaw", "lawn", 2, 2},
		{"abc", "def", 6, 3}, {"abc", "de", 5, 3}, {"ab", "cde", 5, 3}, {"A/", "/A", 2, 2}, {"A/", "B/", 2, 1}, {"a", "A", 2, 1}, {"a a", "aa", 1, 1}, {"aaa", "aa", 1, 1}, {"0.", "0,", 2, 1}, {"/", "a/a", 2, 2},
		{full, "", impl.MaxDoc, impl.MaxDoc}, {full, full, 0, 0}, {full, full[1:], 1, 1}, {full, strings.Repeat("b", impl.MaxDoc), 2 * impl.MaxDoc, impl.MaxDoc}, {strings.Repeat("ab", impl.MaxDoc/2), strings.Repeat("ba", impl.MaxDoc/2), 2, 2}, {full[1:] + "b", "b" + full[1:], 2, 2},
	} {
		if far, ok := impl.DistanceOf(x.a, x.b); far != x.far || !ok {
			t.Errorf("DistanceOf(%q, %q) = %d, %v, not %d", x.a, x.b, far, ok, x.far)
		}
		if edits, ok := impl.EditsOf(x.a, x.b); edits != x.edits || !ok {
			t.Errorf("EditsOf(%q, %q) = %d, %v, not %d", x.a, x.b, edits, ok, x.edits)
		}
		checkTexts(t, x.a, x.b)
		checkTexts(t, x.b, x.a)
	}
}

func TestCommonOneByOne(t *testing.T) {
	full := longText(impl.MaxDoc)
	for _, x := range []struct{ a, b, want string }{
		{"abcb", "bacb", "acb"}, {"", "", ""}, {"", "abc", ""}, {"abc", "", ""}, {"abc", "abc", "abc"}, {"abc", "def", ""}, {"kitten", "sitting", "ittn"}, {"ace", "abcde", "ace"}, {full, full, full}, {full, "a", "a"},
		// Of several the least, whichever text it is first in: by bytes, so `/` is ahead of digits, these of A-F, these of a-z.
		{"ab", "ba", "a"}, {"ba", "ab", "a"}, {"aA", "Aa", "A"}, {"A/", "/A", "/"}, {"a0", "0a", "0"}, {"0A", "A0", "0"}, {"/0", "0/", "/"}, {" ,./0", "0/., ", " "}, {",.", ".,", ","}, {"zy", "yz", "y"}, {"abc", "cba", "a"}, {"xyab", "abxy", "ab"}, {"bxay", "axby", "ay"}, {"abab", "baba", "aba"}, {"CAF", "CFA", "CA"},
		// A lesser byte at first that leaves less than the longest is not taken; nor one whose first place is too late.
		{"bca", "abc", "bc"}, {"bcda", "abcd", "bcd"}, {"cdab", "acdb", "cdb"}, {"bab", "abb", "ab"}, {"baab", "abab", "aab"}, {"cabca", "acbca", "abca"},
		// The least is not the one that is met first from the end or from the beginning.
		{"acbd", "cadb", "ab"}, {"bdac", "dbca", "ba"}, {"dbca", "bdac", "ba"},
	} {
		if got, ok := impl.CommonOf(x.a, x.b); got != x.want || !ok {
			t.Errorf("CommonOf(%q, %q) = %q, %v, not %q", x.a, x.b, got, ok, x.want)
		}
		if got, ok := impl.CommonOf(x.b, x.a); got != x.want || !ok {
			t.Errorf("CommonOf(%q, %q) = %q, %v, not %q", x.b, x.a, got, ok, x.want)
		}
		checkTexts(t, x.a, x.b)
	}
}

func TestDiffsOneByOne(t *testing.T) {
	full, other := longText(impl.MaxDoc), strings.Repeat("b", impl.MaxDoc)
	for _, x := range []struct {
		a, b string
		op   []impl.Part
	}{
		{"abc", "axc", []impl.Part{keep(1), put("x"), drop("b"), keep(1)}}, {"", "", nil}, {"", "abc", []impl.Part{put("abc")}}, {"abc", "", []impl.Part{drop("abc")}}, {"abc", "abc", []impl.Part{keep(3)}}, {"abc", "de", []impl.Part{put("de"), drop("abc")}}, {full, full, []impl.Part{keep(impl.MaxDoc)}}, {full, other, []impl.Part{put(other), drop(full)}}, {full, "", []impl.Part{drop(full)}}, {"", full, []impl.Part{put(full)}},
		// Where a drop and a put would both do it drops; where a drop would not it puts.
		{"ab", "ba", []impl.Part{drop("a"), keep(1), put("a")}}, {"ba", "ab", []impl.Part{drop("b"), keep(1), put("b")}}, {"abcd", "bcda", []impl.Part{drop("a"), keep(3), put("a")}}, {"abcd", "dabc", []impl.Part{put("d"), keep(3), drop("d")}}, {"xyab", "abxy", []impl.Part{drop("xy"), keep(2), put("xy")}}, {"abc", "cba", []impl.Part{drop("ab"), keep(1), put("ba")}},
		// What is the same is kept at once, also where a later one would do.
		{"aa", "a", []impl.Part{keep(1), drop("a")}}, {"a", "aa", []impl.Part{keep(1), put("a")}}, {"aab", "ab", []impl.Part{keep(1), drop("a"), keep(1)}}, {"ab", "aab", []impl.Part{keep(1), put("a"), keep(1)}}, {"aba", "a", []impl.Part{keep(1), drop("ba")}}, {"abab", "ab", []impl.Part{keep(2), drop("ab")}}, {"ab", "abab", []impl.Part{keep(2), put("ab")}}, {"A/A/", "A/", []impl.Part{keep(2), drop("A/")}},
		{"kitten", "sitting", []impl.Part{put("s"), drop("k"), keep(3), put("i"), drop("e"), keep(1), put("g")}}, {"Aab/", "Aa/Ab/", []impl.Part{keep(2), put("/A"), keep(2)}},
	} {
		if got, ok := impl.DiffOps(x.a, x.b); !slices.Equal(got, x.op) || !ok {
			t.Errorf("DiffOps(%q, %q) = %v, %v, not %v", x.a, x.b, got, ok, x.op)
		}
		checkTexts(t, x.a, x.b)
	}
}

func TestWithinOneByOne(t *testing.T) {
	full := longText(impl.MaxDoc)
	for _, x := range []struct {
		a, b string
		is   bool
	}{
		{"ace", "abcde", true}, {"", "", true}, {"", "a", true}, {"a", "", false}, {"abc", "abc", true}, {"abc", "ab", false}, {"ba", "ab", false}, {"aa", "a", false}, {"aa", "aba", true}, {"aab", "aba", false}, {"a", "A", false}, {"A/", "AB//", true}, {"//A", "A//", false}, {"c", "ab", false}, {"ab", "aab", true}, {"abb", "aab", false},
		{full, full, true}, {full[1:], full, true}, {full, full[1:], false}, {"", full, true}, {full, "", false}, {"b", full[1:] + "b", true}, {"ba", full[1:] + "b", false}, {full[1:] + "b", full[1:] + "b", true},
	} {
		if is, ok := impl.IsWithin(x.a, x.b); is != x.is || !ok {
			t.Errorf("IsWithin(%q, %q) = %v, %v, not %v", x.a, x.b, is, ok, x.is)
		}
		checkTexts(t, x.a, x.b)
	}
}

// Chapter 9: a least change of MaxParts parts, and of one more, which is not good.
func TestLimitOfPartsOfDiffs(t *testing.T) {
	all := impl.MaxParts
	rows := func(s string, n int) string { return strings.Repeat(s, n) }
	for _, x := range []struct {
		a, b  string
		parts int
	}{
		{rows("a", all/2), rows("xa", all/2), all}, {rows("a", all/2), rows("xa", all/2) + "x", all + 1}, {rows("xa", all/2), rows("a", all/2), all}, {rows("xa", all/2) + "x", rows("a", all/2), all + 1}, {rows("a", all/2), rows("ax", all/2), all}, {rows("a", all/2+1), rows("ax", all/2) + "a", all + 1}, {rows("ax", all/2) + "a", rows("a", all/2+1), all + 1},
		{rows("ya", all/3), rows("xa", all/3), all}, {rows("ya", all/3), rows("xa", all/3) + "x", all + 1}, {rows("ya", all/3) + "y", rows("xa", all/3), all + 1}, {rows("ya", all/3) + "y", rows("xa", all/3) + "x", all + 2}, {"a" + rows("ya", all/3), "a" + rows("xa", all/3), all + 1},
		// As long as texts may be, with as many parts as can be.
		{rows("a", impl.MaxDoc/2), rows("ax", impl.MaxDoc/2), impl.MaxDoc}, {rows("ya", impl.MaxDoc/2), rows("xa", impl.MaxDoc/2), 3 * impl.MaxDoc / 2}, {rows("a", impl.MaxDoc-all/2) + rows("b", all/4), rows("a", impl.MaxDoc-all/2) + rows("xb", all/4), all/2 + 1},
	} {
		if n := len(diffByHand(x.a, x.b)); n != x.parts {
			t.Fatalf("the least change of %q and %q has %d parts, not %d", x.a, x.b, n, x.parts)
		}
		op, ok := impl.DiffOps(x.a, x.b)
		if ok != (x.parts <= all) || ok && len(op) != x.parts || !ok && op != nil {
			t.Errorf("DiffOps of %d parts = %v, %v", x.parts, op, ok)
		}
		// What is no change is apart all the same.
		checkTexts(t, x.a, x.b)
	}
}

// Promise 20: texts that are not good, on either side and on both.
func TestWrongTextsAreNotApart(t *testing.T) {
	full := longText(impl.MaxDoc)
	for _, s := range append(notTexts(), full+"a", full+"/", "\xc3\xa4", full+full) {
		for _, good := range []string{"", "a", "A/", "/", full} {
			zeroOfTexts(t, s, good)
			zeroOfTexts(t, good, s)
		}
		zeroOfTexts(t, s, s)
		zeroOfTexts(t, s, "-")
		zeroOfTexts(t, full+"a", s)
	}
	for c := range 256 {
		s := string([]byte{byte(c)})
		for _, other := range []string{"", "a", s} {
			checkTexts(t, s, other)
			checkTexts(t, other, s)
		}
	}
}

// Promise 20: changes that are not good.
func TestWrongChangesCostNothing(t *testing.T) {
	for number, op := range notOps() {
		if cost, ok := impl.CostOf(op); cost != 0 || ok {
			t.Errorf("CostOf of the change %d that is not good = %d, %v", number, cost, ok)
		}
	}
}

// Promise 20: the answers share no memory with what was handed in, nor with each other.
func TestDiffsAreNewMemory(t *testing.T) {
	long := strings.Repeat("ab", 30)
	other := strings.Repeat("cd", 40)
	for _, x := range []struct{ a, b string }{{long, long}, {long, long + "c"}, {"c" + long, long}, {long, ""}, {"", long}, {long, other}, {long + other, other + long}, {other + long, long}} {
		a, b := strings.Clone(x.a), strings.Clone(x.b)
		if x.a == x.b {
			b = a
		}
		common, ok := impl.CommonOf(a, b)
		op, ok2 := impl.DiffOps(a, b)
		again, _ := impl.DiffOps(a, b)
		if !ok || !ok2 {
			t.Fatalf("%q and %q are not answered", a, b)
		}
		if shareText(common, a) || shareText(common, b) {
			t.Errorf("CommonOf(%q, %q) lies in the memory of what was handed in", a, b)
		}
		for _, p := range op {
			if text := p.Put + p.Drop; shareText(text, a) || shareText(text, b) {
				t.Errorf("%q of DiffOps(%q, %q) lies in the memory of what was handed in", text, a, b)
			}
		}
		before := slices.Clone(again)
		clear(op[:cap(op)])
		if third, _ := impl.DiffOps(a, b); !slices.Equal(again, before) || !slices.Equal(third, before) {
			t.Errorf("DiffOps(%q, %q), asked again, = %v, not %v", a, b, third, before)
		}
	}
}

// Promise 20: nothing is written into an argument, nor read behind its length.
func TestCostedChangesStayAsTheyWere(t *testing.T) {
	behind := impl.Part{Keep: 1, Put: "behind", Drop: "behind"}
	for number, op := range append(append(smallOps(3), edgeOps()...), notOps()...) {
		long := append(slices.Clone(op), behind, put("x"))
		before := slices.Clone(long)
		want := 0
		if opIsGood(op) {
			want = costByHand(op)
		}
		if cost, ok := impl.CostOf(long[:len(op)]); cost != want || ok != opIsGood(op) {
			t.Errorf("CostOf of the change %d = %d, %v, not %d", number, cost, ok, want)
		}
		if !slices.Equal(long, before) {
			t.Errorf("the change %d was changed", number)
		}
	}
	// Texts that are cut out of a longer one end where they end.
	whole := []byte("-abcabc-bcabca-")
	s := string(whole)
	checkTexts(t, s[1:7], s[8:14])
	checkTexts(t, s[1:1], s[8:14])
	checkTexts(t, s[1:7], s[14:14])
	if s != string(whole) {
		t.Errorf("the texts were changed: %q", s)
	}
}

// Texts of MaxDoc bytes are answered in a moment, whatever they are.
func TestLongestTextsInAMoment(t *testing.T) {
	c := &chooser{94}
	half := impl.MaxDoc / 2
	for _, x := range []struct{ a, b string }{
		{longText(impl.MaxDoc), longText(impl.MaxDoc)}, {longText(impl.MaxDoc), strings.Repeat("b", impl.MaxDoc)}, {strings.Repeat("ab", half), strings.Repeat("ba", half)}, {longText(half) + strings.Repeat("b", half), strings.Repeat("b", half) + longText(half)}, {c.textOf("ab", impl.MaxDoc), c.textOf("ab", impl.MaxDoc)}, {c.textOf(allBytes, impl.MaxDoc), c.textOf(allBytes, impl.MaxDoc)}, {c.textOf("zy", impl.MaxDoc), c.textOf("yx", impl.MaxDoc)},
	} {
		start := time.Now()
		for range 5 {
			impl.DistanceOf(x.a, x.b)
			impl.EditsOf(x.a, x.b)
			impl.CommonOf(x.a, x.b)
			impl.DiffOps(x.a, x.b)
			impl.IsWithin(x.a, x.b)
		}
		if took := time.Since(start); took > 3*time.Second {
			t.Errorf("%.20q and %.20q took %v", x.a, x.b, took)
		}
		checkTexts(t, x.a, x.b)
	}
}

// FuzzDiffs: no argument makes one of the six functions panic, or tell another thing than the document says.
func FuzzDiffs(f *testing.F) {
	f.Add("kitten", "sitting", 1, "", "", 0, "x", "")
	f.Add("abcb", "bacb", 0, "ab", "", 0, "", "ab")
	f.Add(longText(300), "\xff", -1, "a", "b", 301, "-", "")
	f.Fuzz(func(t *testing.T, a, b string, k1 int, p1, d1 string, k2 int, p2, d2 string) {
		checkTexts(t, a, b)
		checkTexts(t, b, a)
		for _, op := range opsOf(3, impl.Part{Keep: k1, Put: p1, Drop: d1}, impl.Part{Keep: k2, Put: p2, Drop: d2}) {
			want, good := 0, opIsGood(op)
			if good {
				want = costByHand(op)
			}
			if cost, ok := impl.CostOf(op); cost != want || ok != good {
				t.Errorf("CostOf(%v) = %d, %v, not %d, %v", op, cost, ok, want, good)
			}
			text, fits := applyByHand(op, a)
			if far, _ := impl.DistanceOf(a, text); fits && far > want {
				t.Errorf("%v makes %q of %q, which are %d apart", op, text, a, far)
			}
		}
	})
}
