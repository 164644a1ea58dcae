package tests

import (
	"slices"
	"strings"
	"testing"
	"time"

	"loop.example/g00253/impl"
)

// swap is a text, what is looked for in it, and what is to stand in its place.
type swap struct{ s, p, with string }

// borderByHand tries each length from the longest on.
func borderByHand(p string) int {
	n := len(p) - 1
	for !strings.HasPrefix(p, p[len(p)-n:]) {
		n--
	}
	return n
}

func bordersByHand(p string) []int {
	var out []int
	for k := range len(p) {
		out = append(out, borderByHand(p[:k+1]))
	}
	return out
}

func foundByHand(p, s string) []int {
	var out []int
	for at := range len(s) {
		if strings.HasPrefix(s[at:], p) {
			out = append(out, at)
		}
	}
	return out
}

// looksByHand is the document's own reckoning, word by word.
func looksByHand(p, s string) int {
	n, looks := 0, 0
	for i := range len(s) {
		for n > 0 && s[i] != p[n] {
			n = borderByHand(p[:n])
			looks++
		}
		looks++
		if s[i] == p[n] {
			n++
		}
		if n == len(p) {
			n = borderByHand(p)
		}
	}
	return looks
}

// leastPeriod is the least number of bytes by which p can be moved so that it
// stands on itself.
func leastPeriod(p string) int {
	for n := 1; ; n++ {
		if p[n:] == p[:len(p)-n] {
			return n
		}
	}
}

// replaceByHand goes from left to right: the text, how often, and each byte and
// each p as a part of its own.
func replaceByHand(x swap) (string, int, []impl.Part) {
	text, n := "", 0
	var op []impl.Part
	for s := x.s; s != ""; {
		if rest, is := strings.CutPrefix(s, x.p); is {
			text += x.with
			op = append(op, put(x.with), drop(x.p))
			s = rest
			n++
			continue
		}
		text += s[:1]
		op = append(op, keep(1))
		s = s[1:]
	}
	return text, n, op
}

// replaceOpByHand is of a text that is good; the change need not be.
func replaceOpByHand(x swap) []impl.Part {
	if x.with == x.p {
		return normalByHand(slices.Repeat([]impl.Part{keep(1)}, len(x.s)))
	}
	_, _, op := replaceByHand(x)
	return normalByHand(op)
}

func zeroOfSought(t *testing.T, p string) {
	t.Helper()
	if l, ok := impl.BordersOf(p); len(l) != 0 || ok {
		t.Errorf("BordersOf(%.40q) = %v, %v", p, l, ok)
	}
	if n, ok := impl.PeriodOf(p); n != 0 || ok {
		t.Errorf("PeriodOf(%.40q) = %d, %v", p, n, ok)
	}
}

func zeroOfSearch(t *testing.T, p, s string) {
	t.Helper()
	if l, ok := impl.FindAll(p, s); len(l) != 0 || ok {
		t.Errorf("FindAll(%.40q, %.40q) = %v, %v", p, s, l, ok)
	}
	if n, ok := impl.StepsOf(p, s); n != 0 || ok {
		t.Errorf("StepsOf(%.40q, %.40q) = %d, %v", p, s, n, ok)
	}
}

func zeroOfSwap(t *testing.T, x swap) {
	t.Helper()
	if text, n, ok := impl.ReplaceAll(x.s, x.p, x.with); text != "" || n != 0 || ok {
		t.Errorf("ReplaceAll(%.40q, %.40q, %.40q) = %.40q, %d, %v", x.s, x.p, x.with, text, n, ok)
	}
	if op, ok := impl.ReplaceOp(x.s, x.p, x.with); len(op) != 0 || ok {
		t.Errorf("ReplaceOp(%.40q, %.40q, %.40q) = %v, %v", x.s, x.p, x.with, op, ok)
	}
}

// checkSought holds what is told of p alone against what is reckoned by hand.
func checkSought(t *testing.T, p string) {
	t.Helper()
	if p == "" || !textIsGood(p) {
		zeroOfSought(t, p)
		return
	}
	want := bordersByHand(p)
	l, ok := impl.BordersOf(p)
	if !slices.Equal(l, want) || !ok {
		t.Fatalf("BordersOf(%q) = %v, %v, not %v", p, l, ok, want)
	}
	period, ok := impl.PeriodOf(p)
	if period != len(p)-l[len(p)-1] || period != leastPeriod(p) || !ok {
		t.Fatalf("PeriodOf(%q) = %d, %v, not %d, though its borders are %v", p, period, ok, leastPeriod(p), l)
	}
	for i := period; i < len(p); i++ {
		if p[i] != p[i-period] {
			t.Fatalf("PeriodOf(%q) = %d, with which it does not go on at %d", p, period, i)
		}
	}
}

// checkSearch holds what is told of p and s against what is reckoned by hand,
// and tells at how many places p stands.
func checkSearch(t *testing.T, p, s string) int {
	t.Helper()
	if p == "" || !textIsGood(p) || !textIsGood(s) {
		zeroOfSearch(t, p, s)
		return 0
	}
	want := foundByHand(p, s)
	l, ok := impl.FindAll(p, s)
	if !slices.Equal(l, want) || !ok {
		t.Fatalf("FindAll(%q, %q) = %v, %v, not %v", p, s, l, ok, want)
	}
	if len(l) > impl.MaxFound {
		t.Fatalf("FindAll(%q, %q) has %d places", p, s, len(l))
	}
	looks, ok := impl.StepsOf(p, s)
	if told := looksByHand(p, s); looks != told || !ok {
		t.Fatalf("StepsOf(%q, %q) = %d, %v, not %d", p, s, looks, ok, told)
	}
	if looks < len(s) || looks > 2*len(s) {
		t.Fatalf("StepsOf(%q, %q) = %d, though there are %d bytes", p, s, looks, len(s))
	}
	return len(l)
}

// checkSwap holds what is told of a swap against what is reckoned by hand, and
// tells whether there is a text, and whether there is a change.
func checkSwap(t *testing.T, x swap) (bool, bool) {
	t.Helper()
	if x.p == "" || !textIsGood(x.s) || !textIsGood(x.p) || !textIsGood(x.with) {
		zeroOfSwap(t, x)
		return false, false
	}
	want, often, _ := replaceByHand(x)
	if want != strings.ReplaceAll(x.s, x.p, x.with) || often != strings.Count(x.s, x.p) {
		t.Fatalf("%q is reckoned wrongly by hand: %q, %d", x, want, often)
	}
	if !textIsGood(want) {
		zeroOfSwap(t, x)
		return false, false
	}
	text, n, ok := impl.ReplaceAll(x.s, x.p, x.with)
	if text != want || n != often || !ok {
		t.Fatalf("ReplaceAll(%q, %q, %q) = %q, %d, %v, not %q, %d", x.s, x.p, x.with, text, n, ok, want, often)
	}
	if len(text)-len(x.s) != n*(len(x.with)-len(x.p)) {
		t.Fatalf("ReplaceAll(%q, %q, %q) = %q, %d, which is too long or too short", x.s, x.p, x.with, text, n)
	}
	return true, checkSwapOp(t, x, text)
}

// checkSwapOp is of a swap that has a text.
func checkSwapOp(t *testing.T, x swap, text string) bool {
	t.Helper()
	want := replaceOpByHand(x)
	can := opIsGood(want)
	if !can {
		want = nil
	}
	op, ok := impl.ReplaceOp(x.s, x.p, x.with)
	if !slices.Equal(op, want) || ok != can {
		t.Fatalf("ReplaceOp(%q, %q, %q) = %v, %v, not %v, %v", x.s, x.p, x.with, op, ok, want, can)
	}
	if !can {
		return false
	}
	if !isNormal(op) || !impl.GoodOp(op) {
		t.Fatalf("ReplaceOp(%q, %q, %q) = %v, which is not normal or not good", x.s, x.p, x.with, op)
	}
	if made, fits := impl.ApplyOp(op, x.s); made != text || !fits {
		t.Fatalf("ReplaceOp(%q, %q, %q) = %v, which makes %q, %v, not %q", x.s, x.p, x.with, op, made, fits, text)
	}
	all, _ := impl.KeepAll(len(x.s))
	if x.with == x.p && !slices.Equal(op, all) {
		t.Fatalf("ReplaceOp(%q, %q, %q) = %v, which does not keep all", x.s, x.p, x.with, op)
	}
	return true
}

// knotted are texts of MaxDoc bytes with many borders, that fall back far.
func knotted() []string {
	a, b := "a", "ab"
	for len(b) < impl.MaxDoc {
		a, b = b, b+a
	}
	ruler := "a"
	for c := byte('b'); len(ruler) < impl.MaxDoc; c++ {
		ruler += string([]byte{c}) + ruler
	}
	full, half := longText(impl.MaxDoc), longText(impl.MaxDoc/2)
	return []string{
		b[:impl.MaxDoc], ruler[:impl.MaxDoc], full, full[1:] + "b", "b" + full[1:], half + "b" + half[1:],
		strings.Repeat("ab", impl.MaxDoc/2), strings.Repeat("aab", impl.MaxDoc/3), strings.Repeat("aabaaac", impl.MaxDoc/7), strings.Repeat("A/", impl.MaxDoc/2),
	}
}

// Promise 11: of all small texts each place is told at which p stands, and no
// other one, with just the looks that the document reckons.
func TestFoundIsJustWhereItStands(t *testing.T) {
	none, overlap := 0, 0
	for _, x := range []struct {
		alphabet string
		p, s     int
	}{{"/Aa", 4, 6}, {"ab", 6, 9}} {
		texts := allTexts(x.alphabet, x.s)
		for _, p := range allTexts(x.alphabet, x.p)[1:] {
			for _, s := range texts {
				n := checkSearch(t, p, s)
				if n == 0 {
					none++
				} else if n > strings.Count(s, p) {
					overlap++
				}
			}
		}
	}
	if none < 10000 || overlap < 1000 {
		t.Errorf("%d are found nowhere, %d overlap", none, overlap)
	}
}

// Promise 11: of all small texts the borders and the period.
func TestBordersAreTheLongest(t *testing.T) {
	for _, p := range append(allTexts("/Aa", 7), allTexts("ab", 12)...) {
		checkSought(t, p)
	}
	for _, p := range knotted() {
		for k := 1; k <= len(p); k += 13 {
			checkSought(t, p[:k])
			checkSought(t, p[len(p)-k:])
		}
	}
}

// Promise 11: the borders of a beginning are the beginning of the borders.
func TestBordersOfBeginnings(t *testing.T) {
	c := &chooser{111}
	texts := append(knotted(), c.textOf("ab", impl.MaxDoc), c.textOf("A/b", 200), c.textOf(allBytes, 100))
	for _, p := range texts {
		all, _ := impl.BordersOf(p)
		for k := 1; k <= len(p); k++ {
			if l, ok := impl.BordersOf(p[:k]); !slices.Equal(l, all[:k]) || !ok {
				t.Fatalf("BordersOf(%q) = %v, %v, not %v", p[:k], l, ok, all[:k])
			}
		}
	}
}

// Promise 11: texts up to MaxDoc bytes, with p out of them, nearly out of them, and of its own.
func TestSearchesInLongTexts(t *testing.T) {
	c := &chooser{112}
	texts := knotted()
	for k := range 150 {
		alphabet := []string{"ab", "A/b", "zyx .,0", allBytes}[k%4]
		texts = append(texts, c.textOf(alphabet, c.next(impl.MaxDoc+1)))
	}
	most := 0
	for k, s := range texts {
		if s == "" {
			continue
		}
		for range 8 {
			from := c.next(len(s))
			p := s[from : from+1+c.next(min(len(s)-from, 1+k%40))]
			if checkSearch(t, p, s) == 0 {
				t.Fatalf("%q is not found in %q", p, s)
			}
			checkSearch(t, p+c.textOf("ab", 1), s)
			checkSearch(t, c.textOf("ab", 1+c.next(9)), s)
			checkSought(t, p)
			looks, _ := impl.StepsOf(p, s)
			most = max(most, 100*looks/len(s))
		}
		checkSearch(t, s, s)
		checkSearch(t, s, texts[c.next(len(texts))])
	}
	if most < 150 || most > 200 {
		t.Errorf("at most %d looks are needed for 100 bytes", most)
	}
}

// Promise 11: of all small texts what is replaced, and the change that does so.
func TestReplacedAsSaid(t *testing.T) {
	for _, x := range []struct {
		alphabet   string
		s, p, with int
	}{{"/Aa", 5, 3, 2}, {"ab", 8, 4, 2}} {
		puts := append(allTexts(x.alphabet, x.with), "x", "ab")
		for _, s := range allTexts(x.alphabet, x.s) {
			for _, p := range allTexts(x.alphabet, x.p)[1:] {
				for _, with := range append(puts, p, p+p, "x"+p) {
					if text, op := checkSwap(t, swap{s, p, with}); !text || !op {
						t.Fatalf("%q, %q, %q has no text or no change", s, p, with)
					}
				}
			}
		}
	}
}

func TestReplacedInLongTexts(t *testing.T) {
	c := &chooser{113}
	var met [3]int
	for k := range 400 {
		alphabet := []string{"ab", "A/b", "zyx .,0", allBytes}[k%4]
		s := c.textOf(alphabet, c.next(impl.MaxDoc+1))
		p := c.textOf(alphabet, 1+c.next(3))
		if s != "" && c.next(3) == 0 {
			from := c.next(len(s))
			p = s[from : from+1+c.next(len(s)-from)]
		}
		for _, with := range []string{"", p, c.textOf(alphabet, c.next(4)), c.textOf(allBytes, c.next(40)), p + p} {
			switch text, op := checkSwap(t, swap{s, p, with}); {
			case op:
				met[0]++
			case text:
				met[1]++
			default:
				met[2]++
			}
		}
	}
	if slices.Min(met[:]) < 50 {
		t.Errorf("a change, a text alone, neither: %v", met)
	}
	for _, s := range append(someDocs(), edgeDocs()...) {
		for _, p := range []string{"A", "/", "a", "A/", "aa", " "} {
			checkSwap(t, swap{s, p, ""})
			checkSwap(t, swap{s, p, "Bb/"})
		}
	}
}

func TestBordersOneByOne(t *testing.T) {
	for _, x := range []struct {
		p       string
		borders []int
		period  int
	}{
		{"a", []int{0}, 1}, {"aa", []int{0, 1}, 1}, {"ab", []int{0, 0}, 2}, {"aba", []int{0, 0, 1}, 2}, {"abaab", []int{0, 0, 1, 1, 2}, 3}, {"ababaca", []int{0, 0, 1, 2, 3, 0, 1}, 6}, {"aaaa", []int{0, 1, 2, 3}, 1}, {"aaab", []int{0, 1, 2, 0}, 4}, {"abcabc", []int{0, 0, 0, 1, 2, 3}, 3}, {"abcabca", []int{0, 0, 0, 1, 2, 3, 4}, 3},
		// A border falls back once, twice, and then goes on or is none.
		{"aabaaa", []int{0, 1, 0, 1, 2, 2}, 4}, {"aabaaab", []int{0, 1, 0, 1, 2, 2, 3}, 4}, {"abaabaa", []int{0, 0, 1, 1, 2, 3, 4}, 3}, {"abacabab", []int{0, 0, 1, 0, 1, 2, 3, 2}, 6}, {"abacabac", []int{0, 0, 1, 0, 1, 2, 3, 4}, 4}, {"abacabad", []int{0, 0, 1, 0, 1, 2, 3, 0}, 8}, {"aabaabaaa", []int{0, 1, 0, 1, 2, 3, 4, 5, 2}, 7},
		{"A/A/", []int{0, 0, 1, 2}, 2}, {"aA", []int{0, 0}, 2}, {" . ", []int{0, 0, 1}, 2}, {"/", []int{0}, 1},
	} {
		if l, ok := impl.BordersOf(x.p); !slices.Equal(l, x.borders) || !ok {
			t.Errorf("BordersOf(%q) = %v, %v, not %v", x.p, l, ok, x.borders)
		}
		if n, ok := impl.PeriodOf(x.p); n != x.period || !ok {
			t.Errorf("PeriodOf(%q) = %d, %v, not %d", x.p, n, ok, x.period)
		}
		checkSought(t, x.p)
	}
}

func TestSearchesOneByOne(t *testing.T) {
	full := longText(impl.MaxDoc)
	for _, x := range []struct {
		p, s  string
		found []int
		looks int
	}{
		{"aba", "ababa", []int{0, 2}, 5}, {"ab", "aab", []int{1}, 4}, {"a", "a", []int{0}, 1}, {"a", "b", nil, 1}, {"a", "banana", []int{1, 3, 5}, 6}, {"ana", "banana", []int{1, 3}, 6}, {"abc", "abababc", []int{4}, 9},
		// s empty, p as long as s, longer than it, s itself.
		{"a", "", nil, 0}, {"abc", "", nil, 0}, {full, "", nil, 0}, {"ab", "ba", nil, 2}, {"ab", "ab", []int{0}, 2}, {"abc", "ab", nil, 2}, {"aab", "aaa", nil, 4}, {full, full, []int{0}, impl.MaxDoc}, {full, full[1:], nil, impl.MaxDoc - 1},
		// At the beginning, at the end, found nowhere.
		{"ab", "abcc", []int{0}, 4}, {"ab", "ccab", []int{2}, 4}, {"ab", "cccc", nil, 4}, {"ab", "acac", nil, 6}, {"aab", "aaaa", nil, 6}, {"A", "a", nil, 1}, {"A/", "AA//", []int{1}, 5}, {".", "a.b.", []int{1, 3}, 4}, {" ", "a b", []int{1}, 3},
		// One byte that falls back more than once.
		{"aab", "aac", nil, 5}, {"aaab", "aaac", nil, 7}, {"abab", "abac", nil, 6}, {"abacabad", "abacabacabad", []int{4}, 13},
	} {
		if l, ok := impl.FindAll(x.p, x.s); !slices.Equal(l, x.found) || !ok {
			t.Errorf("FindAll(%q, %q) = %v, %v, not %v", x.p, x.s, l, ok, x.found)
		}
		if n, ok := impl.StepsOf(x.p, x.s); n != x.looks || !ok {
			t.Errorf("StepsOf(%q, %q) = %d, %v, not %d", x.p, x.s, n, ok, x.looks)
		}
		checkSearch(t, x.p, x.s)
		checkSought(t, x.p)
	}
}

// Chapter 11: one byte over and over stands at all places at which it has room.
func TestPlacesThatAllOverlap(t *testing.T) {
	for n := 0; n <= impl.MaxDoc; n += 20 {
		s := longText(n)
		for _, k := range []int{1, 2, 3, 20, 150, impl.MaxDoc} {
			l, ok := impl.FindAll(longText(k), s)
			if len(l) != max(0, n-k+1) || !ok {
				t.Fatalf("%d bytes are found %d times in %d, %v", k, len(l), n, ok)
			}
			for i, at := range l {
				if at != i {
					t.Fatalf("%d bytes are found in %d at %v", k, n, l)
				}
			}
			if looks, ok := impl.StepsOf(longText(k), s); looks != n || !ok {
				t.Fatalf("%d bytes are found in %d with %d looks, %v", k, n, looks, ok)
			}
			checkSearch(t, longText(k), s)
			checkSwap(t, swap{s, longText(k), "b"})
			checkSwap(t, swap{s, longText(k), ""})
		}
	}
}

func TestSwapsOneByOne(t *testing.T) {
	full, other := longText(impl.MaxDoc), strings.Repeat("b", impl.MaxDoc)
	for _, x := range []struct {
		swap
		text string
		n    int
		op   []impl.Part
	}{
		{swap{"ababa", "aba", "x"}, "xba", 1, []impl.Part{put("x"), drop("aba"), keep(2)}}, {swap{"banana", "an", "x"}, "bxxa", 2, []impl.Part{keep(1), put("xx"), drop("anan"), keep(1)}}, {swap{"banana", "a", "oo"}, "boonoonoo", 3, []impl.Part{keep(1), put("oo"), drop("a"), keep(1), put("oo"), drop("a"), keep(1), put("oo"), drop("a")}},
		// What overlaps one that was replaced stays, and what overlaps that one alone goes.
		{swap{"abababa", "aba", "x"}, "xbx", 2, []impl.Part{put("x"), drop("aba"), keep(1), put("x"), drop("aba")}}, {swap{"aaaa", "aa", "x"}, "xx", 2, []impl.Part{put("xx"), drop("aaaa")}}, {swap{"aaaaa", "aa", "x"}, "xxa", 2, []impl.Part{put("xx"), drop("aaaa"), keep(1)}}, {swap{"aaaaaaa", "aaa", "b"}, "bba", 2, []impl.Part{put("bb"), drop("aaaaaa"), keep(1)}},
		// s empty, p longer than s, p that is s, p found nowhere.
		{swap{"", "a", "b"}, "", 0, nil}, {swap{"", "a", ""}, "", 0, nil}, {swap{"", "a", "a"}, "", 0, nil}, {swap{"a", "aa", "b"}, "a", 0, []impl.Part{keep(1)}}, {swap{"abc", "abc", "x"}, "x", 1, []impl.Part{put("x"), drop("abc")}}, {swap{"abc", "abc", ""}, "", 1, []impl.Part{drop("abc")}}, {swap{"abc", "d", "x"}, "abc", 0, []impl.Part{keep(3)}}, {swap{"abc", "d", ""}, "abc", 0, []impl.Part{keep(3)}}, {swap{"abc", "A", full}, "abc", 0, []impl.Part{keep(3)}},
		// with empty: what comes together is not looked at again.
		{swap{"aabb", "ab", ""}, "ab", 1, []impl.Part{keep(1), drop("ab"), keep(1)}}, {swap{"abab", "ab", ""}, "", 2, []impl.Part{drop("abab")}}, {swap{"abcab", "ab", ""}, "c", 2, []impl.Part{drop("ab"), keep(1), drop("ab")}},
		// with that holds p is not looked at, nor what it makes with what follows.
		{swap{"a", "a", "aa"}, "aa", 1, []impl.Part{put("aa"), drop("a")}}, {swap{"aba", "a", "bab"}, "babbbab", 2, []impl.Part{put("bab"), drop("a"), keep(1), put("bab"), drop("a")}}, {swap{"abb", "ab", "a"}, "ab", 1, []impl.Part{put("a"), drop("ab"), keep(1)}}, {swap{"aab", "ab", "b"}, "ab", 1, []impl.Part{keep(1), put("b"), drop("ab")}}, {swap{"ab", "ab", "xaby"}, "xaby", 1, []impl.Part{put("xaby"), drop("ab")}},
		// with that is p keeps all, with what is found all the same.
		{swap{"abab", "ab", "ab"}, "abab", 2, []impl.Part{keep(4)}}, {swap{"aaa", "aa", "aa"}, "aaa", 1, []impl.Part{keep(3)}}, {swap{"c", "ab", "ab"}, "c", 0, []impl.Part{keep(1)}}, {swap{full, "a", "a"}, full, impl.MaxDoc, []impl.Part{keep(impl.MaxDoc)}}, {swap{full, full, full}, full, 1, []impl.Part{keep(impl.MaxDoc)}},
		// Bytes that p and with have in common are dropped and put as all others.
		{swap{"xabcx", "abc", "abd"}, "xabdx", 1, []impl.Part{keep(1), put("abd"), drop("abc"), keep(1)}}, {swap{"ab", "ab", "a"}, "a", 1, []impl.Part{put("a"), drop("ab")}}, {swap{"Aa/Ba/", "a/", "/"}, "A/B/", 2, []impl.Part{keep(1), put("/"), drop("a/"), keep(1), put("/"), drop("a/")}}, {swap{"aA", "A", "a"}, "aa", 1, []impl.Part{keep(1), put("a"), drop("A")}},
		{swap{full, "a", "b"}, other, impl.MaxDoc, []impl.Part{put(other), drop(full)}}, {swap{full, "a", ""}, "", impl.MaxDoc, []impl.Part{drop(full)}}, {swap{full, full, other}, other, 1, []impl.Part{put(other), drop(full)}}, {swap{"a", "a", full}, full, 1, []impl.Part{put(full), drop("a")}},
	} {
		if text, n, ok := impl.ReplaceAll(x.s, x.p, x.with); text != x.text || n != x.n || !ok {
			t.Errorf("ReplaceAll(%q, %q, %q) = %q, %d, %v, not %q, %d", x.s, x.p, x.with, text, n, ok, x.text, x.n)
		}
		if op, ok := impl.ReplaceOp(x.s, x.p, x.with); !slices.Equal(op, x.op) || !ok {
			t.Errorf("ReplaceOp(%q, %q, %q) = %v, %v, not %v", x.s, x.p, x.with, op, ok, x.op)
		}
		checkSwap(t, x.swap)
	}
}

// Chapter 11: texts of MaxDoc bytes and of one more, at each place.
func TestLimitsOfSoughtTexts(t *testing.T) {
	full := longText(impl.MaxDoc)
	over := full + "a"
	checkSought(t, full)
	if l, ok := impl.BordersOf(full); len(l) != impl.MaxDoc || l[impl.MaxDoc-1] != impl.MaxDoc-1 || !ok {
		t.Errorf("BordersOf of MaxDoc bytes = %v, %v", l, ok)
	}
	zeroOfSought(t, over)
	for _, good := range []string{"a", "b", full} {
		zeroOfSearch(t, over, good)
		zeroOfSearch(t, good, over)
		zeroOfSwap(t, swap{over, good, good})
		zeroOfSwap(t, swap{good, over, good})
		zeroOfSwap(t, swap{good, good, over})
	}
	zeroOfSearch(t, over, over)
	zeroOfSwap(t, swap{over, over, over})
	if l, ok := impl.FindAll("a", full); len(l) != impl.MaxDoc || !ok {
		t.Errorf("FindAll in MaxDoc bytes has %d places, %v", len(l), ok)
	}
}

// Chapter 11: a text of MaxDoc bytes that is made, and of one more.
func TestLimitOfReplacedTexts(t *testing.T) {
	full, half := longText(impl.MaxDoc), longText(impl.MaxDoc/2)
	for _, x := range []struct {
		swap
		ok bool
	}{
		{swap{half, "a", "bb"}, true}, {swap{half + "c", "a", "bb"}, false}, {swap{half + "a", "a", "bb"}, false}, {swap{half[1:], "a", "bb"}, true}, {swap{longText(100), "a", "bbb"}, true}, {swap{longText(100) + "c", "a", "bbb"}, false},
		{swap{"a", "a", full}, true}, {swap{"ab", "a", full}, false}, {swap{"ab", "a", full[1:]}, true}, {swap{"aa", "a", half}, true}, {swap{"aba", "a", half}, false}, {swap{full, "a", full}, false}, {swap{full, "b", full}, true},
		{swap{full, full, full}, true}, {swap{full, full, "b" + full[1:]}, true}, {swap{full, full[1:], "b" + full[2:]}, true}, {swap{full, full[1:], "b" + full[1:]}, false}, {swap{full, "aa", "b"}, true}, {swap{full, "aa", "bb"}, true}, {swap{full, "aa", "bbb"}, false}, {swap{full[1:] + "b", "b", "c"}, true}, {swap{full[1:] + "b", "b", "cc"}, false}, {swap{full[1:] + "b", "b", ""}, true},
	} {
		text, n, ok := impl.ReplaceAll(x.s, x.p, x.with)
		if ok != x.ok || !ok && (text != "" || n != 0) {
			t.Errorf("ReplaceAll(%q, %q, %q) = %q, %d, %v", x.s, x.p, x.with, text, n, ok)
		}
		if op, ok := impl.ReplaceOp(x.s, x.p, x.with); ok != x.ok || !ok && len(op) != 0 {
			t.Errorf("ReplaceOp(%q, %q, %q) = %v, %v", x.s, x.p, x.with, op, ok)
		}
		checkSwap(t, x.swap)
	}
	if text, _, _ := impl.ReplaceAll(half, "a", "bb"); len(text) != impl.MaxDoc {
		t.Errorf("%d bytes are told, not just MaxDoc", len(text))
	}
}

// Chapter 11: a change of MaxParts parts, and of one more, which is not good
// though the text is told.
func TestLimitOfPartsOfSwaps(t *testing.T) {
	all := impl.MaxParts
	rows := func(s string, n int) string { return strings.Repeat(s, n) }
	for _, x := range []struct {
		swap
		parts int
	}{
		{swap{rows("xa", all/2), "x", ""}, all}, {swap{rows("xa", all/2) + "x", "x", ""}, all + 1}, {swap{rows("ax", all/2), "x", ""}, all}, {swap{rows("ax", all/2) + "a", "x", ""}, all + 1},
		{swap{rows("xa", all/3), "x", "y"}, all}, {swap{"a" + rows("xa", all/3), "x", "y"}, all + 1}, {swap{rows("xa", all/3) + "x", "x", "y"}, all + 2}, {swap{rows("xa", all/3), "x", "yz"}, all}, {swap{"a" + rows("xa", all/3), "x", "yz"}, all + 1},
		// Those that touch are few parts, however many they are.
		{swap{rows("x", impl.MaxDoc), "x", "y"}, 2}, {swap{rows("x", impl.MaxDoc), "x", ""}, 1}, {swap{rows("xy", impl.MaxDoc/2), "xy", "yx"}, 2}, {swap{rows("x", all+1), "x", "y"}, 2}, {swap{rows("x", impl.MaxDoc-1) + "a", "x", "y"}, 3}, {swap{"a" + rows("x", impl.MaxDoc-1), "x", "y"}, 3}, {swap{rows("xxxa", all/3), "x", "y"}, all}, {swap{"a" + rows("xxxa", all/3), "x", "y"}, all + 1}, {swap{rows("xxxa", all/2), "x", ""}, all}, {swap{rows("xxxxxa", all/2) + "x", "x", ""}, all + 1},
		// With p itself all is kept, however often it stands there.
		{swap{rows("xa", impl.MaxDoc/2), "x", "x"}, 1}, {swap{rows("x", impl.MaxDoc), "x", "x"}, 1}, {swap{rows("xa", impl.MaxDoc/2), "x", "y"}, 3 * impl.MaxDoc / 2}, {swap{rows("xa", impl.MaxDoc/2), "x", ""}, impl.MaxDoc}, {swap{rows("xa", impl.MaxDoc/2), "b", ""}, 1},
	} {
		if n := len(replaceOpByHand(x.swap)); n != x.parts {
			t.Fatalf("the change of %q has %d parts, not %d", x.swap, n, x.parts)
		}
		op, ok := impl.ReplaceOp(x.s, x.p, x.with)
		if ok != (x.parts <= all) || ok && len(op) != x.parts || !ok && len(op) != 0 {
			t.Errorf("ReplaceOp of %d parts = %v, %v", x.parts, op, ok)
		}
		if text, _ := checkSwap(t, x.swap); !text {
			t.Errorf("%q has no text", x.swap)
		}
	}
}

// Promise 20: texts that are not good, at each place, and a p that is empty.
func TestWrongTextsAreNotSearched(t *testing.T) {
	full := longText(impl.MaxDoc)
	for _, s := range append(notTexts(), full+"/", "\xc3\xa4", full+full) {
		zeroOfSought(t, s)
		zeroOfSearch(t, s, s)
		zeroOfSearch(t, "", s)
		zeroOfSwap(t, swap{s, s, s})
		zeroOfSwap(t, swap{s, "", s})
		zeroOfSearch(t, s, "")
		zeroOfSwap(t, swap{"", s, ""})
		for _, good := range []string{"a", "A/", "/", full} {
			zeroOfSearch(t, s, good)
			zeroOfSearch(t, good, s)
			for _, other := range []string{"", good, "b"} {
				zeroOfSwap(t, swap{s, good, other})
				zeroOfSwap(t, swap{good, s, other})
				zeroOfSwap(t, swap{other, good, s})
			}
		}
	}
	zeroOfSought(t, "")
	for _, s := range []string{"", "a", "A/", full} {
		zeroOfSearch(t, "", s)
		for _, with := range []string{"", "a", full} {
			zeroOfSwap(t, swap{s, "", with})
		}
	}
	for c := range 256 {
		s := string([]byte{byte(c)})
		checkSought(t, s)
		for _, other := range []string{"", "a", s, s + s, "a" + s} {
			checkSought(t, other)
			checkSearch(t, s, other)
			checkSearch(t, other, s)
			for _, x := range []swap{{s, other, "b"}, {other, s, "b"}, {other, s, ""}, {other, "a", s}, {s, s, other}, {"b", "a", s}, {"", "a", s}} {
				checkSwap(t, x)
			}
		}
	}
}

// Promise 20: the answers share no memory with what was handed in, nor with
// what is answered later.
func TestSearchesAreNewMemory(t *testing.T) {
	long, other := strings.Repeat("ab", 30), strings.Repeat("cd", 40)
	for _, x := range []swap{{long, "ab", "x"}, {long, other, "x"}, {long, long, other}, {long, long, long}, {other, long, long}, {long + other, other, long}, {other + long + other, other, long}, {long, "ab", "ab"}, {long, "ab", "abc"}, {long + "x", "x", other}, {long + "x", "x", ""}} {
		s, p, with := strings.Clone(x.s), strings.Clone(x.p), strings.Clone(x.with)
		for _, given := range []swap{{s, p, with}, {s, s, with}, {s, s, s}, {s, p, s}, {s, p, p}} {
			text, _, ok := impl.ReplaceAll(given.s, given.p, given.with)
			op, _ := impl.ReplaceOp(given.s, given.p, given.with)
			for _, y := range []string{s, p, with} {
				if ok && shareText(text, y) {
					t.Errorf("ReplaceAll(%q, %q, %q) lies in the memory of what was handed in", given.s, given.p, given.with)
				}
				for _, part := range op {
					if shareText(part.Put, y) || shareText(part.Drop, y) {
						t.Errorf("%v of ReplaceOp(%q, %q, %q) lies in the memory of what was handed in", part, given.s, given.p, given.with)
					}
				}
			}
			clear(op[:cap(op)])
			checkSwap(t, given)
		}
		if s != x.s || p != x.p || with != x.with {
			t.Errorf("%q was changed to %q, %q, %q", x, s, p, with)
		}
	}
}

// Promise 20: what is written into an answer is not seen in another one.
func TestListsOfPlacesAreNewMemory(t *testing.T) {
	for _, x := range []swap{{s: "ababa", p: "aba"}, {s: "a", p: "a"}, {s: longText(impl.MaxDoc), p: "a"}, {s: "b", p: "ab"}} {
		one, _ := impl.FindAll(x.p, x.s)
		two, _ := impl.FindAll(x.p, x.s)
		borders, _ := impl.BordersOf(x.p)
		again, _ := impl.BordersOf(x.p)
		if shareNumbers(one, two) || shareNumbers(borders, again) || shareNumbers(one, borders) {
			t.Errorf("two lists of %q lie in one memory", x)
		}
		for _, l := range [][]int{one, two, borders, again} {
			for i := range l[:cap(l)] {
				l[:cap(l)][i] = -1
			}
		}
		checkSought(t, x.p)
		checkSearch(t, x.p, x.s)
	}
}

// Promise 20: texts that are cut out of a longer one end where they end.
func TestSearchedTextsStayAsTheyWere(t *testing.T) {
	whole := []byte("-ababab-abaab-ba-")
	s := string(whole)
	cuts := []string{s[1:7], s[1:6], s[1:2], s[1:1], s[3:6], s[8:13], s[8:12], s[8:10], s[14:16], s[14:15], s[16:16]}
	eachPair(cuts, func(a, b string) {
		checkSought(t, a)
		checkSearch(t, a, b)
		for _, c := range cuts {
			checkSwap(t, swap{a, b, c})
		}
	})
	if l, ok := impl.FindAll(s[1:4], s[1:6]); !slices.Equal(l, []int{0, 2}) || !ok {
		t.Errorf("FindAll = %v, %v", l, ok)
	}
	if s != string(whole) {
		t.Errorf("the texts were changed: %q", s)
	}
}

// An answer is the same, whatever was asked and refused ahead of it.
func TestSearchesAreToldAnew(t *testing.T) {
	for range 3 {
		if l, ok := impl.FindAll("aa", "aaaa"); !slices.Equal(l, []int{0, 1, 2}) || !ok {
			t.Errorf("FindAll = %v, %v", l, ok)
		}
		if n, ok := impl.StepsOf("aab", "aaaa"); n != 6 || !ok {
			t.Errorf("StepsOf = %d, %v", n, ok)
		}
		if text, n, ok := impl.ReplaceAll("aaaa", "aa", "b"); text != "bb" || n != 2 || !ok {
			t.Errorf("ReplaceAll = %q, %d, %v", text, n, ok)
		}
		zeroOfSought(t, "-")
		zeroOfSearch(t, "a", "-")
		zeroOfSwap(t, swap{"aa", "a", "-"})
	}
}

// Texts of MaxDoc bytes are answered in a moment, whatever they are.
func TestLongestSearchesInAMoment(t *testing.T) {
	texts := knotted()
	full := longText(impl.MaxDoc)
	for _, s := range texts {
		for _, p := range []string{s, s[1:], s[:impl.MaxDoc/2], s[:impl.MaxDoc/2] + "x", s[:2], s[:1], "x"} {
			start := time.Now()
			for range 20 {
				impl.BordersOf(p)
				impl.PeriodOf(p)
				impl.FindAll(p, s)
				impl.StepsOf(p, s)
				for _, with := range []string{"", "x", p, full} {
					impl.ReplaceAll(s, p, with)
					impl.ReplaceOp(s, p, with)
				}
			}
			if took := time.Since(start); took > 3*time.Second {
				t.Errorf("%.20q in %.20q took %v", p, s, took)
			}
			checkSought(t, p)
			checkSearch(t, p, s)
			for _, with := range []string{"", "x", p, p + "x"} {
				checkSwap(t, swap{s, p, with})
			}
		}
	}
}

// FuzzSearches: no argument makes one of the six functions panic, or tell another thing than the document says.
func FuzzSearches(f *testing.F) {
	f.Add("aba", "ababa", "x")
	f.Add("aabaaac", "aabaaabaaac", "")
	f.Add("a", longText(300), "bb")
	f.Add("", "\xff", longText(301))
	f.Fuzz(func(t *testing.T, p, s, with string) {
		checkSought(t, p)
		checkSought(t, s)
		checkSearch(t, p, s)
		checkSearch(t, s, p)
		checkSearch(t, p, s+p)
		for _, x := range []swap{{s, p, with}, {s, p, p}, {s, p, ""}, {s + p + s, p, with}, {s, s, with}, {with, p, s}} {
			checkSwap(t, x)
		}
	})
}
