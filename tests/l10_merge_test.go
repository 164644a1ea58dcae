package tests

import (
	"slices"
	"strings"
	"testing"
	"time"

	"loop.example/g00253/impl"
)

// merge is three versions of a text.
type merge struct{ base, a, b string }

func (x merge) turned() merge { return merge{x.base, x.b, x.a} }

// woven is the text of which both changes were made, place by place: what x
// puts, what y puts, and the byte if both keep it.
func woven(base string, x, y []impl.Part) string {
	p, q := placesOf(x), placesOf(y)
	var out strings.Builder
	for i := range p.puts {
		out.WriteString(p.puts[i] + q.puts[i])
		if i < len(base) && p.drops[i] < 0 && q.drops[i] < 0 {
			out.WriteByte(base[i])
		}
	}
	return out.String()
}

func mergeByHand(x merge) (string, int, bool) {
	if !textIsGood(x.base) || !textIsGood(x.a) || !textIsGood(x.b) {
		return "", 0, false
	}
	one, two := diffByHand(x.base, x.a), diffByHand(x.base, x.b)
	if _, _, ok := transformByHand(one, two); !ok {
		return "", 0, false
	}
	clashes, ok := clashesByHand(one, two)
	text := woven(x.base, one, two)
	if !ok || !textIsGood(text) {
		return "", 0, false
	}
	return text, clashes, true
}

func sideByHand(x merge) (int, bool) {
	if !textIsGood(x.base) || !textIsGood(x.a) || !textIsGood(x.b) {
		return 0, false
	}
	if x.a == x.b {
		return 0, true
	}
	side := 0
	if x.a != x.base {
		side++
	}
	if x.b != x.base {
		side += 2
	}
	return side, true
}

func mergedDocByHand(m matchers, l []impl.Rule, x merge) (string, bool) {
	for _, s := range []string{x.base, x.a, x.b} {
		if !isRightByHand(m, l, s) {
			return "", false
		}
	}
	text, clashes, ok := mergeByHand(x)
	if !ok || clashes > 0 || !isRightByHand(m, l, text) {
		return "", false
	}
	return text, true
}

// checkMerge holds MergeThree and SideOf against what is reckoned by hand, and
// tells the clashes; -1 where the versions can't be made one.
func checkMerge(t *testing.T, x merge) int {
	t.Helper()
	want, clashes, can := mergeByHand(x)
	text, n, ok := impl.MergeThree(x.base, x.a, x.b)
	if text != want || n != clashes || ok != can {
		t.Fatalf("MergeThree(%.400q, %.400q, %.400q) = %q, %d, %v, not %q, %d, %v", x.base, x.a, x.b, text, n, ok, want, clashes, can)
	}
	side, told := sideByHand(x)
	if got, ok := impl.SideOf(x.base, x.a, x.b); got != side || ok != told {
		t.Fatalf("SideOf(%.400q, %.400q, %.400q) = %d, %v, not %d, %v", x.base, x.a, x.b, got, ok, side, told)
	}
	if !can {
		return -1
	}
	checkMade(t, x, text)
	return clashes
}

// checkMade asks that the text is what the changes of chapters 4 and 9 make,
// whichever is first, and that clashes are as many the other way round.
func checkMade(t *testing.T, x merge, text string) {
	t.Helper()
	one, _ := impl.DiffOps(x.base, x.a)
	two, _ := impl.DiffOps(x.base, x.b)
	behindTwo, behindOne, _ := impl.TransformOps(one, two)
	first, _ := impl.ApplyOp(behindOne, x.a)
	second, _ := impl.ApplyOp(behindTwo, x.b)
	if text != first || text != second || !impl.GoodText(text) {
		t.Fatalf("MergeThree(%q, %q, %q) = %q, but the changes make %q and %q", x.base, x.a, x.b, text, first, second)
	}
	_, n, _ := impl.MergeThree(x.base, x.a, x.b)
	if _, many, ok := impl.MergeThree(x.base, x.b, x.a); ok && many != n {
		t.Fatalf("MergeThree(%q, %q, %q) has %d clashes, and %d the other way round", x.base, x.a, x.b, n, many)
	}
}

// checkDocs holds MergeDocs against what is reckoned by hand, and tells whether
// there is a text.
func checkDocs(t *testing.T, m matchers, l []impl.Rule, x merge) bool {
	t.Helper()
	want, can := mergedDocByHand(m, l, x)
	text, ok := impl.MergeDocs(l, x.base, x.a, x.b)
	if text != want || ok != can {
		t.Fatalf("MergeDocs(%.400q, %.400q, %.400q, %.400q) = %q, %v, not %q, %v", l, x.base, x.a, x.b, text, ok, want, can)
	}
	return ok
}

func zeroOfMerge(t *testing.T, x merge) {
	t.Helper()
	if text, n, ok := impl.MergeThree(x.base, x.a, x.b); text != "" || n != 0 || ok {
		t.Errorf("MergeThree(%.40q, %.40q, %.40q) = %.40q, %d, %v", x.base, x.a, x.b, text, n, ok)
	}
}

func zeroOfSide(t *testing.T, x merge) {
	t.Helper()
	if side, ok := impl.SideOf(x.base, x.a, x.b); side != 0 || ok {
		t.Errorf("SideOf(%.40q, %.40q, %.40q) = %d, %v", x.base, x.a, x.b, side, ok)
	}
}

func zeroOfMergedDoc(t *testing.T, l []impl.Rule, x merge) {
	t.Helper()
	if text, ok := impl.MergeDocs(l, x.base, x.a, x.b); text != "" || ok {
		t.Errorf("MergeDocs(%.40q, %.40q, %.40q, %.40q) = %.40q, %v", l, x.base, x.a, x.b, text, ok)
	}
}

// inEachPlace has a text at each place of three versions beside another one,
// at two places, and at all.
func inEachPlace(s, other string) []merge {
	return []merge{{s, other, other}, {other, s, other}, {other, other, s}, {s, s, other}, {s, other, s}, {other, s, s}, {s, s, s}}
}

func eachMerge(texts []string, f func(x merge)) {
	for _, base := range texts {
		eachPair(texts, func(a, b string) { f(merge{base, a, b}) })
	}
}

// Promise 10: of all small texts what is told is what both changes make.
func TestMergesAsSaid(t *testing.T) {
	peaceful, clashing := 0, 0
	for _, texts := range [][]string{allTexts("/Aa", 3), allTexts("ab", 4)} {
		eachMerge(texts, func(x merge) {
			switch n := checkMerge(t, x); {
			case n < 0:
				t.Fatalf("%q can't be made one", x)
			case n == 0:
				peaceful++
			default:
				clashing++
			}
		})
	}
	if peaceful < 10000 || clashing < 10000 {
		t.Errorf("%d merges are without clashes, %d with", peaceful, clashing)
	}
}

// checkUnchanged asks for promise 10 itself: of two versions of which one is base.
func checkUnchanged(t *testing.T, base, other string) bool {
	t.Helper()
	_, good := impl.DiffOps(base, other)
	want := other
	if !good {
		want = ""
	}
	for _, x := range []merge{{base, base, other}, {base, other, base}} {
		if text, n, ok := impl.MergeThree(x.base, x.a, x.b); text != want || n != 0 || ok != good {
			t.Fatalf("MergeThree(%q, %q, %q) = %q, %d, %v, not %q, 0, %v", x.base, x.a, x.b, text, n, ok, want, good)
		}
	}
	return good
}

// Promise 10: where one has changed nothing the other one's text is told.
func TestUnchangedSidesTellTheOther(t *testing.T) {
	eachPair(allTexts("/Aa", 4), func(base, other string) {
		if !checkUnchanged(t, base, other) {
			t.Fatalf("the least change of %q and %q is not good", base, other)
		}
	})
	told, not := 0, 0
	longPairs(func(base, other string) {
		if checkUnchanged(t, base, other) {
			told++
		} else {
			not++
		}
	})
	if told < 50 || not < 50 {
		t.Errorf("%d are told, %d not", told, not)
	}
	for _, s := range append(someDocs(), edgeDocs()...) {
		checkUnchanged(t, s, "")
		checkUnchanged(t, "", s)
		checkUnchanged(t, s, s)
	}
}

// Promise 10: documents, of which one is as it was.
func TestUnchangedDocumentsTellTheOther(t *testing.T) {
	told := 0
	m := matchers{}
	eachPair(smallDocs("ABa/", 4), func(base, other string) {
		for _, l := range [][]impl.Rule{anything, rulesOf("-", "A*", "A", "t|B", "B", "-"), rulesOf("-", "(A|t)*", "A", "t?")} {
			right := isRightByHand(m, l, base) && isRightByHand(m, l, other)
			want := other
			if !right {
				want = ""
			}
			for _, x := range []merge{{base, base, other}, {base, other, base}} {
				if text, ok := impl.MergeDocs(l, x.base, x.a, x.b); text != want || ok != right {
					t.Fatalf("MergeDocs(%q, %q, %q, %q) = %q, %v, not %q, %v", l, x.base, x.a, x.b, text, ok, want, right)
				}
			}
			if right {
				told++
			}
		}
	})
	if told < 1000 {
		t.Errorf("%d were told", told)
	}
}

// versionOf is made of a text by a change of few bytes here and there.
func (c *chooser) versionOf(s string, parts int) string {
	out, fits := applyByHand(c.opOn(s, parts), s)
	if !fits {
		panic("a change does not fit the text that it was made for")
	}
	return out
}

func TestMergesOfLongTexts(t *testing.T) {
	c := &chooser{101}
	var met [3]int
	for k := range 250 {
		alphabet := []string{"ab", "A/b", "zyx .,0", allBytes}[k%4]
		base := c.textOf(alphabet, c.next(impl.MaxDoc+1))
		x := merge{base, c.versionOf(base, 2+k%30), c.versionOf(base, 2+c.next(40))}
		for _, y := range []merge{x, x.turned(), {x.a, x.base, x.b}} {
			met[min(checkMerge(t, y), 1)+1]++
		}
	}
	if slices.Min(met[:]) < 50 {
		t.Errorf("not told, without and with clashes: %v", met)
	}
}

// Where one changed what lies ahead of all that the other one changed, both
// changes are there, whichever is named first.
func TestMergesOfHalvesAreBothHalves(t *testing.T) {
	c := &chooser{102}
	told := 0
	for k := range 200 {
		left, right := c.textOf("abc", c.next(60)), c.textOf("xyz", c.next(60))
		// Bytes that neither half has keep the changes of both apart.
		const wall = "FFF"
		base := left + wall + right
		one, two := c.versionOf(left, 1+k%8), c.versionOf(right, 1+k%5)
		x := merge{base, one + wall + right, left + wall + two}
		text, n, ok := impl.MergeThree(x.base, x.a, x.b)
		if strings.Contains(one+two, "F") || !ok {
			continue
		}
		told++
		if text != one+wall+two || n != 0 {
			t.Fatalf("MergeThree(%q, %q, %q) = %q, %d", x.base, x.a, x.b, text, n)
		}
		if turned, n, ok := impl.MergeThree(x.base, x.b, x.a); turned != text || n != 0 || !ok {
			t.Fatalf("MergeThree(%q, %q, %q) = %q, %d, %v", x.base, x.b, x.a, turned, n, ok)
		}
	}
	if told < 50 {
		t.Errorf("%d were told", told)
	}
}

func TestMergesOneByOne(t *testing.T) {
	full := longText(impl.MaxDoc)
	for _, x := range []struct {
		merge
		text string
		n    int
	}{
		{merge{"one two", "one x two", "one two three"}, "one x two three", 0}, {merge{"abc", "ac", "ac"}, "ac", 1},
		// Empty texts at each place, and at all.
		{merge{"", "", ""}, "", 0}, {merge{"", "a", ""}, "a", 0}, {merge{"", "", "b"}, "b", 0}, {merge{"a", "", ""}, "", 1}, {merge{"abc", "", ""}, "", 3}, {merge{"", "a", "b"}, "ab", 0}, {merge{"", "b", "a"}, "ba", 0}, {merge{"a", "", "a"}, "", 0}, {merge{"a", "a", ""}, "", 0}, {merge{"a", "", "ab"}, "b", 0}, {merge{"a", "ba", ""}, "b", 0},
		// Both are the same: what both put stands there twice, what both drop goes once.
		{merge{"abc", "abc", "abc"}, "abc", 0}, {merge{"", "a", "a"}, "aa", 0}, {merge{"ab", "axb", "axb"}, "axxb", 0}, {merge{"abc", "axc", "axc"}, "axxc", 1}, {merge{"abcd", "ad", "ad"}, "ad", 2},
		// Both put at one place: what a puts stands ahead.
		{merge{"ab", "axb", "ayb"}, "axyb", 0}, {merge{"ab", "ayb", "axb"}, "ayxb", 0}, {merge{"ab", "xab", "yab"}, "xyab", 0}, {merge{"ab", "abx", "aby"}, "abxy", 0}, {merge{"ab", "axxxb", "ayb"}, "axxxyb", 0}, {merge{"abc", "axc", "ayc"}, "axyc", 1}, {merge{"abc", "axc", "aybc"}, "axyc", 0}, {merge{"abc", "aybc", "axc"}, "ayxc", 0},
		// Both drop the same bytes, or some of them.
		{merge{"abcd", "ad", "acd"}, "ad", 1}, {merge{"abcd", "d", "a"}, "", 2}, {merge{"abcd", "cd", "ab"}, "", 0}, {merge{"abcd", "", "abcd"}, "", 0}, {merge{"abcd", "", "bc"}, "", 2},
		// One puts within what the other one drops, at its ends, and both at once.
		{merge{"abc", "", "axbc"}, "x", 1}, {merge{"abc", "abxc", ""}, "x", 1}, {merge{"abc", "", "xabc"}, "x", 0}, {merge{"abc", "", "abcx"}, "x", 0}, {merge{"abcd", "ad", "abxcd"}, "axd", 1}, {merge{"abcd", "ad", "axbcd"}, "axd", 0}, {merge{"abcd", "ad", "abcxd"}, "axd", 0}, {merge{"abcd", "", "axbycd"}, "xy", 2}, {merge{"abc", "", "axyz0bc"}, "xyz0", 1}, {merge{"abcdefgh", "agh", "abcxdeh"}, "axh", 2},
		// Elements, whose bytes are like all others here.
		{merge{"Aa/", "Aab/", "Aa/A/"}, "Aab/A/", 0}, {merge{"Aabc/", "Aa/bc", "aAbc/"}, "a/Abc", 0}, {merge{"Aabc/", "aAbc/", "Aa/bc"}, "aA/bc", 0}, {merge{"Aab/", "Aa/b", "aAb/"}, "aA/b", 0}, {merge{"A", "/", "A"}, "/", 0}, {merge{"ab", "Aab/", "aBb/"}, "AaBb//", 0},
		{merge{full, full, full}, full, 0}, {merge{full, "", ""}, "", impl.MaxDoc}, {merge{"", full, ""}, full, 0}, {merge{"", "", full}, full, 0}, {merge{full, "", full}, "", 0}, {merge{full, full, ""}, "", 0},
	} {
		if text, n, ok := impl.MergeThree(x.base, x.a, x.b); text != x.text || n != x.n || !ok {
			t.Errorf("MergeThree(%q, %q, %q) = %q, %d, %v, not %q, %d", x.base, x.a, x.b, text, n, ok, x.text, x.n)
		}
		checkMerge(t, x.merge)
		checkMerge(t, x.turned())
	}
}

func TestSidesOneByOne(t *testing.T) {
	full := longText(impl.MaxDoc)
	for _, x := range []struct {
		merge
		side int
	}{
		{merge{"a", "b", "a"}, 1}, {merge{"a", "a", "b"}, 2}, {merge{"a", "b", "c"}, 3}, {merge{"a", "b", "b"}, 0}, {merge{"a", "a", "a"}, 0},
		{merge{"", "", ""}, 0}, {merge{"", "a", ""}, 1}, {merge{"", "", "a"}, 2}, {merge{"a", "", ""}, 0}, {merge{"a", "", "a"}, 1}, {merge{"a", "a", ""}, 2}, {merge{"", "a", "b"}, 3}, {merge{"", "a", "a"}, 0}, {merge{"a", "", "b"}, 3}, {merge{"a", "b", ""}, 3},
		{merge{"a", "ab", "a"}, 1}, {merge{"ab", "a", "ab"}, 1}, {merge{"a", "a", "ab"}, 2}, {merge{"ab", "ab", "a"}, 2}, {merge{"A/", "/A", "A/"}, 1}, {merge{"a", "A", "a"}, 1}, {merge{"ab", "ba", "aa"}, 3},
		{merge{full, full, full}, 0}, {merge{full, full[1:], full}, 1}, {merge{full, full, full[1:]}, 2}, {merge{full, full[1:], full[1:]}, 0}, {merge{full, full[1:], full[2:]}, 3}, {merge{"", full, ""}, 1}, {merge{"", "", full}, 2}, {merge{"", full, full}, 0}, {merge{full, "", ""}, 0}, {merge{full, full[1:] + "b", full}, 1}, {merge{full, "b" + full[1:], full[1:] + "b"}, 3},
	} {
		if side, ok := impl.SideOf(x.base, x.a, x.b); side != x.side || !ok {
			t.Errorf("SideOf(%q, %q, %q) = %d, %v, not %d", x.base, x.a, x.b, side, ok, x.side)
		}
		checkMerge(t, x.merge)
	}
}

// A side is told of texts whose changes are not good, too.
func TestSidesOfTextsThatAreFarApart(t *testing.T) {
	base, a, b := strings.Repeat("ya", impl.MaxDoc/2), strings.Repeat("xa", impl.MaxDoc/2), strings.Repeat("za", impl.MaxDoc/2)
	for _, x := range []struct {
		merge
		side int
	}{{merge{base, a, base}, 1}, {merge{base, base, b}, 2}, {merge{base, a, b}, 3}, {merge{base, a, a}, 0}} {
		if side, ok := impl.SideOf(x.base, x.a, x.b); side != x.side || !ok {
			t.Errorf("SideOf of side %d = %d, %v", x.side, side, ok)
		}
		zeroOfMerge(t, x.merge)
		checkMerge(t, x.merge)
	}
}

// Chapter 10: documents are made one just where there are no clashes and what
// comes of them is right.
func TestMergedDocumentsAsSaid(t *testing.T) {
	docs := smallDocs("A/a", 4)
	turn, told, not := 0, 0, 0
	count := func(ok bool) {
		if ok {
			told++
		} else {
			not++
		}
	}
	smallSchemas(func(l []impl.Rule) {
		m := matchers{}
		right := slices.DeleteFunc(slices.Clone(docs), func(s string) bool { return !isRightByHand(m, l, s) })
		eachMerge(right, func(x merge) {
			if turn++; turn%23 == 0 {
				count(checkDocs(t, m, l, x))
			}
		})
		for _, s := range docs {
			if turn++; turn%23 == 0 {
				checkDocs(t, m, l, merge{s, docs[turn%len(docs)], docs[turn/3%len(docs)]})
			}
		}
	})
	if told < 1000 || not < 1000 {
		t.Errorf("%d were told, %d not", told, not)
	}
}

// legalVersionOf is a right document that commands made of another one.
func (c *chooser) legalVersionOf(m matchers, l []impl.Rule, s string, n int) string {
	text, _, ok := impl.PlayCommands(l, s, c.commandsFor(m, l, s, n))
	if !ok {
		panic("a right document is played in")
	}
	return text
}

func TestMergedDocumentsOfLongOnes(t *testing.T) {
	c := &chooser{103}
	told, not := 0, 0
	for k := range 150 {
		l, m := c.schema(namesOfRules, 1+k%20), matchers{}
		if k%2 == 0 {
			l = anything
		}
		base, ok := c.rightDoc(m, l)
		if !ok {
			continue
		}
		base = c.legalVersionOf(m, l, base, c.next(30))
		x := merge{base, c.legalVersionOf(m, l, base, 1+k%4), c.legalVersionOf(m, l, base, 1+c.next(3))}
		for _, y := range []merge{x, x.turned(), {x.a, x.base, x.b}} {
			checkMerge(t, y)
			if checkDocs(t, m, l, y) {
				told++
			} else {
				not++
			}
		}
	}
	if told < 100 || not < 50 {
		t.Errorf("%d were told, %d not", told, not)
	}
}

func TestMergedDocumentsOneByOne(t *testing.T) {
	deep := func(n int) string { return strings.Repeat("A", n) + strings.Repeat("/", n) }
	rows := func(n int) string { return strings.Repeat("A/", n) }
	full := longText(impl.MaxDoc)
	for _, x := range []struct {
		l []impl.Rule
		merge
		text string
		ok   bool
	}{
		{rulesOf("-", ".*", "A", "t?"), merge{"Aa/", "Aab/", "Aa/A/"}, "Aab/A/", true}, {anything, merge{"", "", ""}, "", true}, {anything, merge{"", "A/", "B/"}, "A/B/", true}, {anything, merge{"", "B/", "A/"}, "B/A/", true}, {anything, merge{"A/", "", "A/"}, "", true}, {anything, merge{"A/", "A/", ""}, "", true}, {anything, merge{full, full, full}, full, true}, {anything, merge{full, "", full}, "", true}, {anything, merge{"", full, ""}, full, true},
		{anything, merge{"Aa/Bb/", "Aac/Bb/", "Aa/Bbc/"}, "Aac/Bbc/", true}, {anything, merge{"Aab/", "Aa/Ab/", "Aab/c"}, "Aa/Ab/c", true}, {anything, merge{"ab", "Aab/", "aBb/"}, "AaBb//", true},
		// With clashes there is none, though the text would be right.
		{anything, merge{"A/", "", ""}, "", false}, {anything, merge{"abc", "ac", "ac"}, "", false}, {anything, merge{"abc", "", "axbc"}, "", false}, {anything, merge{"AB//", "", "ABa//"}, "", false}, {anything, merge{"Aa/", "Ba/", "Ca/"}, "", false},
		// What comes of them is no document, or one the other way round alone.
		{anything, merge{"Aabc/", "Aa/bc", "aAbc/"}, "", false}, {anything, merge{"Aabc/", "aAbc/", "Aa/bc"}, "aA/bc", true},
		{anything, merge{"a", deep(6) + "a", "a" + deep(6)}, deep(6) + "a" + deep(6), true}, {anything, merge{"Aa/", deep(11)[:11] + "a" + deep(11)[11:], "ABa//"}, strings.Repeat("A", 11) + "Ba" + strings.Repeat("/", 12), true}, {anything, merge{"Aa/", deep(12)[:12] + "a" + deep(12)[12:], "ABa//"}, "", false},
		// What comes of them is not right.
		{rulesOf("-", "A?", "A", "-"), merge{"", "A/", "A/"}, "", false}, {rulesOf("-", "A*", "A", "-"), merge{"", "A/", "A/"}, "A/A/", true}, {rulesOf("-", "A|B", "A", "-", "B", "-"), merge{"A/", "B/", "A/"}, "B/", true}, {rulesOf("-", "A*", "A", "t|B|-", "B", "-"), merge{"A/", "Aa/", "AB//"}, "", false}, {rulesOf("-", "A*", "A", "t?B?", "B", "-"), merge{"A/", "Aa/", "AB//"}, "AaB//", true}, {rulesOf("-", "A*", "A", "t?B?", "B", "-"), merge{"A/", "AB//", "Aa/"}, "", false}, {rulesOf("-", "t?"), merge{"", "a", "b"}, "ab", true}, {rulesOf("-", "-"), merge{"", "", ""}, "", true},
		// A row of as many symbols as a word may have, and one more.
		{anything, merge{rows(impl.MaxWord - 2), "A/" + rows(impl.MaxWord-2), rows(impl.MaxWord-2) + "B/"}, rows(impl.MaxWord-1) + "B/", true}, {anything, merge{rows(impl.MaxWord - 1), rows(impl.MaxWord-1) + "B/", rows(impl.MaxWord-1) + "C/"}, "", false},
		// Longer than a document may be.
		{anything, merge{full[2:], full[2:] + "b", "c" + full[2:]}, "c" + full[2:] + "b", true}, {anything, merge{full[1:], full[1:] + "b", "c" + full[1:]}, "", false},
		// Documents that are not right, at each place, though what comes of them would be.
		{rulesOf("-", "A*", "A", "-"), merge{"a", "", "a"}, "", false}, {rulesOf("-", "A*", "A", "-"), merge{"", "a", ""}, "", false}, {rulesOf("-", "A*", "A", "-"), merge{"", "", "a"}, "", false}, {rulesOf("-", "A?", "A", "-"), merge{"A/A/", "A/", "A/A/"}, "", false}, {rulesOf("-", "A?", "A", "-"), merge{"A/", "", "A/A/"}, "", false}, {rulesOf("-", "A?", "A", "-"), merge{"A/", "A/A/", ""}, "", false}, {rulesOf("-", "AA"), merge{"", "A/", "A/"}, "", false}, {nil, merge{"", "", ""}, "", false}, {rulesOf("A", "-"), merge{"", "", ""}, "", false},
		{rulesOf("-", "AA", "A", "-"), merge{"A/", "A/A/", "A/"}, "", false}, {rulesOf("-", "A+", "A", "-"), merge{"", "A/", "A/"}, "", false}, {rulesOf("-", "A|AA", "A", "-"), merge{"A/A/", "A/", "A/A/"}, "A/", true},
	} {
		if text, ok := impl.MergeDocs(x.l, x.base, x.a, x.b); text != x.text || ok != x.ok {
			t.Errorf("MergeDocs(%q, %q, %q, %q) = %q, %v, not %q, %v", x.l, x.base, x.a, x.b, text, ok, x.text, x.ok)
		}
		checkDocs(t, matchers{}, x.l, x.merge)
		checkDocs(t, matchers{}, x.l, x.turned())
		checkMerge(t, x.merge)
	}
}

// Chapter 10: what is told by MergeDocs is just what MergeThree tells.
func TestMergedDocumentsAreMergedTexts(t *testing.T) {
	docs := smallDocs("AB/a", 4)
	c := &chooser{104}
	l := rulesOf("-", "(A|t)*", "A", "(t|B)?", "B", "t?")
	isRight := func(s string) bool {
		code, _ := impl.CheckDoc(l, s)
		return code == impl.SchemaOk
	}
	told := 0
	for range 20000 {
		x := merge{docs[c.next(len(docs))], docs[c.next(len(docs))], docs[c.next(len(docs))]}
		text, n, ok := impl.MergeThree(x.base, x.a, x.b)
		want := ok && n == 0 && isRight(text) && isRight(x.base) && isRight(x.a) && isRight(x.b)
		if !want {
			text = ""
		}
		if got, ok := impl.MergeDocs(l, x.base, x.a, x.b); got != text || ok != want {
			t.Fatalf("MergeDocs(%q, %q, %q, %q) = %q, %v, not %q, %v", l, x.base, x.a, x.b, got, ok, text, want)
		}
		if want {
			told++
		}
	}
	if told < 500 {
		t.Errorf("%d were told", told)
	}
}

// Chapter 10: texts of MaxDoc bytes, and of one more, what is put in and what comes of it.
func TestLimitsOfMergedTexts(t *testing.T) {
	full, half := longText(impl.MaxDoc), longText(impl.MaxDoc/2)
	for _, x := range []struct {
		merge
		ok bool
	}{
		{merge{full, full, full}, true}, {merge{full + "a", full, full}, false}, {merge{full, full + "a", full}, false}, {merge{full, full, full + "a"}, false}, {merge{full + "a", full + "a", full + "a"}, false},
		{merge{"", half, half}, true}, {merge{"", half + "b", half}, false}, {merge{"", half, half + "b"}, false}, {merge{"", full, "b"}, false}, {merge{"", "b", full}, false}, {merge{"", full, full}, false}, {merge{"", full, ""}, true}, {merge{"", "", full}, true},
		{merge{full[2:], full[2:] + "x", "y" + full[2:]}, true}, {merge{full[1:], full[1:] + "x", "y" + full[1:]}, false}, {merge{full[1:], full[1:] + "x", full[1:] + "y"}, false}, {merge{full[1:], full[1:] + "x", full[2:] + "y"}, true},
		{merge{full, "b" + full[1:], full}, true}, {merge{full, "b" + full[1:], full[1:] + "c"}, true}, {merge{full, strings.Repeat("b", impl.MaxDoc), full}, true}, {merge{full, strings.Repeat("b", impl.MaxDoc), ""}, true}, {merge{full, strings.Repeat("b", impl.MaxDoc), "c"}, false}, {merge{full, strings.Repeat("b", impl.MaxDoc/2), strings.Repeat("c", impl.MaxDoc/2)}, true}, {merge{full, strings.Repeat("b", impl.MaxDoc/2), strings.Repeat("c", impl.MaxDoc/2+1)}, false},
	} {
		text, n, ok := impl.MergeThree(x.base, x.a, x.b)
		if ok != x.ok || !ok && (text != "" || n != 0) {
			t.Errorf("MergeThree of %d, %d and %d bytes = %d bytes, %d, %v", len(x.base), len(x.a), len(x.b), len(text), n, ok)
		}
		checkMerge(t, x.merge)
		checkMerge(t, x.turned())
		checkDocs(t, matchers{}, anything, x.merge)
	}
	if text, _, _ := impl.MergeThree("", half, strings.ToUpper(half)); len(text) != impl.MaxDoc {
		t.Errorf("%d bytes are told, not just MaxDoc", len(text))
	}
}

// Chapter 10: least changes of MaxParts parts and of one more, and such as have
// one more behind the other one alone.
func TestLimitsOfPartsOfMerges(t *testing.T) {
	all := impl.MaxParts
	rows := func(s string, n int) string { return strings.Repeat(s, n) }
	plain := rows("aa", all/2)
	most := rows("aax", all/2)
	front := rows("xaa", all/2)
	for _, x := range []struct {
		merge
		ok bool
	}{
		{merge{plain, most, plain}, true}, {merge{plain, plain, most}, true}, {merge{plain, "x" + most, plain}, false}, {merge{plain, plain, "x" + most}, false}, {merge{plain, "x" + most, "x" + most}, false}, {merge{plain, "x" + most, ""}, false}, {merge{plain, "", "x" + most}, false},
		// Where a is most what b puts at the end is one more for it, but nothing at the beginning.
		{merge{plain, most, "y" + plain}, true}, {merge{plain, most, plain + "y"}, false}, {merge{plain, "y" + plain, most}, true}, {merge{plain, plain + "y", most}, true},
		{merge{plain, front, plain + "y"}, true}, {merge{plain, front, "y" + plain}, true}, {merge{plain, "y" + plain, front}, false}, {merge{plain, plain + "y", front}, true},
		// The change of a is the one that would have too many parts, though that of b is the one that is done.
		{merge{rows("aab", all/2), rows("b", all/2), rows("aab", all/2)}, true}, {merge{rows("aab", all/2), rows("b", all/2), "aya" + rows("aab", all/2)[2:]}, false}, {merge{rows("aab", all/2-1), rows("b", all/2-1), "aya" + rows("aab", all/2-1)[2:]}, true},
	} {
		text, n, ok := impl.MergeThree(x.base, x.a, x.b)
		if ok != x.ok || !ok && (text != "" || n != 0) {
			t.Errorf("MergeThree(%q, %q, %q) = %q, %d, %v", x.base, x.a, x.b, text, n, ok)
		}
		checkMerge(t, x.merge)
		checkMerge(t, x.turned())
		checkDocs(t, matchers{}, anything, x.merge)
	}
}

// Promise 20: texts that are not good, at each place.
func TestWrongTextsAreNotMerged(t *testing.T) {
	full := longText(impl.MaxDoc)
	for _, s := range append(notTexts(), full+"a", full+"/", "\xc3\xa4", full+full) {
		for _, good := range []string{"", "a", "A/", full} {
			for _, x := range inEachPlace(s, good) {
				zeroOfMerge(t, x)
				zeroOfSide(t, x)
				zeroOfMergedDoc(t, anything, x)
			}
		}
	}
	for c := range 256 {
		s := string([]byte{byte(c)})
		for _, other := range []string{"", "a", s} {
			for _, x := range inEachPlace(s, other) {
				checkMerge(t, x)
				checkDocs(t, matchers{}, anything, x)
			}
		}
	}
}

// Promise 20: rules that are no schema, and documents that are none or not right, at each place.
func TestWrongDocumentsAreNotMerged(t *testing.T) {
	for _, l := range notSchemas() {
		for _, x := range []merge{{"", "", ""}, {"", "a", ""}, {"A/", "A/", "A/a"}, {"A", "G", "/"}} {
			zeroOfMergedDoc(t, l, x)
		}
	}
	for _, s := range notDocs() {
		for _, good := range []string{"", "a", "A/"} {
			for _, x := range inEachPlace(s, good) {
				zeroOfMergedDoc(t, anything, x)
				checkMerge(t, x)
			}
		}
	}
	m := matchers{}
	l := rulesOf("-", "A*", "A", "t|B", "B", "-")
	for _, s := range []string{"a", "A/", "B/", "AC//", "Aa/b", "ABa//", "AaB//", "C/", strings.Repeat("Aa/", impl.MaxWord+1)} {
		for _, right := range []string{"", "Aa/", "AB//", "Aa/AB//"} {
			for _, x := range inEachPlace(s, right) {
				zeroOfMergedDoc(t, l, x)
				checkDocs(t, m, l, x)
				checkMerge(t, x)
			}
		}
	}
	for _, l := range [][]impl.Rule{nil, {}, rulesOf("A", ".*"), rulesOf("-", "!"), rulesOf("-", "A+", "A", "-")} {
		zeroOfMergedDoc(t, l, merge{"", "", ""})
		zeroOfMergedDoc(t, l, merge{"", "A/", "A/"})
	}
}

// Promise 20: the answers share no memory with what was handed in.
func TestMergesAreNewMemory(t *testing.T) {
	long, other := strings.Repeat("ab", 30), strings.Repeat("cd", 40)
	for _, x := range []merge{{long, long, long}, {long, long, other}, {long, other, long}, {"", long, other}, {"", long, ""}, {"", "", long}, {long, long + "c", long}, {long, "c" + long, long + "d"}, {long + "c", long, long + "c"}} {
		given := []string{strings.Clone(x.base), strings.Clone(x.a), strings.Clone(x.b)}
		same := strings.Clone(x.base)
		for _, y := range [][]string{given, {same, same, given[2]}, {same, given[1], same}, {same, same, same}} {
			text, _, ok := impl.MergeThree(y[0], y[1], y[2])
			doc, ok2 := impl.MergeDocs(anything, y[0], y[1], y[2])
			if !ok || !ok2 || text != doc {
				t.Fatalf("%q is not answered: %q, %q", y, text, doc)
			}
			for _, s := range y {
				if shareText(text, s) || shareText(doc, s) {
					t.Errorf("%q, of %q, lies in the memory of what was handed in", text, y)
				}
			}
		}
		if given[0] != x.base || given[1] != x.a || given[2] != x.b {
			t.Errorf("%q was changed to %q", x, given)
		}
	}
}

// Promise 20: nothing is written into rules, nor behind their length, nor read there.
func TestMergedSchemasStayAsTheyWere(t *testing.T) {
	lists := append(notSchemas(), nil, anything[:2], rulesOf("-", "A*", "A", "t|B", "B", "-"), rulesOf("-", "A*", "A", "t?"), rulesOf("-", "A"))
	m := matchers{}
	for number, l := range lists {
		for _, behind := range []impl.Rule{rule("no", "|"), rule("F", "t")} {
			long := append(slices.Clone(l), behind, behind)
			before := slices.Clone(long)
			for _, x := range []merge{{"", "A/", ""}, {"Aa/", "Aab/", "Aa/Ac/"}, {"", "Ft/", ""}, {"", "", ""}, {"A/", "", ""}} {
				checkDocs(t, m, long[:len(l)], x)
			}
			if !slices.Equal(long, before) {
				t.Errorf("the rules %d were changed", number)
			}
		}
	}
	// Texts that are cut out of a longer one end where they end.
	whole := []byte("-abcabc-bcabca-Aabc/-")
	s := string(whole)
	checkMerge(t, merge{s[1:7], s[8:14], s[15:20]})
	checkMerge(t, merge{s[1:1], s[8:14], s[20:20]})
	checkDocs(t, m, anything, merge{s[1:7], s[8:14], s[15:20]})
	if s != string(whole) {
		t.Errorf("the texts were changed: %q", s)
	}
}

// An answer is the same, whatever was asked and refused ahead of it.
func TestMergesAreToldAnew(t *testing.T) {
	l := rulesOf("-", "A*", "A", "t?")
	for range 3 {
		if text, n, ok := impl.MergeThree("abcd", "ad", "abxcd"); text != "axd" || n != 1 || !ok {
			t.Errorf("MergeThree = %q, %d, %v", text, n, ok)
		}
		if text, ok := impl.MergeDocs(l, "Aa/", "Aab/", "Aa/A/"); text != "Aab/A/" || !ok {
			t.Errorf("MergeDocs = %q, %v", text, ok)
		}
		zeroOfMerge(t, merge{"-", "a", "b"})
		zeroOfMergedDoc(t, l, merge{"Aa/", "A/", "A/"})
		zeroOfSide(t, merge{"a", "-", "b"})
	}
}

// Texts of MaxDoc bytes are answered in a moment, whatever they are.
func TestLongestMergesInAMoment(t *testing.T) {
	c := &chooser{105}
	full, half := longText(impl.MaxDoc), impl.MaxDoc/2
	deep := strings.Repeat("A", impl.MaxDeep) + strings.Repeat("/", impl.MaxDeep)
	for _, x := range []merge{
		{full, full, full}, {full, strings.Repeat("b", impl.MaxDoc), ""}, {full, "b" + full[1:], full[1:] + "c"}, {strings.Repeat("ab", half), strings.Repeat("ba", half), strings.Repeat("ab", half)}, {c.textOf("ab", impl.MaxDoc), c.textOf("ab", impl.MaxDoc), c.textOf("ab", impl.MaxDoc)}, {c.textOf(allBytes, impl.MaxDoc), c.textOf(allBytes, impl.MaxDoc), c.textOf(allBytes, impl.MaxDoc)}, {strings.Repeat(deep, 12), strings.Repeat(deep, 11), strings.Repeat(deep, 12) + "a"}, {"A" + full[2:] + "/", "A" + full[2:] + "/", "B" + full[2:] + "/"},
	} {
		start := time.Now()
		for range 5 {
			impl.MergeThree(x.base, x.a, x.b)
			impl.MergeDocs(anything, x.base, x.a, x.b)
			impl.SideOf(x.base, x.a, x.b)
		}
		if took := time.Since(start); took > 3*time.Second {
			t.Errorf("%.20q, %.20q and %.20q took %v", x.base, x.a, x.b, took)
		}
		checkMerge(t, x)
		checkDocs(t, matchers{}, anything, x)
	}
}

// FuzzMerges: no argument makes one of the three functions panic, or tell another thing than the document says.
func FuzzMerges(f *testing.F) {
	f.Add("-=.*;A=t?;", "Aa/", "Aab/", "Aa/A/")
	f.Add("-=A*;A=t|B;B=-;", "Ax/AB//", "AB//", "Axy/AB//")
	f.Add("A=;=", "\xff", "", longText(300))
	f.Fuzz(func(t *testing.T, rules, base, a, b string) {
		l, _ := impl.ReadSchema(rules)
		m := matchers{}
		for _, x := range []merge{{base, a, b}, {base, b, a}, {a, base, b}, {base, base, a}, {base, a, base}, {base, a, a}} {
			checkMerge(t, x)
			checkDocs(t, m, l, x)
			checkDocs(t, m, anything, x)
		}
	})
}
