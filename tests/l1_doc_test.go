package tests

import (
	"math"
	"strings"
	"testing"
	"unsafe"

	"loop.example/g00253/impl"
)

const namesOfElements = "ABCDEF"
const plainBytes = "abcdefghijklmnopqrstuvwxyz0123456789 .,"

// span is an element: where it begins and where it ends.
type span struct{ begin, end int }

// spansOf reads a document by a pile of beginnings, which is another way than
// the program's; false where the text is no document.
func spansOf(s string) ([]span, bool) {
	if len(s) > impl.MaxDoc || strings.Trim(s, namesOfElements+plainBytes+"/") != "" {
		return nil, false
	}
	var open []int
	var out []span
	for i := 0; i < len(s); i++ {
		if strings.IndexByte(namesOfElements, s[i]) >= 0 {
			open = append(open, i)
		}
		if s[i] == '/' {
			if len(open) == 0 {
				return nil, false
			}
			out = append(out, span{open[len(open)-1], i})
			open = open[:len(open)-1]
		}
		if len(open) > impl.MaxDeep {
			return nil, false
		}
	}
	return out, len(open) == 0
}

// around counts the elements that begin ahead of a place and end behind it.
func around(l []span, at int) int {
	n := 0
	for _, e := range l {
		if e.begin < at && at <= e.end {
			n++
		}
	}
	return n
}

// allTexts are all texts of at most n bytes of the alphabet.
func allTexts(alphabet string, n int) []string {
	out := []string{""}
	for k := 0; len(out[k]) < n; k++ {
		for i := range alphabet {
			out = append(out, out[k]+alphabet[i:i+1])
		}
	}
	return out
}

// someDocs are documents made by a fixed rule: long ones, deep ones, of all bytes.
func someDocs() []string {
	var out []string
	seed := uint32(7)
	next := func(n int) int {
		seed = seed*1664525 + 1013904223
		return int(seed>>16) % n
	}
	for k := 0; k < 100; k++ {
		size := next(impl.MaxDoc - impl.MaxDeep)
		var b []byte
		depth := 0
		for len(b) < size {
			switch c := next(5); {
			case c < 2 && depth < impl.MaxDeep:
				b = append(b, namesOfElements[next(6)])
				depth++
			case c == 2 && depth > 0:
				b = append(b, '/')
				depth--
			default:
				b = append(b, plainBytes[next(len(plainBytes))])
			}
		}
		out = append(out, string(b)+strings.Repeat("/", depth))
	}
	return out
}

// edgeDocs are documents at the document's own limits.
func edgeDocs() []string {
	deep := strings.Repeat("A", impl.MaxDeep) + strings.Repeat("/", impl.MaxDeep)
	return []string{
		"",
		"a",
		"A/",
		"aAb/Bc/",
		"AA//A/",
		"A/A/A/",
		"AB//CD//",
		"ABCDEF//////",
		deep,
		deep + deep,
		strings.Repeat("a", impl.MaxDoc),
		strings.Repeat("A/", impl.MaxDoc/2),
		"A" + strings.Repeat("a", impl.MaxDoc-2) + "/",
		deep + strings.Repeat(" ", impl.MaxDoc-len(deep)),
	}
}

// notDocs are good texts that are no documents.
func notDocs() []string {
	over := impl.MaxDeep + 1
	deep := strings.Repeat("F", over) + strings.Repeat("/", over)
	return []string{
		"A",
		"/",
		"A//",
		"/A",
		"AB/",
		"a/",
		"A/B",
		"A//A",
		deep,
		"A/" + deep,
		strings.Repeat("A", impl.MaxDoc),
		strings.Repeat("/", impl.MaxDoc),
	}
}

// notTexts are no good texts at all.
func notTexts() []string {
	out := []string{
		"G/",
		"A-/",
		"Aa/\n",
		"\x00",
		"a\xff",
		"\u00e4",
		"A/\u00c4/",
		"A/@",
		"`",
		"{",
		"[",
		":",
		"A;/",
		strings.Repeat("a", impl.MaxDoc+1),
		strings.Repeat("A/", impl.MaxDoc/2+1),
		"A" + strings.Repeat("a", impl.MaxDoc-1) + "/",
		strings.Repeat("A/", 500000),
	}
	for c := 0; c < 256; c++ {
		b := string([]byte{byte(c)})
		if !strings.Contains(namesOfElements+plainBytes+"/", b) {
			out = append(out, b, "A"+b+"/", b+"A/", "A/"+b)
		}
	}
	return out
}

// oddPlaces are places that no text has.
func oddPlaces(s string) []int {
	return []int{math.MinInt, -impl.MaxDoc, -2, -1, len(s) + 1, len(s) + 2, impl.MaxDoc + 1, math.MaxInt - 1, math.MaxInt}
}

func eachDoc(f func(s string, l []span)) {
	docs := append(append(edgeDocs(), someDocs()...), allTexts("AB/a", 6)...)
	for _, s := range docs {
		if l, ok := spansOf(s); ok {
			f(s, l)
		}
	}
}

func TestGoodTextTellsEachByte(t *testing.T) {
	good := namesOfElements + plainBytes + "/"
	for c := 0; c < 256; c++ {
		b := string([]byte{byte(c)})
		if want := strings.Contains(good, b); impl.GoodText(b) != want || impl.GoodText("Aa"+b+"z/") != want {
			t.Errorf("GoodText of the byte %d is not %v", c, want)
		}
	}
	for _, s := range append(edgeDocs(), notDocs()...) {
		if !impl.GoodText(s) {
			t.Errorf("GoodText(%q) is false", s)
		}
	}
	for _, s := range notTexts() {
		if impl.GoodText(s) {
			t.Errorf("GoodText(%.40q) is true", s)
		}
	}
}

func TestGoodDocAsReadAnotherWay(t *testing.T) {
	docs := append(append(edgeDocs(), notDocs()...), someDocs()...)
	docs = append(docs, allTexts("AB/a", 6)...)
	for _, s := range docs {
		if _, want := spansOf(s); impl.GoodDoc(s) != want {
			t.Errorf("GoodDoc(%q) is not %v", s, want)
		}
	}
	for _, s := range edgeDocs() {
		if !impl.GoodDoc(s) {
			t.Errorf("GoodDoc(%q) is false", s)
		}
	}
	for _, s := range append(notDocs(), notTexts()...) {
		if impl.GoodDoc(s) {
			t.Errorf("GoodDoc(%.40q) is true", s)
		}
	}
}

// Promise 1: where an element begins and where it ends tell one another.
func TestMatchAndInnerTellElements(t *testing.T) {
	eachDoc(func(s string, l []span) {
		marked := make([]bool, len(s))
		for _, e := range l {
			marked[e.begin], marked[e.end] = true, true
			if k, ok := impl.MatchOf(s, e.begin); k != e.end || !ok {
				t.Errorf("MatchOf(%q, %d) = %d, %v, not %d", s, e.begin, k, ok, e.end)
			}
			if k, ok := impl.MatchOf(s, e.end); k != e.begin || !ok {
				t.Errorf("MatchOf(%q, %d) = %d, %v, not %d", s, e.end, k, ok, e.begin)
			}
			if p, ok := impl.InnerOf(s, e.begin); p != s[e.begin+1:e.end] || !ok {
				t.Errorf("InnerOf(%q, %d) = %q, %v", s, e.begin, p, ok)
			}
			if p, ok := impl.InnerOf(s, e.end); p != "" || ok {
				t.Errorf("InnerOf(%q, %d) = %q, %v where an element ends", s, e.end, p, ok)
			}
		}
		for at, is := range marked {
			if is {
				continue
			}
			if k, ok := impl.MatchOf(s, at); k != 0 || ok {
				t.Errorf("MatchOf(%q, %d) = %d, %v of a plain byte", s, at, k, ok)
			}
			if p, ok := impl.InnerOf(s, at); p != "" || ok {
				t.Errorf("InnerOf(%q, %d) = %q, %v of a plain byte", s, at, p, ok)
			}
		}
	})
}

func TestDepthIsHowManyAreAround(t *testing.T) {
	deepest := 0
	eachDoc(func(s string, l []span) {
		for at := 0; at <= len(s); at++ {
			d, ok := impl.DepthAt(s, at)
			if d != around(l, at) || !ok {
				t.Errorf("DepthAt(%q, %d) = %d, %v, not %d", s, at, d, ok, around(l, at))
			}
			deepest = max(deepest, d)
		}
	})
	if deepest != impl.MaxDeep {
		t.Errorf("no place with just MaxDeep elements around it was met, but %d", deepest)
	}
}

func TestCountsOfEachName(t *testing.T) {
	eachDoc(func(s string, l []span) {
		all := 0
		for i := range namesOfElements {
			name := namesOfElements[i : i+1]
			want := 0
			for _, e := range l {
				if s[e.begin:e.begin+1] == name {
					want++
				}
			}
			n, ok := impl.CountOf(s, name)
			if n != want || !ok {
				t.Errorf("CountOf(%q, %q) = %d, %v, not %d", s, name, n, ok, want)
			}
			all += n
		}
		if all != len(l) {
			t.Errorf("all names together are %d of %q, not %d", all, s, len(l))
		}
	})
}

// A stretch is a document if no element lies in it with but one of its ends.
func TestSafePlaceCutsNoElement(t *testing.T) {
	eachDoc(func(s string, l []span) {
		step := 1 + len(s)/25
		for from := 0; from <= len(s); from += step {
			for to := from; to <= len(s); to++ {
				want := true
				for _, e := range l {
					begins := from <= e.begin && e.begin < to
					ends := from <= e.end && e.end < to
					want = want && begins == ends
				}
				if safe, ok := impl.SafePlace(s, from, to); safe != want || !ok {
					t.Errorf("SafePlace(%q, %d, %d) = %v, %v, not %v", s, from, to, safe, ok, want)
				}
			}
		}
	})
}

// Promise 1: plain bytes and all others are together all bytes, each in their order.
func TestPlainAndOutlineAreAllBytes(t *testing.T) {
	texts := append(append(edgeDocs(), notDocs()...), someDocs()...)
	texts = append(texts, namesOfElements+plainBytes+"/", plainBytes, "/"+namesOfElements, "/a/B")
	texts = append(texts, allTexts("AB/a", 5)...)
	for _, s := range texts {
		p, ok1 := impl.PlainOf(s)
		o, ok2 := impl.OutlineOf(s)
		if !ok1 || !ok2 {
			t.Errorf("PlainOf and OutlineOf of %q: %v, %v", s, ok1, ok2)
		}
		if strings.Trim(p, plainBytes) != "" || strings.Trim(o, namesOfElements+"/") != "" {
			t.Errorf("of %q: %q has others than plain bytes, or %q plain ones", s, p, o)
		}
		i, j := 0, 0
		for k := range len(s) {
			if i < len(p) && s[k] == p[i] {
				i++
			} else if j < len(o) && s[k] == o[j] {
				j++
			} else {
				t.Errorf("the byte %d of %q is in neither %q nor %q", k, s, p, o)
				break
			}
		}
		if len(p)+len(o) != len(s) {
			t.Errorf("%q and %q have not as many bytes as %q", p, o, s)
		}
	}
}

// Promise 20: what is no good text has the zero answer of each function.
func TestWrongTextsHaveTheZeroAnswer(t *testing.T) {
	for _, s := range notTexts() {
		if p, ok := impl.PlainOf(s); p != "" || ok {
			t.Errorf("PlainOf(%.40q) = %.40q, %v", s, p, ok)
		}
		if p, ok := impl.OutlineOf(s); p != "" || ok {
			t.Errorf("OutlineOf(%.40q) = %.40q, %v", s, p, ok)
		}
	}
	for _, s := range append(notDocs(), notTexts()...) {
		if impl.GoodDoc(s) {
			t.Errorf("GoodDoc(%.40q) is true", s)
		}
		for at := -1; at <= min(len(s), impl.MaxDoc)+1; at++ {
			zeroAtPlace(t, s, at)
			if safe, ok := impl.SafePlace(s, 0, at); safe || ok {
				t.Errorf("SafePlace(%.40q, 0, %d) = %v, %v", s, at, safe, ok)
			}
			if safe, ok := impl.SafePlace(s, at, at); safe || ok {
				t.Errorf("SafePlace(%.40q, %d, %d) = %v, %v", s, at, at, safe, ok)
			}
		}
		for i := range namesOfElements {
			if n, ok := impl.CountOf(s, namesOfElements[i:i+1]); n != 0 || ok {
				t.Errorf("CountOf(%.40q, %q) = %d, %v", s, namesOfElements[i:i+1], n, ok)
			}
		}
	}
}

func zeroAtPlace(t *testing.T, s string, at int) {
	t.Helper()
	if d, ok := impl.DepthAt(s, at); d != 0 || ok {
		t.Errorf("DepthAt(%.40q, %d) = %d, %v", s, at, d, ok)
	}
	if k, ok := impl.MatchOf(s, at); k != 0 || ok {
		t.Errorf("MatchOf(%.40q, %d) = %d, %v", s, at, k, ok)
	}
	if p, ok := impl.InnerOf(s, at); p != "" || ok {
		t.Errorf("InnerOf(%.40q, %d) = %.40q, %v", s, at, p, ok)
	}
}

// Promise 20: places that a document has not.
func TestWrongPlacesHaveTheZeroAnswer(t *testing.T) {
	for _, s := range edgeDocs() {
		for _, at := range oddPlaces(s) {
			zeroAtPlace(t, s, at)
			for _, other := range append(oddPlaces(s), 0, len(s)/2, len(s)) {
				if safe, ok := impl.SafePlace(s, at, other); safe || ok {
					t.Errorf("SafePlace(%q, %d, %d) = %v, %v", s, at, other, safe, ok)
				}
				if safe, ok := impl.SafePlace(s, other, at); safe || ok {
					t.Errorf("SafePlace(%q, %d, %d) = %v, %v", s, other, at, safe, ok)
				}
			}
		}
		if k, ok := impl.MatchOf(s, len(s)); k != 0 || ok {
			t.Errorf("MatchOf(%q, its length) = %d, %v", s, k, ok)
		}
		if p, ok := impl.InnerOf(s, len(s)); p != "" || ok {
			t.Errorf("InnerOf(%q, its length) = %q, %v", s, p, ok)
		}
		for from := 1; from <= len(s); from++ {
			if safe, ok := impl.SafePlace(s, from, from-1); safe || ok {
				t.Errorf("SafePlace(%q, %d, %d) = %v, %v", s, from, from-1, safe, ok)
			}
		}
	}
}

// Promise 20: names that no element has.
func TestWrongNamesHaveTheZeroAnswer(t *testing.T) {
	names := []string{"", "AA", "AB", "A/", "A ", " A", "ABCDEF", "\u00c4", strings.Repeat("A", impl.MaxDoc+1)}
	for c := 0; c < 256; c++ {
		if b := string([]byte{byte(c)}); !strings.Contains(namesOfElements, b) {
			names = append(names, b)
		}
	}
	for _, s := range edgeDocs() {
		for _, name := range names {
			if n, ok := impl.CountOf(s, name); n != 0 || ok {
				t.Errorf("CountOf(%q, %.40q) = %d, %v", s, name, n, ok)
			}
		}
	}
}

// The limits may be met exactly; one more is too many.
func TestLimitsOfDocuments(t *testing.T) {
	if impl.MaxDoc != 300 || impl.MaxDeep != 12 {
		t.Fatal("the limits are others than the document's")
	}
	full := "A" + strings.Repeat("a", 298) + "/"
	if k, ok := impl.MatchOf(full, 0); k != 299 || !ok {
		t.Error(k, ok)
	}
	if k, ok := impl.MatchOf(full, 299); k != 0 || !ok {
		t.Error(k, ok)
	}
	if d, ok := impl.DepthAt(full, 300); d != 0 || !ok {
		t.Error(d, ok)
	}
	if p, ok := impl.InnerOf(full, 0); len(p) != 298 || !ok {
		t.Error(len(p), ok)
	}
	if safe, ok := impl.SafePlace(full, 0, 300); !safe || !ok {
		t.Error(safe, ok)
	}
	if safe, ok := impl.SafePlace(full, 300, 300); !safe || !ok {
		t.Error(safe, ok)
	}
	if impl.GoodText(full+"a") || impl.GoodDoc(full+"a") {
		t.Error("one byte more than MaxDoc is good")
	}
	deep := strings.Repeat("A", 12) + strings.Repeat("/", 12)
	if d, ok := impl.DepthAt(deep, 12); d != 12 || !ok {
		t.Error(d, ok)
	}
	if k, ok := impl.MatchOf(deep, 11); k != 12 || !ok {
		t.Error(k, ok)
	}
	if !impl.GoodText("A"+deep+"/") || impl.GoodDoc("A"+deep+"/") {
		t.Error("one element more than MaxDeep around a place: a good text, no document")
	}
}

func TestEmptyTextIsADocument(t *testing.T) {
	if !impl.GoodText("") || !impl.GoodDoc("") {
		t.Error("the empty text is not good")
	}
	if d, ok := impl.DepthAt("", 0); d != 0 || !ok {
		t.Error(d, ok)
	}
	if safe, ok := impl.SafePlace("", 0, 0); !safe || !ok {
		t.Error(safe, ok)
	}
	if n, ok := impl.CountOf("", "A"); n != 0 || !ok {
		t.Error(n, ok)
	}
	if p, ok := impl.PlainOf(""); p != "" || !ok {
		t.Error(p, ok)
	}
	if p, ok := impl.OutlineOf(""); p != "" || !ok {
		t.Error(p, ok)
	}
	if p, ok := impl.InnerOf("A/", 0); p != "" || !ok {
		t.Error(p, ok)
	}
}

// Promise 20: the answers share no memory with what was handed in.
func TestAnswersAreNewMemory(t *testing.T) {
	plain, outline, whole := strings.Repeat("a", 200), strings.Repeat("A", 200), "A"+strings.Repeat("b", 200)+"/"
	p, _ := impl.PlainOf(plain)
	o, _ := impl.OutlineOf(outline)
	in, _ := impl.InnerOf(whole, 0)
	for _, x := range [][2]string{{plain, p}, {outline, o}, {whole, in}} {
		given := uintptr(unsafe.Pointer(unsafe.StringData(x[0])))
		told := uintptr(unsafe.Pointer(unsafe.StringData(x[1])))
		if len(x[1]) != 200 || told < given+uintptr(len(x[0])) && given < told+uintptr(len(x[1])) {
			t.Errorf("%d bytes were told in the memory of %.10q", len(x[1]), x[0])
		}
	}
}

// FuzzDocs: no argument makes one of the nine functions panic, or tell more beside a false than nothing.
func FuzzDocs(f *testing.F) {
	for _, s := range append(append(edgeDocs(), notDocs()...), notTexts()...) {
		f.Add(s, 0, len(s), "A")
	}
	f.Add("aAb/Bc/", math.MinInt, math.MaxInt, "")
	f.Fuzz(func(t *testing.T, s string, from int, to int, name string) {
		_, doc := spansOf(s)
		if impl.GoodDoc(s) != doc {
			t.Errorf("GoodDoc(%q) is not %v", s, doc)
		}
		if p, ok := impl.PlainOf(s); ok != impl.GoodText(s) || !ok && p != "" {
			t.Errorf("PlainOf(%q) = %q, %v", s, p, ok)
		}
		if p, ok := impl.OutlineOf(s); ok != impl.GoodText(s) || !ok && p != "" {
			t.Errorf("OutlineOf(%q) = %q, %v", s, p, ok)
		}
		within := doc && 0 <= from && from <= len(s)
		if d, ok := impl.DepthAt(s, from); ok != within || !ok && d != 0 {
			t.Errorf("DepthAt(%q, %d) = %d, %v", s, from, d, ok)
		}
		if k, ok := impl.MatchOf(s, from); ok && !within || !ok && k != 0 {
			t.Errorf("MatchOf(%q, %d) = %d, %v", s, from, k, ok)
		}
		if p, ok := impl.InnerOf(s, from); ok && !within || !ok && p != "" {
			t.Errorf("InnerOf(%q, %d) = %q, %v", s, from, p, ok)
		}
		if safe, ok := impl.SafePlace(s, from, to); ok != (within && from <= to && to <= len(s)) || !ok && safe {
			t.Errorf("SafePlace(%q, %d, %d) = %v, %v", s, from, to, safe, ok)
		}
		known := len(name) == 1 && strings.Contains(namesOfElements, name)
		if n, ok := impl.CountOf(s, name); ok != (doc && known) || !ok && n != 0 {
			t.Errorf("CountOf(%q, %q) = %d, %v", s, name, n, ok)
		}
	})
}
