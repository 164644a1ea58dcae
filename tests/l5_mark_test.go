package tests

import (
	"cmp"
	"math"
	"slices"
	"strings"
	"testing"
	"unsafe"

	"loop.example/g00253/impl"
)

const longestStyle = 8
const styleBytes = "abcdefghijklmnopqrstuvwxyz"

func mark(from, to int, style string) impl.Mark {
	return impl.Mark{From: from, To: to, Style: style}
}

// moveByHand looks at the bytes that are made: without after the place lies
// just behind the last one that was ahead of it, with after just ahead of the
// first one that was behind it.
func moveByHand(op []impl.Part, at int, after bool) (int, bool) {
	if !opIsGood(op) {
		return 0, false
	}
	x := traceOf(op)
	if at < 0 || at > len(x.dropped) {
		return 0, false
	}
	last, first := 0, len(x.made)
	for k, o := range x.made {
		if o.from >= 0 && o.from < at {
			last = k + 1
		}
		if o.from >= at && first == len(x.made) {
			first = k
		}
	}
	if after {
		return first, true
	}
	return last, true
}

func styleIsGood(s string) bool {
	return s != "" && len(s) <= longestStyle && strings.Trim(s, styleBytes) == ""
}

func sizeIsGood(size int) bool {
	return size >= 0 && size <= impl.MaxDoc
}

// markIsGood asks for what chapter 5 says of a mark by itself.
func markIsGood(m impl.Mark, size int) bool {
	return sizeIsGood(size) && 0 <= m.From && m.From < m.To && m.To <= size && styleIsGood(m.Style)
}

// marksAreGood holds each mark against each other one.
func marksAreGood(l []impl.Mark, size int) bool {
	if !sizeIsGood(size) || len(l) > impl.MaxMarks {
		return false
	}
	for i, m := range l {
		if !markIsGood(m, size) {
			return false
		}
		for _, n := range l[:i] {
			if n.Style == m.Style && n.From <= m.To && m.From <= n.To {
				return false
			}
		}
	}
	return slices.IsSortedFunc(l, func(m, n impl.Mark) int {
		return cmp.Or(strings.Compare(m.Style, n.Style), m.From-n.From)
	})
}

// paint tells of each style which bytes have it. Good marks are told by that
// alone, since no two of one style touch.
type paint map[string][]bool

func (x paint) set(m impl.Mark, size int, on bool) {
	if x[m.Style] == nil {
		x[m.Style] = make([]bool, size)
	}
	for k := m.From; k < m.To; k++ {
		x[m.Style][k] = on
	}
}

func paintOf(l []impl.Mark, size int) paint {
	x := paint{}
	for _, m := range l {
		x.set(m, size, true)
	}
	return x
}

// marks is false where they are too many.
func (x paint) marks() ([]impl.Mark, bool) {
	var styles []string
	for s := range x {
		styles = append(styles, s)
	}
	slices.Sort(styles)
	var out []impl.Mark
	for _, s := range styles {
		for k, on := range x[s] {
			if on && (k == 0 || !x[s][k-1]) {
				out = append(out, mark(k, k, s))
			}
			if on {
				out[len(out)-1].To = k + 1
			}
		}
	}
	if len(out) > impl.MaxMarks {
		return nil, false
	}
	return out, true
}

func addByHand(l []impl.Mark, size int, m impl.Mark) ([]impl.Mark, bool) {
	if !marksAreGood(l, size) || !markIsGood(m, size) {
		return nil, false
	}
	x := paintOf(l, size)
	x.set(m, size, true)
	return x.marks()
}

func cutByHand(l []impl.Mark, size, from, to int, style string) ([]impl.Mark, bool) {
	if !marksAreGood(l, size) || from < 0 || from > to || to > size || !styleIsGood(style) {
		return nil, false
	}
	x := paintOf(l, size)
	x.set(mark(from, to, style), size, false)
	return x.marks()
}

func moveMarksByHand(op []impl.Part, l []impl.Mark) ([]impl.Mark, bool) {
	if !opIsGood(op) {
		return nil, false
	}
	takes, makes := sizesByHand(op)
	if !marksAreGood(l, takes) {
		return nil, false
	}
	x := paint{}
	for _, m := range l {
		from, _ := moveByHand(op, m.From, true)
		to, _ := moveByHand(op, m.To, false)
		x.set(mark(from, to, m.Style), makes, true)
	}
	return x.marks()
}

func stylesByHand(l []impl.Mark, size, at int) ([]string, bool) {
	if !marksAreGood(l, size) || at < 0 || at >= size {
		return nil, false
	}
	var out []string
	for s, on := range paintOf(l, size) {
		if on[at] {
			out = append(out, s)
		}
	}
	slices.Sort(out)
	return out, true
}

func coveredByHand(l []impl.Mark, size int, style string) (int, bool) {
	if !marksAreGood(l, size) || !styleIsGood(style) {
		return 0, false
	}
	n := 0
	for _, on := range paintOf(l, size)[style] {
		if on {
			n++
		}
	}
	return n, true
}

func checkPlace(t *testing.T, op []impl.Part, at int) {
	t.Helper()
	for _, after := range []bool{false, true} {
		want, told := moveByHand(op, at, after)
		if got, ok := impl.MovePlace(op, at, after); got != want || ok != told {
			t.Fatalf("MovePlace(%.200v, %d, %v) = %d, %v, not %d, %v", op, at, after, got, ok, want, told)
		}
	}
}

func checkMove(t *testing.T, op []impl.Part, l []impl.Mark) bool {
	t.Helper()
	want, told := moveMarksByHand(op, l)
	got, ok := impl.MoveMarks(op, l)
	if !slices.Equal(got, want) || ok != told {
		t.Fatalf("MoveMarks(%.200v, %.200v) = %v, %v, not %v, %v", op, l, got, ok, want, told)
	}
	if _, makes, _ := impl.SizesOf(op); ok && (!impl.GoodMarks(got, makes) || !marksAreGood(got, makes)) {
		t.Fatalf("MoveMarks(%v, %v) = %v: not good for %d bytes", op, l, got, makes)
	}
	return ok
}

func checkAdd(t *testing.T, l []impl.Mark, size int, m impl.Mark) bool {
	t.Helper()
	want, told := addByHand(l, size, m)
	got, ok := impl.AddMark(l, size, m)
	if !slices.Equal(got, want) || ok != told {
		t.Fatalf("AddMark(%.200v, %d, %v) = %v, %v, not %v, %v", l, size, m, got, ok, want, told)
	}
	if ok && !impl.GoodMarks(got, size) {
		t.Fatalf("AddMark(%v, %d, %v) = %v: not good", l, size, m, got)
	}
	return ok
}

func checkCut(t *testing.T, l []impl.Mark, size, from, to int, style string) bool {
	t.Helper()
	want, told := cutByHand(l, size, from, to, style)
	got, ok := impl.CutMarks(l, size, from, to, style)
	if !slices.Equal(got, want) || ok != told {
		t.Fatalf("CutMarks(%.200v, %d, %d, %d, %q) = %v, %v, not %v, %v", l, size, from, to, style, got, ok, want, told)
	}
	if ok && !impl.GoodMarks(got, size) {
		t.Fatalf("CutMarks(%v, %d, %d, %d, %q) = %v: not good", l, size, from, to, style, got)
	}
	return ok
}

func checkStyles(t *testing.T, l []impl.Mark, size, at int) {
	t.Helper()
	want, told := stylesByHand(l, size, at)
	if got, ok := impl.StylesAt(l, size, at); !slices.Equal(got, want) || ok != told {
		t.Fatalf("StylesAt(%.200v, %d, %d) = %v, %v, not %v, %v", l, size, at, got, ok, want, told)
	}
}

func checkCovered(t *testing.T, l []impl.Mark, size int, style string) {
	t.Helper()
	want, told := coveredByHand(l, size, style)
	if got, ok := impl.CoveredBy(l, size, style); got != want || ok != told {
		t.Fatalf("CoveredBy(%.200v, %d, %.20q) = %d, %v, not %d, %v", l, size, style, got, ok, want, told)
	}
}

func checkGood(t *testing.T, l []impl.Mark, size int) bool {
	t.Helper()
	want := marksAreGood(l, size)
	if ok := impl.GoodMarks(l, size); ok != want {
		t.Fatalf("GoodMarks(%.200v, %d) = %v", l, size, ok)
	}
	return want
}

// paintedMarks are all good marks of so many bytes with these styles.
func paintedMarks(size int, styles ...string) [][]impl.Mark {
	out := [][]impl.Mark{nil}
	for _, s := range styles {
		var more [][]impl.Mark
		for _, l := range out {
			for bits := range 1 << size {
				x := paintOf(l, size)
				for k := range size {
					x.set(mark(k, k+1, s), size, bits>>k&1 == 1)
				}
				painted, _ := x.marks()
				more = append(more, painted)
			}
		}
		out = more
	}
	return out
}

// marksOn are good marks, most of them many.
func (c *chooser) marksOn(size int) []impl.Mark {
	var l []impl.Mark
	for range c.next(120) {
		if size == 0 {
			break
		}
		from := c.next(size)
		m := mark(from, from+1+c.next(min(size-from, 1+size/12)), []string{"a", "aa", "b", "em", "zzzzzzzz"}[c.next(5)])
		if next, ok := addByHand(l, size, m); ok {
			l = next
		}
	}
	return l
}

// comb is n marks of one byte, each a byte apart from the next one.
func comb(n int, style string) []impl.Mark {
	var l []impl.Mark
	for k := range n {
		l = append(l, mark(2*k, 2*k+1, style))
	}
	return l
}

// Promise 5: the place behind a change is as said, at every place.
func TestPlacesAsSaid(t *testing.T) {
	eachChange(func(op []impl.Part, s string) {
		for at := range len(s) + 1 {
			checkPlace(t, op, at)
		}
		for _, at := range oddPlaces(s) {
			checkPlace(t, op, at)
		}
	})
	for _, s := range []string{"", "a", "ab", "abc", "abcd"} {
		for _, op := range bytesOps(s, "x") {
			for at := range len(s) + 1 {
				checkPlace(t, op, at)
			}
		}
	}
}

// Promise 5: places keep their order, with after and without, and without is
// never behind with.
func TestPlacesKeepTheirOrder(t *testing.T) {
	eachChange(func(op []impl.Part, s string) {
		_, makes, _ := impl.SizesOf(op)
		lastLow, lastHigh := 0, 0
		for at := range len(s) + 1 {
			low, ok1 := impl.MovePlace(op, at, false)
			high, ok2 := impl.MovePlace(op, at, true)
			if !ok1 || !ok2 || low < lastLow || high < lastHigh || low > high || low < 0 || high > makes {
				t.Fatalf("the place %d behind %v: %d without after, %d with; the one ahead of it: %d, %d", at, op, low, high, lastLow, lastHigh)
			}
			lastLow, lastHigh = low, high
		}
	})
}

// Promise 5: a byte that is kept is found at its place, from either side.
func TestKeptBytesAreFoundAtTheirPlaces(t *testing.T) {
	eachChange(func(op []impl.Part, s string) {
		made, _ := impl.ApplyOp(op, s)
		at := 0
		for _, p := range op {
			for k := at; k < at+p.Keep; k++ {
				from, _ := impl.MovePlace(op, k, true)
				to, _ := impl.MovePlace(op, k+1, false)
				if to != from+1 || made[from] != s[k] {
					t.Fatalf("the byte %d of %q lies at %d to %d of %q behind %v", k, s, from, to, made, op)
				}
			}
			at += p.Keep + len(p.Drop)
		}
	})
}

// Promise 5: 0 without after and the end with after stay the ends.
func TestEndsStayTheEnds(t *testing.T) {
	eachChange(func(op []impl.Part, s string) {
		_, makes, _ := impl.SizesOf(op)
		if at, ok := impl.MovePlace(op, 0, false); at != 0 || !ok {
			t.Fatalf("MovePlace(%v, 0, false) = %d, %v", op, at, ok)
		}
		if at, ok := impl.MovePlace(op, len(s), true); at != makes || !ok {
			t.Fatalf("MovePlace(%v, %d, true) = %d, %v, not %d", op, len(s), at, ok, makes)
		}
	})
}

// Promise 5: what is put just at a place is ahead of it with after and behind
// it without.
func TestPutJustAtAPlace(t *testing.T) {
	s := "abcdef"
	for at := range len(s) + 1 {
		for other := range len(s) + 1 {
			op, _ := impl.SpliceOp(s, at, at, "xyz")
			low, high := other, other
			if other > at {
				low += 3
			}
			if other >= at {
				high += 3
			}
			for _, after := range []bool{false, true} {
				want := low
				if after {
					want = high
				}
				if got, ok := impl.MovePlace(op, other, after); got != want || !ok {
					t.Errorf("MovePlace(%v, %d, %v) = %d, %v, not %d", op, other, after, got, ok, want)
				}
			}
		}
	}
}

// Promise 5: it does not matter how a change's parts were cut, nor which bytes
// it drops around a place.
func TestPlacesOfNormalChanges(t *testing.T) {
	eachChange(func(op []impl.Part, s string) {
		n, _ := impl.NormalOp(op)
		for at := range len(s) + 1 {
			for _, after := range []bool{false, true} {
				x, _ := impl.MovePlace(op, at, after)
				if y, ok := impl.MovePlace(n, at, after); x != y || !ok {
					t.Fatalf("MovePlace(%v, %d, %v) = %d, but of the normal one %d, %v", op, at, after, x, y, ok)
				}
			}
		}
	})
}

func TestPlacesOneByOne(t *testing.T) {
	for _, x := range []struct {
		op            []impl.Part
		at, low, high int
	}{
		{nil, 0, 0, 0},
		{[]impl.Part{}, 0, 0, 0},
		{[]impl.Part{put("xyz")}, 0, 0, 3},
		{[]impl.Part{keep(300)}, 300, 300, 300},
		{[]impl.Part{drop(longText(300))}, 150, 0, 0},
		{[]impl.Part{put(longText(300)), drop(longText(300))}, 0, 0, 300},
		{[]impl.Part{put(longText(300)), drop(longText(300))}, 150, 0, 300},
		{[]impl.Part{drop(longText(300)), put(longText(300))}, 300, 0, 300},
		{[]impl.Part{keep(2), drop("c"), keep(2)}, 1, 1, 1},
		{[]impl.Part{keep(2), drop("c"), keep(2)}, 2, 2, 2},
		{[]impl.Part{keep(2), drop("c"), keep(2)}, 3, 2, 2},
		{[]impl.Part{keep(2), drop("c"), keep(2)}, 4, 3, 3},
		{[]impl.Part{keep(2), put("xy"), keep(2)}, 1, 1, 1},
		{[]impl.Part{keep(2), put("xy"), keep(2)}, 2, 2, 4},
		{[]impl.Part{keep(2), put("xy"), keep(2)}, 3, 5, 5},
		// A Put at either side of the Drop, and among Drops: all just at the place.
		{[]impl.Part{keep(1), drop("b"), put("x"), keep(1)}, 1, 1, 2},
		{[]impl.Part{keep(1), drop("b"), put("x"), keep(1)}, 2, 1, 2},
		{[]impl.Part{keep(1), put("x"), drop("b"), keep(1)}, 1, 1, 2},
		{[]impl.Part{keep(1), put("x"), drop("b"), keep(1)}, 2, 1, 2},
		{[]impl.Part{keep(1), drop("bc"), put("x"), drop("de"), keep(1)}, 2, 1, 2},
		{[]impl.Part{keep(1), drop("bc"), put("x"), drop("de"), keep(1)}, 4, 1, 2},
		{[]impl.Part{put("x"), drop("a"), put("y"), drop("b"), put("z")}, 0, 0, 3},
		{[]impl.Part{put("x"), drop("a"), put("y"), drop("b"), put("z")}, 1, 0, 3},
		{[]impl.Part{put("x"), drop("a"), put("y"), drop("b"), put("z")}, 2, 0, 3},
		// A byte that is kept between: not at the place any more.
		{[]impl.Part{put("x"), keep(1), put("yy"), drop("b"), keep(1), put("zzz")}, 0, 0, 1},
		{[]impl.Part{put("x"), keep(1), put("yy"), drop("b"), keep(1), put("zzz")}, 1, 2, 4},
		{[]impl.Part{put("x"), keep(1), put("yy"), drop("b"), keep(1), put("zzz")}, 2, 2, 4},
		{[]impl.Part{put("x"), keep(1), put("yy"), drop("b"), keep(1), put("zzz")}, 3, 5, 8},
	} {
		if got, ok := impl.MovePlace(x.op, x.at, false); got != x.low || !ok {
			t.Errorf("MovePlace(%v, %d, false) = %d, %v, not %d", x.op, x.at, got, ok, x.low)
		}
		if got, ok := impl.MovePlace(x.op, x.at, true); got != x.high || !ok {
			t.Errorf("MovePlace(%v, %d, true) = %d, %v, not %d", x.op, x.at, got, ok, x.high)
		}
	}
}

// Chapter 5: which marks are good, of all small lists.
func TestGoodMarksAsSaid(t *testing.T) {
	var marks []impl.Mark
	for from := -1; from <= 4; from++ {
		for to := -1; to <= 4; to++ {
			for _, s := range []string{"a", "b", ""} {
				marks = append(marks, mark(from, to, s))
			}
		}
	}
	good := 0
	for size := -1; size <= 4; size++ {
		checkGood(t, nil, size)
		for _, m := range marks {
			checkGood(t, []impl.Mark{m}, size)
			for _, n := range marks {
				if checkGood(t, []impl.Mark{m, n}, size) {
					good++
				}
			}
		}
	}
	if good < 50 {
		t.Errorf("but %d lists of two marks were good", good)
	}
}

func TestGoodMarksOneByOne(t *testing.T) {
	for _, x := range []struct {
		l    []impl.Mark
		size int
		want bool
	}{
		{nil, 0, true},
		{[]impl.Mark{}, 0, true},
		{nil, impl.MaxDoc, true},
		{nil, -1, false},
		{nil, impl.MaxDoc + 1, false},
		{nil, math.MinInt, false},
		{nil, math.MaxInt, false},
		{[]impl.Mark{mark(0, 1, "a")}, 0, false},
		{[]impl.Mark{mark(0, 0, "a")}, 0, false},
		{[]impl.Mark{mark(0, 1, "a")}, 1, true},
		{[]impl.Mark{mark(0, impl.MaxDoc, "a")}, impl.MaxDoc, true},
		{[]impl.Mark{mark(0, impl.MaxDoc, "a")}, impl.MaxDoc - 1, false},
		{[]impl.Mark{mark(0, impl.MaxDoc+1, "a")}, impl.MaxDoc + 1, false},
		{[]impl.Mark{mark(-1, 1, "a")}, 3, false},
		{[]impl.Mark{mark(2, 2, "a")}, 3, false},
		{[]impl.Mark{mark(2, 1, "a")}, 3, false},
		{[]impl.Mark{mark(math.MinInt, math.MaxInt, "a")}, 3, false},
		{[]impl.Mark{mark(0, 1, "")}, 3, false},
		{[]impl.Mark{mark(0, 1, "abcdefgh")}, 3, true},
		{[]impl.Mark{mark(0, 1, "abcdefghi")}, 3, false},
		{[]impl.Mark{mark(0, 1, "aaaaaaaA")}, 3, false},
		{[]impl.Mark{mark(0, 1, "`")}, 3, false},
		{[]impl.Mark{mark(0, 1, "{")}, 3, false},
		{[]impl.Mark{mark(0, 1, "az")}, 3, true},
		{[]impl.Mark{mark(0, 1, "a b")}, 3, false},
		{[]impl.Mark{mark(0, 1, "\u00e4")}, 3, false},
		// Of one style: touching, one byte apart, overlapping, within, alike, not in order.
		{[]impl.Mark{mark(0, 1, "a"), mark(1, 2, "a")}, 3, false},
		{[]impl.Mark{mark(0, 1, "a"), mark(2, 3, "a")}, 3, true},
		{[]impl.Mark{mark(0, 2, "a"), mark(1, 3, "a")}, 3, false},
		{[]impl.Mark{mark(0, 3, "a"), mark(1, 2, "a")}, 3, false},
		{[]impl.Mark{mark(0, 1, "a"), mark(0, 1, "a")}, 3, false},
		{[]impl.Mark{mark(2, 3, "a"), mark(0, 1, "a")}, 3, false},
		// Of two styles: all that lies anywhere, in the order of the styles.
		{[]impl.Mark{mark(0, 3, "a"), mark(0, 3, "b")}, 3, true},
		{[]impl.Mark{mark(1, 2, "a"), mark(0, 1, "b")}, 3, true},
		{[]impl.Mark{mark(0, 1, "b"), mark(1, 2, "a")}, 3, false},
		{[]impl.Mark{mark(0, 1, "a"), mark(0, 1, "aa"), mark(0, 1, "b")}, 3, true},
		{[]impl.Mark{mark(0, 1, "aa"), mark(0, 1, "a")}, 3, false},
		{[]impl.Mark{mark(0, 1, "a"), mark(0, 1, "b"), mark(2, 3, "a")}, 3, false},
		{comb(impl.MaxMarks, "a"), 79, true},
		{comb(impl.MaxMarks, "a"), 78, false},
		{comb(impl.MaxMarks+1, "a"), 300, false},
		{append(comb(20, "a"), comb(20, "b")...), 39, true},
		{append(comb(20, "a"), comb(21, "b")...), 300, false},
	} {
		if got := impl.GoodMarks(x.l, x.size); got != x.want {
			t.Errorf("GoodMarks(%v, %d) = %v", x.l, x.size, got)
		}
	}
}

// Promise 5: AddMark makes one of it and all of its style that it touches or overlaps.
func TestAddMarkAsSaid(t *testing.T) {
	for size := range 6 {
		for _, l := range append(paintedMarks(size, "b"), paintedMarks(min(size, 3), "a", "c")...) {
			for from := -1; from <= size+1; from++ {
				for to := -1; to <= size+1; to++ {
					for _, s := range []string{"a", "b", "bb", "c", "B"} {
						checkAdd(t, l, size, mark(from, to, s))
					}
				}
			}
		}
	}
}

func TestAddMarkOneByOne(t *testing.T) {
	for _, x := range []struct {
		l    []impl.Mark
		size int
		m    impl.Mark
		want []impl.Mark
	}{
		{nil, 1, mark(0, 1, "a"), []impl.Mark{mark(0, 1, "a")}},
		{nil, 300, mark(0, 300, "a"), []impl.Mark{mark(0, 300, "a")}},
		// One byte apart, and touching, from both sides.
		{[]impl.Mark{mark(2, 4, "a")}, 9, mark(5, 6, "a"), []impl.Mark{mark(2, 4, "a"), mark(5, 6, "a")}},
		{[]impl.Mark{mark(2, 4, "a")}, 9, mark(4, 6, "a"), []impl.Mark{mark(2, 6, "a")}},
		{[]impl.Mark{mark(2, 4, "a")}, 9, mark(0, 1, "a"), []impl.Mark{mark(0, 1, "a"), mark(2, 4, "a")}},
		{[]impl.Mark{mark(2, 4, "a")}, 9, mark(0, 2, "a"), []impl.Mark{mark(0, 4, "a")}},
		// Around, within, and alike.
		{[]impl.Mark{mark(2, 4, "a")}, 9, mark(1, 5, "a"), []impl.Mark{mark(1, 5, "a")}},
		{[]impl.Mark{mark(1, 5, "a")}, 9, mark(2, 4, "a"), []impl.Mark{mark(1, 5, "a")}},
		{[]impl.Mark{mark(2, 4, "a")}, 9, mark(2, 4, "a"), []impl.Mark{mark(2, 4, "a")}},
		// Of several all that it touches or overlaps, and no others.
		{[]impl.Mark{mark(0, 1, "a"), mark(2, 3, "a"), mark(4, 5, "a"), mark(6, 7, "a"), mark(8, 9, "a")}, 9, mark(3, 6, "a"),
			[]impl.Mark{mark(0, 1, "a"), mark(2, 7, "a"), mark(8, 9, "a")}},
		{comb(40, "a"), 300, mark(0, 300, "a"), []impl.Mark{mark(0, 300, "a")}},
		// Those of other styles stay.
		{[]impl.Mark{mark(0, 4, "a"), mark(0, 4, "c")}, 9, mark(2, 6, "b"), []impl.Mark{mark(0, 4, "a"), mark(2, 6, "b"), mark(0, 4, "c")}},
		{[]impl.Mark{mark(0, 4, "b")}, 9, mark(2, 6, "a"), []impl.Mark{mark(2, 6, "a"), mark(0, 4, "b")}},
		{[]impl.Mark{mark(0, 4, "a")}, 9, mark(2, 6, "aa"), []impl.Mark{mark(0, 4, "a"), mark(2, 6, "aa")}},
		{[]impl.Mark{mark(0, 4, "aa")}, 9, mark(4, 6, "a"), []impl.Mark{mark(4, 6, "a"), mark(0, 4, "aa")}},
		{nil, 9, mark(8, 9, "abcdefgh"), []impl.Mark{mark(8, 9, "abcdefgh")}},
	} {
		got, ok := impl.AddMark(x.l, x.size, x.m)
		if !slices.Equal(got, x.want) || !ok {
			t.Errorf("AddMark(%v, %d, %v) = %v, %v, not %v", x.l, x.size, x.m, got, ok, x.want)
		}
	}
}

// Promise 5: CutMarks leaves nothing between with the style, and all else.
func TestCutMarksAsSaid(t *testing.T) {
	for size := range 6 {
		for _, l := range append(paintedMarks(size, "b"), paintedMarks(min(size, 3), "a", "c")...) {
			for from := -1; from <= size+1; from++ {
				for to := -1; to <= size+1; to++ {
					for _, s := range []string{"a", "b", "bb", "c", "B"} {
						checkCut(t, l, size, from, to, s)
					}
				}
			}
		}
	}
}

func TestCutMarksOneByOne(t *testing.T) {
	l := []impl.Mark{mark(1, 4, "a"), mark(5, 8, "a"), mark(0, 9, "b")}
	for _, x := range []struct {
		from, to int
		style    string
		want     []impl.Mark
	}{
		{0, 9, "a", []impl.Mark{mark(0, 9, "b")}},
		{0, 9, "b", []impl.Mark{mark(1, 4, "a"), mark(5, 8, "a")}},
		{0, 9, "c", l},
		{0, 9, "aa", l},
		{0, 1, "a", l},
		{4, 5, "a", l},
		{8, 9, "a", l},
		// Nothing lies between: nothing is cut, not even in two.
		{0, 0, "a", l},
		{1, 1, "a", l},
		{2, 2, "a", l},
		{4, 4, "a", l},
		{9, 9, "b", l},
		{3, 3, "b", l},
		{1, 2, "a", []impl.Mark{mark(2, 4, "a"), mark(5, 8, "a"), mark(0, 9, "b")}},
		{3, 4, "a", []impl.Mark{mark(1, 3, "a"), mark(5, 8, "a"), mark(0, 9, "b")}},
		{2, 3, "a", []impl.Mark{mark(1, 2, "a"), mark(3, 4, "a"), mark(5, 8, "a"), mark(0, 9, "b")}},
		{1, 4, "a", []impl.Mark{mark(5, 8, "a"), mark(0, 9, "b")}},
		{3, 6, "a", []impl.Mark{mark(1, 3, "a"), mark(6, 8, "a"), mark(0, 9, "b")}},
		{3, 6, "b", []impl.Mark{mark(1, 4, "a"), mark(5, 8, "a"), mark(0, 3, "b"), mark(6, 9, "b")}},
	} {
		got, ok := impl.CutMarks(l, 9, x.from, x.to, x.style)
		if !slices.Equal(got, x.want) || !ok {
			t.Errorf("CutMarks(%v, 9, %d, %d, %q) = %v, %v, not %v", l, x.from, x.to, x.style, got, ok, x.want)
		}
	}
}

// Promise 5: StylesAt tells the styles in order, CoveredBy counts the bytes that have one.
func TestStylesAndCoveredAsSaid(t *testing.T) {
	for size := range 5 {
		for _, l := range append(paintedMarks(size, "b", "ba"), paintedMarks(min(size, 2), "a", "c", "cc")...) {
			for at := -1; at <= size+1; at++ {
				checkStyles(t, l, size, at)
			}
			for _, s := range []string{"a", "b", "ba", "c", "cc", "", "A"} {
				checkCovered(t, l, size, s)
			}
		}
	}
}

func TestStylesAndCoveredOneByOne(t *testing.T) {
	l := []impl.Mark{mark(0, 2, "a"), mark(3, 5, "a"), mark(1, 4, "aa"), mark(0, 300, "b"), mark(299, 300, "zzzzzzzz")}
	for at, want := range map[int]string{0: "a b", 1: "a aa b", 2: "aa b", 3: "a aa b", 4: "a b", 5: "b", 298: "b", 299: "b zzzzzzzz"} {
		got, ok := impl.StylesAt(l, 300, at)
		if strings.Join(got, " ") != want || !ok {
			t.Errorf("StylesAt(%v, 300, %d) = %v, %v, not %s", l, at, got, ok, want)
		}
	}
	for style, want := range map[string]int{"a": 4, "aa": 3, "b": 300, "zzzzzzzz": 1, "c": 0, "aaa": 0} {
		if got, ok := impl.CoveredBy(l, 300, style); got != want || !ok {
			t.Errorf("CoveredBy(%v, 300, %q) = %d, %v, not %d", l, style, got, ok, want)
		}
	}
	if got, ok := impl.StylesAt(nil, 1, 0); len(got) > 0 || !ok {
		t.Errorf("StylesAt of no marks = %v, %v", got, ok)
	}
	if got, ok := impl.StylesAt(nil, 0, 0); len(got) > 0 || ok {
		t.Errorf("StylesAt of no bytes = %v, %v", got, ok)
	}
	if got, ok := impl.CoveredBy(nil, 0, "a"); got != 0 || !ok {
		t.Errorf("CoveredBy of no bytes = %d, %v", got, ok)
	}
}

// Promise 5: MoveMarks moves From with after and To without, at every place of
// small texts.
func TestMoveMarksAsSaid(t *testing.T) {
	for size, s := range []string{"", "a", "ab", "abc", "abcd"} {
		marks := paintedMarks(size, "b")
		if size < 4 {
			marks = append(marks, paintedMarks(size, "a", "c")...)
		}
		for _, op := range bytesOps(s, "x") {
			for _, l := range marks {
				if !checkMove(t, op, l) {
					t.Fatalf("MoveMarks(%v, %v) is not told", op, l)
				}
			}
		}
	}
	for _, op := range smallOps(4) {
		for _, l := range [][]impl.Mark{nil, {mark(0, 1, "a")}, {mark(1, 2, "a")}, {mark(0, 1, "a"), mark(2, 3, "a"), mark(1, 3, "b")}} {
			checkMove(t, op, l)
		}
	}
}

func TestMoveMarksOneByOne(t *testing.T) {
	for _, x := range []struct {
		op      []impl.Part
		l, want []impl.Mark
	}{
		{nil, nil, nil},
		{[]impl.Part{put("x")}, nil, nil},
		{[]impl.Part{keep(4)}, []impl.Mark{mark(0, 4, "a"), mark(1, 2, "b")}, []impl.Mark{mark(0, 4, "a"), mark(1, 2, "b")}},
		// What is put just at an end does not lie within; what is put among does.
		{[]impl.Part{keep(1), put("xy"), keep(3)}, []impl.Mark{mark(1, 3, "a")}, []impl.Mark{mark(3, 5, "a")}},
		{[]impl.Part{keep(3), put("xy"), keep(1)}, []impl.Mark{mark(1, 3, "a")}, []impl.Mark{mark(1, 3, "a")}},
		{[]impl.Part{keep(2), put("xy"), keep(2)}, []impl.Mark{mark(1, 3, "a")}, []impl.Mark{mark(1, 5, "a")}},
		{[]impl.Part{put("x"), keep(4), put("y")}, []impl.Mark{mark(0, 4, "a")}, []impl.Mark{mark(1, 5, "a")}},
		// What is dropped at an end, with a put beside it.
		{[]impl.Part{drop("a"), put("x"), keep(3)}, []impl.Mark{mark(0, 4, "a")}, []impl.Mark{mark(1, 4, "a")}},
		{[]impl.Part{keep(3), put("x"), drop("d")}, []impl.Mark{mark(0, 4, "a")}, []impl.Mark{mark(0, 3, "a")}},
		// Those that are empty then go, those that would be turned round, too.
		{[]impl.Part{keep(1), drop("bc"), keep(1)}, []impl.Mark{mark(1, 3, "a"), mark(0, 4, "b")}, []impl.Mark{mark(0, 2, "b")}},
		{[]impl.Part{keep(1), drop("bc"), put("x"), keep(1)}, []impl.Mark{mark(1, 3, "a"), mark(2, 3, "b")}, nil},
		{[]impl.Part{drop("abcd")}, []impl.Mark{mark(0, 4, "a")}, nil},
		{[]impl.Part{put("xx"), drop("abcd")}, []impl.Mark{mark(0, 1, "a"), mark(2, 4, "a")}, nil},
		// Those of one style that touch then are one, those of two styles not.
		{[]impl.Part{keep(1), drop("bc"), keep(1)}, []impl.Mark{mark(0, 1, "a"), mark(3, 4, "a")}, []impl.Mark{mark(0, 2, "a")}},
		{[]impl.Part{keep(1), drop("bc"), keep(1)}, []impl.Mark{mark(0, 1, "a"), mark(3, 4, "b")}, []impl.Mark{mark(0, 1, "a"), mark(1, 2, "b")}},
		{[]impl.Part{keep(1), drop("bc"), put("x"), keep(1)}, []impl.Mark{mark(0, 1, "a"), mark(3, 4, "a")}, []impl.Mark{mark(0, 1, "a"), mark(2, 3, "a")}},
		{[]impl.Part{keep(1), drop("b"), keep(1), drop("d"), keep(1)}, []impl.Mark{mark(0, 1, "a"), mark(2, 3, "a"), mark(4, 5, "a")}, []impl.Mark{mark(0, 3, "a")}},
		{[]impl.Part{keep(1), drop("bcd"), keep(1)}, []impl.Mark{mark(0, 1, "a"), mark(2, 3, "a"), mark(4, 5, "a")}, []impl.Mark{mark(0, 2, "a")}},
		// As many as there may be, and all of them one.
		{[]impl.Part{keep(79)}, comb(40, "a"), comb(40, "a")},
		{fence(60, keep(1), drop("b")), comb(30, "a"), []impl.Mark{mark(0, 30, "a")}},
		{[]impl.Part{keep(300)}, []impl.Mark{mark(0, 300, "abcdefgh")}, []impl.Mark{mark(0, 300, "abcdefgh")}},
	} {
		got, ok := impl.MoveMarks(x.op, x.l)
		if !slices.Equal(got, x.want) || !ok {
			t.Errorf("MoveMarks(%v, %v) = %v, %v, not %v", x.op, x.l, got, ok, x.want)
		}
	}
}

// Promise 5: the bytes that had a style and are kept have it, and no others
// that are kept.
func TestKeptBytesKeepTheirStyles(t *testing.T) {
	c := &chooser{50}
	for k := range 300 {
		s := c.text(c.next(impl.MaxDoc + 1))
		op, l := c.opOn(s, 1+k%impl.MaxParts), c.marksOn(len(s))
		moved, _ := impl.MoveMarks(op, l)
		_, makes, _ := impl.SizesOf(op)
		for to, o := range traceOf(op).made {
			if o.from < 0 {
				continue
			}
			x, _ := impl.StylesAt(l, len(s), o.from)
			if y, ok := impl.StylesAt(moved, makes, to); !slices.Equal(x, y) || !ok {
				t.Fatalf("of %v and %v: the byte %d has %v, and behind the change, at %d, %v", op, l, o.from, x, to, y)
			}
		}
	}
}

func TestMarksOfLongTexts(t *testing.T) {
	c := &chooser{5}
	most, refused := 0, 0
	for k := range 600 {
		s := c.text(c.next(impl.MaxDoc + 1))
		l := c.marksOn(len(s))
		most = max(most, len(l))
		checkGood(t, l, len(s))
		checkMove(t, c.opOn(s, 1+k%impl.MaxParts), l)
		for range 20 {
			from, to := c.next(len(s)+1), c.next(len(s)+1)
			style := []string{"a", "aa", "b", "em", "q", "zzzzzzzz"}[c.next(6)]
			if !checkCut(t, l, len(s), min(from, to), max(from, to), style) {
				refused++
			}
			checkAdd(t, l, len(s), mark(min(from, to), max(from, to), style))
			checkStyles(t, l, len(s), from)
			checkCovered(t, l, len(s), style)
		}
	}
	if most != impl.MaxMarks || refused == 0 {
		t.Errorf("at most %d marks, %d cuts beyond the limit", most, refused)
	}
}

// The limits may be met exactly; one more is too many.
func TestLimitsOfMarks(t *testing.T) {
	full := comb(impl.MaxMarks, "b")
	less := comb(impl.MaxMarks-1, "b")
	wide := []impl.Mark{mark(0, 3, "a")}
	for _, x := range []struct {
		l    []impl.Mark
		m    impl.Mark
		want bool
	}{
		{less, mark(100, 101, "b"), true},
		{full, mark(100, 101, "b"), false},
		{full, mark(80, 81, "b"), false},
		{full, mark(79, 80, "b"), true},
		{full, mark(1, 2, "b"), true},
		{full, mark(0, 1, "b"), true},
		{full, mark(0, 1, "a"), false},
		{full, mark(0, 300, "c"), false},
		{less, mark(0, 300, "a"), true},
	} {
		if got, ok := impl.AddMark(x.l, 300, x.m); ok != x.want || !ok && len(got) > 0 {
			t.Errorf("AddMark of %d marks and %v: %d marks, %v", len(x.l), x.m, len(got), ok)
		}
	}
	for _, x := range []struct {
		l        []impl.Mark
		from, to int
		style    string
		want     int
	}{
		{append(slices.Clone(wide), less...), 1, 2, "a", 0},
		{append(slices.Clone(wide), less[:38]...), 1, 2, "a", 40},
		{append(slices.Clone(wide), less...), 0, 1, "a", 40},
		{append(slices.Clone(wide), less...), 2, 3, "a", 40},
		{append(slices.Clone(wide), less...), 1, 1, "a", 40},
		{append(slices.Clone(wide), less...), 0, 3, "a", 39},
		{full, 1, 2, "b", 40},
		{full, 0, 300, "b", 0},
	} {
		got, ok := impl.CutMarks(x.l, 300, x.from, x.to, x.style)
		if len(got) != x.want || ok != (x.want > 0 || x.to == 300) {
			t.Errorf("CutMarks of %d marks, %d to %d, %q: %d marks, %v", len(x.l), x.from, x.to, x.style, len(got), ok)
		}
	}
}

// notMarks are marks that are not good for 9 bytes, nor for any other text of
// so many or less.
func notMarks() [][]impl.Mark {
	out := [][]impl.Mark{
		{mark(0, 1, "b"), mark(2, 3, "a")},
		{mark(4, 5, "a"), mark(0, 1, "a")},
		{mark(0, 1, "a"), mark(1, 2, "a")},
		{mark(0, 3, "a"), mark(2, 5, "a")},
		{mark(0, 5, "a"), mark(2, 3, "a")},
		{mark(0, 1, "a"), mark(0, 1, "a")},
		{mark(0, 1, "a"), mark(0, 1, "b"), mark(1, 2, "b")},
		{mark(0, 1, "a"), mark(0, 1, "b"), mark(2, 3, "a")},
		comb(impl.MaxMarks+1, "a"),
		comb(300000, "a"),
		make([]impl.Mark, 1),
		make([]impl.Mark, impl.MaxMarks),
		make([]impl.Mark, impl.MaxMarks+1),
	}
	for _, m := range notMark() {
		out = append(out, []impl.Mark{m}, []impl.Mark{mark(0, 1, "a"), m}, []impl.Mark{m, mark(8, 9, "z")})
	}
	return out
}

// notMark are marks that are none by themselves, for 9 bytes or less.
func notMark() []impl.Mark {
	out := []impl.Mark{{}, mark(0, 0, "b"), mark(3, 3, "b"), mark(9, 9, "b"), mark(4, 2, "b"), mark(-1, 2, "b"), mark(-2, -1, "b"), mark(0, 10, "b"), mark(9, 10, "b"),
		mark(math.MinInt, 1, "b"), mark(0, math.MaxInt, "b"), mark(0, math.MinInt, "b"), mark(math.MaxInt, math.MinInt, "b"), mark(math.MinInt, math.MaxInt, "b"), mark(math.MaxInt, math.MaxInt, "b")}
	for _, s := range notStyles() {
		out = append(out, mark(2, 4, s))
	}
	return out
}

func notStyles() []string {
	out := []string{"", "abcdefghi", strings.Repeat("b", 1000000), "bB", "Bb", "b ", " b", "b.b", "b\x00", "b\xff", "\u00e4", "\u0131", "b\u200b"}
	for c := range 256 {
		if b := string([]byte{byte(c)}); !strings.Contains(styleBytes, b) {
			out = append(out, b, "b"+b, "bbbbbbb"+b)
		}
	}
	return out
}

// zeroOfMarks asks for the zero answer of each function that marks are handed in to.
func zeroOfMarks(t *testing.T, number int, l []impl.Mark, size int) {
	t.Helper()
	if impl.GoodMarks(l, size) {
		t.Errorf("GoodMarks of the marks %d, %d bytes", number, size)
	}
	if got, ok := impl.AddMark(l, size, mark(0, 1, "a")); len(got) > 0 || ok {
		t.Errorf("AddMark of the marks %d, %d bytes: %d marks, %v", number, size, len(got), ok)
	}
	if got, ok := impl.CutMarks(l, size, 0, 0, "a"); len(got) > 0 || ok {
		t.Errorf("CutMarks of the marks %d, %d bytes: %d marks, %v", number, size, len(got), ok)
	}
	if got, ok := impl.CutMarks(l, size, 0, size, "a"); len(got) > 0 || ok {
		t.Errorf("CutMarks of the marks %d, %d bytes, all: %d marks, %v", number, size, len(got), ok)
	}
	if got, ok := impl.StylesAt(l, size, 0); len(got) > 0 || ok {
		t.Errorf("StylesAt of the marks %d, %d bytes: %d styles, %v", number, size, len(got), ok)
	}
	if got, ok := impl.CoveredBy(l, size, "a"); got != 0 || ok {
		t.Errorf("CoveredBy of the marks %d, %d bytes: %d, %v", number, size, got, ok)
	}
	if op, fits := impl.KeepAll(size); fits {
		if got, ok := impl.MoveMarks(op, l); len(got) > 0 || ok {
			t.Errorf("MoveMarks of the marks %d, %d bytes: %d marks, %v", number, size, len(got), ok)
		}
	}
}

// Promise 20: marks and sizes that are not good have the zero answer of each function.
func TestWrongMarksHaveTheZeroAnswer(t *testing.T) {
	for number, l := range notMarks() {
		for size := range 10 {
			zeroOfMarks(t, number, l, size)
		}
	}
	for number, l := range [][]impl.Mark{nil, {}, {mark(0, 1, "a")}, {mark(0, 300, "a")}, {mark(0, 301, "a")}} {
		for _, size := range []int{math.MinInt, -impl.MaxDoc, -1, impl.MaxDoc + 1, math.MaxInt} {
			zeroOfMarks(t, number, l, size)
		}
	}
	zeroOfMarks(t, -1, comb(5, "a"), 8)
}

// Promise 20: changes that are not good have the zero answer.
func TestWrongChangesOfPlacesHaveTheZeroAnswer(t *testing.T) {
	for number, op := range notOps() {
		for _, at := range append(oddPlaces(""), 0) {
			for _, after := range []bool{false, true} {
				if got, ok := impl.MovePlace(op, at, after); got != 0 || ok {
					t.Errorf("MovePlace of the change %d, %d, %v: %d, %v", number, at, after, got, ok)
				}
			}
		}
		for _, l := range [][]impl.Mark{nil, {}, {mark(0, 1, "a")}, {mark(0, 300, "a")}} {
			if got, ok := impl.MoveMarks(op, l); len(got) > 0 || ok {
				t.Errorf("MoveMarks of the change %d: %v, %v", number, got, ok)
			}
		}
	}
}

// Promise 20: marks that are good for another text than the change's have the zero answer.
func TestMarksThatDoNotFitTheChange(t *testing.T) {
	for _, op := range [][]impl.Part{nil, {put("xyz")}, {keep(2)}, {keep(2), put("x")}, {put("xyz"), drop("ab")}} {
		if got, ok := impl.MoveMarks(op, []impl.Mark{mark(0, 3, "a")}); len(got) > 0 || ok {
			t.Errorf("MoveMarks(%v) of a mark of 3 bytes = %v, %v", op, got, ok)
		}
		if got, ok := impl.MoveMarks(op, nil); len(got) > 0 || !ok {
			t.Errorf("MoveMarks(%v) of no marks = %v, %v", op, got, ok)
		}
	}
}

// Promise 20: places, stretches, styles and marks that are not as said have the zero answer.
func TestWrongPlacesAndStylesHaveTheZeroAnswer(t *testing.T) {
	l := []impl.Mark{mark(1, 4, "b"), mark(5, 8, "b")}
	for number, m := range notMark() {
		if got, ok := impl.AddMark(l, 9, m); len(got) > 0 || ok {
			t.Errorf("AddMark of the mark %d = %v, %v", number, got, ok)
		}
	}
	for number, s := range notStyles() {
		if got, ok := impl.CutMarks(l, 9, 2, 3, s); len(got) > 0 || ok {
			t.Errorf("CutMarks of the style %d = %v, %v", number, got, ok)
		}
		if got, ok := impl.CoveredBy(l, 9, s); got != 0 || ok {
			t.Errorf("CoveredBy of the style %d = %d, %v", number, got, ok)
		}
	}
	for _, at := range append(oddPlaces("123456789"), 9) {
		if got, ok := impl.StylesAt(l, 9, at); len(got) > 0 || ok {
			t.Errorf("StylesAt(%v, 9, %d) = %v, %v", l, at, got, ok)
		}
	}
	for _, x := range [][2]int{{-1, 0}, {-1, 5}, {5, 10}, {10, 10}, {5, 4}, {9, 0}, {math.MinInt, math.MaxInt}, {0, math.MaxInt}, {math.MinInt, 3}, {math.MaxInt, math.MinInt}, {-3, -2}} {
		if got, ok := impl.CutMarks(l, 9, x[0], x[1], "b"); len(got) > 0 || ok {
			t.Errorf("CutMarks(%v, 9, %d, %d) = %v, %v", l, x[0], x[1], got, ok)
		}
	}
}

func shareMarks(a, b []impl.Mark) bool {
	size := unsafe.Sizeof(impl.Mark{})
	x, y := uintptr(unsafe.Pointer(unsafe.SliceData(a))), uintptr(unsafe.Pointer(unsafe.SliceData(b)))
	if cap(a) > 0 && cap(b) > 0 && x < y+uintptr(cap(b))*size && y < x+uintptr(cap(a))*size {
		return true
	}
	for _, m := range a {
		for _, n := range b {
			if shareText(m.Style, n.Style) {
				return true
			}
		}
	}
	return false
}

// Promise 20: the answers share no memory with what was handed in.
func TestMarksAreNewMemory(t *testing.T) {
	style := strings.Clone("cover")
	l := []impl.Mark{mark(0, 3, strings.Clone("b")), mark(1, 4, style), mark(6, 9, strings.Clone("cover"))}
	m := mark(4, 6, style)
	op := []impl.Part{keep(9)}
	moved, ok1 := impl.MoveMarks(op, l)
	added, ok2 := impl.AddMark(l, 9, m)
	other, ok3 := impl.AddMark(nil, 9, m)
	cut, ok4 := impl.CutMarks(l, 9, 2, 3, style)
	none, ok5 := impl.CutMarks(l, 9, 2, 2, style)
	styles, ok6 := impl.StylesAt(l, 9, 2)
	if !ok1 || !ok2 || !ok3 || !ok4 || !ok5 || !ok6 || len(styles) != 2 {
		t.Fatal("not all is told")
	}
	for k, told := range [][]impl.Mark{moved, added, other, cut, none} {
		if shareMarks(told, l) || shareMarks(told, []impl.Mark{m}) {
			t.Errorf("the answer %d lies in the memory of what was handed in", k)
		}
	}
	for _, s := range styles {
		for _, n := range l {
			if shareText(s, n.Style) {
				t.Errorf("the style %q lies in the memory of what was handed in", s)
			}
		}
	}
}

// Promise 20: nothing is written into an argument, nor behind its length, nor read there.
func TestMarksStayAsTheyWere(t *testing.T) {
	behind := mark(7, 8, "zz")
	size := 9
	lists := append(paintedMarks(4, "a", "b"), notMarks()...)
	op := []impl.Part{drop("a"), keep(3), put("xy"), keep(5)}
	for number, l := range lists {
		long := append(slices.Clone(l), behind, behind)
		before := slices.Clone(long)
		given := long[:len(l)]
		fits := marksAreGood(l, size)
		if impl.GoodMarks(given, size) != fits {
			t.Errorf("the marks %d are read beyond their length, or not wholly", number)
		}
		moved, _ := impl.MoveMarks(op, given)
		added, _ := impl.AddMark(given, size, mark(1, 3, "a"))
		cut, _ := impl.CutMarks(given, size, 1, 3, "a")
		none, _ := impl.CutMarks(given, size, 2, 2, "a")
		impl.StylesAt(given, size, 2)
		if n, ok := impl.CoveredBy(given, size, "zz"); n != 0 || ok != fits {
			t.Errorf("CoveredBy of the marks %d: %d, %v", number, n, ok)
		}
		for _, told := range [][]impl.Mark{moved, added, cut, none} {
			clear(told[:cap(told)])
		}
		if !slices.Equal(long, before) {
			t.Errorf("the marks %d were changed", number)
		}
	}
	if !slices.Equal(op, []impl.Part{drop("a"), keep(3), put("xy"), keep(5)}) {
		t.Errorf("the change was changed: %v", op)
	}
}

// FuzzMarks: no argument makes one of the seven functions panic, or tell another thing than the document says.
func FuzzMarks(f *testing.F) {
	f.Add(0, 2, "em", 4, 6, "em", 2, 4, "up", 6, 3, 2, "xy", "cd")
	f.Add(-1, 1, "A", 0, 300, "abcdefgh", 0, 301, "abcdefghi", 300, 300, 0, "", "")
	f.Add(1, 2, "a", 1, 2, "a", 9, 9, "", 1<<62, -1, 1<<62, "\xff", "G")
	f.Fuzz(func(t *testing.T, f1, t1 int, s1 string, f2, t2 int, s2 string, f3, t3 int, s3 string, size, at, kept int, puts, drops string) {
		l := []impl.Mark{mark(f1, t1, s1), mark(f2, t2, s2)}
		m := mark(f3, t3, s3)
		for _, op := range opsOf(3, keep(kept), put(puts), drop(drops)) {
			checkPlace(t, op, at)
			for k := range 3 {
				checkMove(t, op, l[:k])
			}
		}
		for k := range 3 {
			checkGood(t, l[:k], size)
			checkAdd(t, l[:k], size, m)
			checkCut(t, l[:k], size, f3, t3, s3)
			checkStyles(t, l[:k], size, at)
			checkCovered(t, l[:k], size, s3)
		}
	})
}
