package tests

import (
	"fmt"
	"math"
	"math/big"
	"slices"
	"strings"
	"testing"
	"time"
	"unsafe"

	"loop.example/g00253/impl"
)

const mostPieces = (impl.MaxRope + 1) / 2

// twig is a rope as a tree: a tip is a piece, all others join both sides. It is
// nil where there is nothing.
type twig struct {
	left, right *twig
	whole       string
	tips        []string
	deep        int
}

func tip(text string) *twig { return &twig{whole: text, tips: []string{text}} }

func (x *twig) isTip() bool { return x.left == nil }

func (x *twig) boughs() int { return 2*len(x.tips) - 1 }

func fork(left, right *twig) *twig {
	if left == nil || right == nil {
		return oneOf(left, right)
	}
	return &twig{left, right, left.whole + right.whole, slices.Concat(left.tips, right.tips), 1 + max(left.deep, right.deep)}
}

func oneOf(x, y *twig) *twig {
	if x == nil {
		return y
	}
	return x
}

// grown reads what told writes: "[ab|[c|d]]".
func grown(s string) *twig {
	if s == "" {
		return nil
	}
	if s[0] != '[' {
		return tip(s)
	}
	deep, bar := 0, 0
	for i, c := range s {
		switch {
		case c == '[':
			deep++
		case c == ']':
			deep--
		case c == '|' && deep == 1:
			bar = i
		}
	}
	return fork(grown(s[1:bar]), grown(s[bar+1:len(s)-1]))
}

func (x *twig) told() string {
	switch {
	case x == nil:
		return ""
	case x.isTip():
		return x.whole
	}
	return "[" + x.left.told() + "|" + x.right.told() + "]"
}

// laid reckons each place from how many boughs lie ahead.
func laid(x *twig, first int) []impl.Bough {
	if x.isTip() {
		return []impl.Bough{{Left: -1, Right: -1, Text: x.whole, Size: len(x.whole)}}
	}
	behind := first + x.left.boughs()
	b := impl.Bough{Left: behind - 1, Right: behind + x.right.boughs() - 1, Size: len(x.whole), Deep: x.deep}
	return append(append(laid(x.left, first), laid(x.right, behind)...), b)
}

func ropeFrom(x *twig) impl.Rope {
	if x == nil {
		return impl.Rope{}
	}
	return impl.Rope{Boughs: laid(x, 0)}
}

// twigAt goes down from a bough, and tells the first one of all that are in it.
func twigAt(l []impl.Bough, k int) (*twig, int, bool) {
	if k < 0 {
		return nil, 0, false
	}
	b := l[k]
	if b.Left == -1 && b.Right == -1 {
		good := b.Text != "" && len(b.Text) <= impl.MaxPiece && textIsGood(b.Text) && b.Size == len(b.Text) && b.Deep == 0
		return tip(b.Text), k, good
	}
	right, behind, ok := twigAt(l, k-1)
	if !ok || b.Right != k-1 || b.Left != behind-1 || b.Text != "" {
		return nil, 0, false
	}
	left, first, ok := twigAt(l, behind-1)
	if !ok {
		return nil, 0, false
	}
	good := b.Size == l[b.Left].Size+l[b.Right].Size && b.Deep == 1+max(l[b.Left].Deep, l[b.Right].Deep)
	return fork(left, right), first, good
}

// twigOf is false of a rope that is not good.
func twigOf(r impl.Rope) (*twig, bool) {
	n := len(r.Boughs)
	if n == 0 || n > impl.MaxRope {
		return nil, n == 0
	}
	x, first, ok := twigAt(r.Boughs, n-1)
	if !ok || first != 0 || len(x.whole) > impl.MaxDoc {
		return nil, false
	}
	return x, true
}

func (x *twig) isGood() bool {
	return x == nil || x.boughs() <= impl.MaxRope && len(x.whole) <= impl.MaxDoc
}

func (x *twig) text() string {
	if x == nil {
		return ""
	}
	return x.whole
}

func (x *twig) pieces() []string {
	if x == nil {
		return nil
	}
	return x.tips
}

// cutOut is what lies from one place to another.
func (x *twig) cutOut(from, to int) *twig {
	if x == nil || max(from, 0) >= min(to, len(x.whole)) {
		return nil
	}
	if x.isTip() {
		return tip(x.whole[max(from, 0):min(to, len(x.whole))])
	}
	n := len(x.left.whole)
	return fork(x.left.cutOut(from, to), x.right.cutOut(from-n, to-n))
}

// through has for each byte how many boughs are gone through to it.
func (x *twig) through() []int {
	if x == nil {
		return nil
	}
	if x.isTip() {
		return slices.Repeat([]int{1}, len(x.whole))
	}
	out := append(x.left.through(), x.right.through()...)
	for i := range out {
		out[i]++
	}
	return out
}

// edited goes byte by byte: a piece begins where a part begins, and where one
// began.
func (x *twig) edited(op []impl.Part) *twig {
	begins := map[int]bool{}
	at := 0
	for _, p := range x.pieces() {
		begins[at] = true
		at += len(p)
	}
	var out []string
	at = 0
	for _, p := range op {
		for k := range p.Keep {
			if k == 0 || begins[at] {
				out = append(out, "")
			}
			out[len(out)-1] += x.whole[at : at+1]
			at++
		}
		for k := range len(p.Put) {
			if k%impl.MaxPiece == 0 {
				out = append(out, "")
			}
			out[len(out)-1] += p.Put[k : k+1]
		}
		at += len(p.Drop)
	}
	return leaning(out)
}

// leaning joins each piece with all ahead.
func leaning(pieces []string) *twig {
	var x *twig
	for _, p := range pieces {
		x = fork(x, tip(p))
	}
	return x
}

// leaningBack joins each piece with all behind.
func leaningBack(pieces []string) *twig {
	var x *twig
	for _, p := range slices.Backward(pieces) {
		x = fork(tip(p), x)
	}
	return x
}

func chopped(s string, n int) []string {
	var out []string
	for at := 0; at < len(s); at += n {
		out = append(out, s[at:min(at+n, len(s))])
	}
	return out
}

// isEven tells whether of each bough's pieces the first half, rounded up, stands
// at the left: there is one such rope of some pieces.
func (x *twig) isEven() bool {
	if x == nil || x.isTip() {
		return true
	}
	n, m := len(x.left.tips), len(x.right.tips)
	return (n == m || n == m+1) && x.left.isEven() && x.right.isEven()
}

// fibonacci is the number with that number, from 1 on.
func fibonacci(n int) *big.Int {
	a, b := big.NewInt(1), big.NewInt(1)
	for range n - 1 {
		a, b = b, new(big.Int).Add(a, b)
	}
	return a
}

func (x *twig) isBalanced() bool {
	if x == nil {
		return true
	}
	if big.NewInt(int64(len(x.whole))).Cmp(fibonacci(x.deep+2)) < 0 {
		return false
	}
	return x.isTip() || x.left.isBalanced() && x.right.isBalanced()
}

func isZeroRope(r impl.Rope) bool { return len(r.Boughs) == 0 }

func sameRope(a, b impl.Rope) bool { return slices.Equal(a.Boughs, b.Boughs) }

// outset is what a rope, a change or a history begins with when it is told: some
// are very long.
func outset(x any) string {
	s := fmt.Sprintf("%v", x)
	return s[:min(len(s), 300)]
}

func zeroOfPlace(t *testing.T, r impl.Rope, at int) {
	t.Helper()
	if b, n, ok := impl.ByteAt(r, at); b != "" || n != 0 || ok {
		t.Errorf("ByteAt(%s, %d) = %q, %d, %v", outset(r), at, b, n, ok)
	}
}

func zeroOfSplit(t *testing.T, r impl.Rope, at int) {
	t.Helper()
	if a, b, ok := impl.SplitRope(r, at); !isZeroRope(a) || !isZeroRope(b) || ok {
		t.Errorf("SplitRope(%s, %d) = %v, %v, %v", outset(r), at, a, b, ok)
	}
}

func zeroOfEdit(t *testing.T, r impl.Rope, op []impl.Part) {
	t.Helper()
	if e, ok := impl.EditRope(r, op); !isZeroRope(e) || ok {
		t.Errorf("EditRope(%s, %s) = %v, %v", outset(r), outset(op), e, ok)
	}
}

func zeroOfJoin(t *testing.T, a, b impl.Rope) {
	t.Helper()
	if r, ok := impl.JoinRopes(a, b); !isZeroRope(r) || ok {
		t.Errorf("JoinRopes(%s, %s) = %v, %v", outset(a), outset(b), r, ok)
	}
}

// zeroOfRope is of a rope that is not good: no function answers anything of it.
func zeroOfRope(t *testing.T, r impl.Rope) {
	t.Helper()
	if impl.GoodRope(r) {
		t.Errorf("GoodRope(%s) is true", outset(r))
	}
	if s, ok := impl.TextIn(r); s != "" || ok {
		t.Errorf("TextIn(%s) = %q, %v", outset(r), s, ok)
	}
	if l, ok := impl.PiecesOf(r); len(l) != 0 || ok {
		t.Errorf("PiecesOf(%s) = %q, %v", outset(r), l, ok)
	}
	if is, ok := impl.IsBalanced(r); is || ok {
		t.Errorf("IsBalanced(%s) = %v, %v", outset(r), is, ok)
	}
	if e, ok := impl.Rebalance(r); !isZeroRope(e) || ok {
		t.Errorf("Rebalance(%s) = %v, %v", outset(r), e, ok)
	}
	for _, at := range []int{0, 1, -1, math.MaxInt, math.MinInt} {
		zeroOfPlace(t, r, at)
		zeroOfSplit(t, r, at)
	}
	good := ropeFrom(grown("[ab|c]"))
	for _, other := range []impl.Rope{{}, good, r} {
		zeroOfJoin(t, r, other)
		zeroOfJoin(t, other, r)
	}
	for _, op := range [][]impl.Part{nil, {keep(1)}, {keep(2)}, {put("a")}, {drop("a")}, {drop("aa")}, {{}}} {
		zeroOfEdit(t, r, op)
	}
}

// checkWhole holds what is told of a whole rope against what is reckoned by
// hand; it tells whether it is good.
func checkWhole(t *testing.T, r impl.Rope) (*twig, bool) {
	t.Helper()
	x, good := twigOf(r)
	if !good {
		zeroOfRope(t, r)
		return nil, false
	}
	if !impl.GoodRope(r) {
		t.Fatalf("GoodRope(%v) is false", r)
	}
	if s, ok := impl.TextIn(r); s != x.text() || !ok {
		t.Fatalf("TextIn(%s) = %q, %v", x.told(), s, ok)
	}
	if l, ok := impl.PiecesOf(r); !slices.Equal(l, x.pieces()) || !ok {
		t.Fatalf("PiecesOf(%s) = %q, %v", x.told(), l, ok)
	}
	if is, ok := impl.IsBalanced(r); is != x.isBalanced() || !ok {
		t.Fatalf("IsBalanced(%s) = %v, %v", x.told(), is, ok)
	}
	checkEven(t, x, r)
	return x, true
}

func checkEven(t *testing.T, x *twig, r impl.Rope) {
	t.Helper()
	e, ok := impl.Rebalance(r)
	y, good := twigOf(e)
	if !ok || !good || !slices.Equal(y.pieces(), x.pieces()) || !y.isEven() {
		t.Fatalf("Rebalance(%s) = %v, %v", x.told(), e, ok)
	}
	if is, ok := impl.IsBalanced(e); !is || !y.isBalanced() || !ok {
		t.Fatalf("Rebalance(%s) = %s, which is not balanced", x.told(), y.told())
	}
	if again, ok := impl.Rebalance(e); !sameRope(again, e) || !ok {
		t.Fatalf("Rebalance(%s) = %v, %v: it is joined evenly already", y.told(), again, ok)
	}
}

func checkPlaces(t *testing.T, x *twig, r impl.Rope) {
	t.Helper()
	through := x.through()
	for at := range len(x.text()) {
		b, n, ok := impl.ByteAt(r, at)
		if b != x.whole[at:at+1] || n != through[at] || !ok {
			t.Fatalf("ByteAt(%s, %d) = %q, %d, %v, not %q, %d", x.told(), at, b, n, ok, x.whole[at:at+1], through[at])
		}
	}
	zeroOfPlace(t, r, len(x.text()))
	for _, at := range oddPlaces(x.text()) {
		zeroOfPlace(t, r, at)
		zeroOfSplit(t, r, at)
	}
}

// checkSplit holds both parts against what is cut out by hand, and joins them again.
func checkSplit(t *testing.T, x *twig, r impl.Rope, at int) {
	t.Helper()
	ahead, behind := x.cutOut(0, at), x.cutOut(at, len(x.text()))
	a, b, ok := impl.SplitRope(r, at)
	if !sameRope(a, ropeFrom(ahead)) || !sameRope(b, ropeFrom(behind)) || !ok {
		t.Fatalf("SplitRope(%s, %d) = %v, %v, %v, not %s, %s", x.told(), at, a, b, ok, ahead.told(), behind.told())
	}
	if !impl.GoodRope(a) || !impl.GoodRope(b) {
		t.Fatalf("SplitRope(%s, %d) = %v, %v, which are not good", x.told(), at, a, b)
	}
	s, _ := impl.TextIn(a)
	u, _ := impl.TextIn(b)
	if s != x.text()[:at] || u != x.text()[at:] {
		t.Fatalf("SplitRope(%s, %d) has the texts %q, %q", x.told(), at, s, u)
	}
	checkJoin(t, a, b)
}

// checkJoin tells whether there is an answer.
func checkJoin(t *testing.T, a, b impl.Rope) bool {
	t.Helper()
	x, okX := twigOf(a)
	y, okY := twigOf(b)
	both := fork(x, y)
	if !okX || !okY || !both.isGood() {
		zeroOfJoin(t, a, b)
		return false
	}
	r, ok := impl.JoinRopes(a, b)
	if !sameRope(r, ropeFrom(both)) || !ok || !impl.GoodRope(r) {
		t.Fatalf("JoinRopes(%s, %s) = %v, %v", x.told(), y.told(), r, ok)
	}
	if s, ok := impl.TextIn(r); s != x.text()+y.text() || !ok {
		t.Fatalf("JoinRopes(%s, %s) has the text %q", x.told(), y.told(), s)
	}
	return true
}

// checkEdit tells whether there is an answer.
func checkEdit(t *testing.T, r impl.Rope, op []impl.Part) bool {
	t.Helper()
	x, good := twigOf(r)
	made, fits := "", false
	if good {
		made, fits = applyByHand(op, x.text())
	}
	if !good || !fits || !x.edited(op).isGood() {
		zeroOfEdit(t, r, op)
		return false
	}
	want := x.edited(op)
	e, ok := impl.EditRope(r, op)
	if !sameRope(e, ropeFrom(want)) || !ok || !impl.GoodRope(e) {
		t.Fatalf("EditRope(%s, %v) = %v, %v, not %s", x.told(), op, e, ok, want.told())
	}
	told, _ := impl.ApplyOp(op, x.text())
	if s, ok := impl.TextIn(e); s != made || s != told || !ok {
		t.Fatalf("EditRope(%s, %v) has the text %q, %v, not %q", x.told(), op, s, ok, made)
	}
	for i, b := range e.Boughs {
		if b.Left >= 0 && e.Boughs[i-1].Left >= 0 {
			t.Fatalf("EditRope(%s, %v) = %v, in which %d is not joined with a piece", x.told(), op, e, i)
		}
	}
	return true
}

// checkRope is of a rope alone, at all places.
func checkRope(t *testing.T, r impl.Rope) bool {
	t.Helper()
	x, good := checkWhole(t, r)
	if !good {
		return false
	}
	checkPlaces(t, x, r)
	for at := range len(x.text()) + 1 {
		checkSplit(t, x, r, at)
	}
	return true
}

// growths are all ropes of a text.
func growths(s string) []*twig {
	if s == "" {
		return []*twig{nil}
	}
	var out []*twig
	if len(s) <= impl.MaxPiece {
		out = append(out, tip(s))
	}
	for at := 1; at < len(s); at++ {
		rights := growths(s[at:])
		for _, left := range growths(s[:at]) {
			for _, right := range rights {
				out = append(out, fork(left, right))
			}
		}
	}
	return out
}

func smallRopes(n int) []*twig {
	var out []*twig
	for k := range n + 1 {
		out = append(out, growths("aB/c.A9z"[:k])...)
	}
	return out
}

// joinedAnyhow joins pieces that stand side by side till one is left.
func (c *chooser) joinedAnyhow(pieces []string) *twig {
	var l []*twig
	for _, p := range pieces {
		l = append(l, tip(p))
	}
	for len(l) > 1 {
		at := c.next(len(l) - 1)
		l[at] = fork(l[at], l[at+1])
		l = slices.Delete(l, at+1, at+2)
	}
	if len(l) == 0 {
		return nil
	}
	return l[0]
}

func (c *chooser) choppedAnyhow(s string, longest int) []string {
	var out []string
	for s != "" && len(out) < mostPieces {
		n := min(1+c.next(longest), len(s))
		out = append(out, s[:n])
		s = s[n:]
	}
	return out
}

// longRopes are good ones: joined anyhow, and leaning wholly to one side.
func longRopes() []*twig {
	c := &chooser{121}
	var out []*twig
	for k := range 24 {
		s := c.text(impl.MaxDoc - 12*k)
		pieces := c.choppedAnyhow(s, 1+k%impl.MaxPiece)
		out = append(out, c.joinedAnyhow(pieces))
		if k < impl.MaxPiece {
			out = append(out, leaning(pieces), leaningBack(pieces))
		}
	}
	full := c.text(impl.MaxDoc)
	ones := chopped(full[:mostPieces], 1)
	threes := chopped(full, impl.MaxDoc/mostPieces)
	return append(out, leaning(ones), leaningBack(ones), leaning(threes), leaningBack(threes), c.joinedAnyhow(threes), leaning(chopped(full, impl.MaxPiece)))
}

// Promise 12: texts of each length, and all small ones, come back from their
// ropes, whose pieces are as said and joined evenly.
func TestTextsComeBackFromRopes(t *testing.T) {
	c := &chooser{122}
	texts := append(allTexts("/Aa", 5), edgeDocs()...)
	for n := range impl.MaxDoc + 1 {
		texts = append(texts, c.text(n))
	}
	for _, s := range texts {
		if !textIsGood(s) {
			t.Fatalf("%q is no good text", s)
		}
		r, ok := impl.RopeOf(s)
		x, good := twigOf(r)
		if !ok || !good || x.text() != s || !slices.Equal(x.pieces(), chopped(s, impl.MaxPiece)) || !x.isEven() {
			t.Fatalf("RopeOf(%q) = %v, %v", s, r, ok)
		}
		if is, ok := impl.IsBalanced(r); !is || !ok {
			t.Fatalf("RopeOf(%q) is not balanced: %v, %v", s, is, ok)
		}
		checkWhole(t, r)
		if len(s)%7 == 0 {
			checkPlaces(t, x, r)
		}
	}
}

// Promise 12: each rope of each small text, at each place.
func TestEachSmallRope(t *testing.T) {
	even, odd := 0, 0
	for _, x := range smallRopes(7) {
		r := ropeFrom(x)
		if y, ok := twigOf(r); !ok || y.told() != x.told() {
			t.Fatalf("%s is laid out as %v", x.told(), r)
		}
		if !checkRope(t, r) {
			t.Fatalf("%s is not good", x.told())
		}
		if x.isBalanced() {
			even++
		} else {
			odd++
		}
	}
	if even < 300 || odd < 300 {
		t.Errorf("%d are balanced, %d are not", even, odd)
	}
}

func TestLongRopes(t *testing.T) {
	for _, x := range longRopes() {
		r := ropeFrom(x)
		if _, good := checkWhole(t, r); !good {
			t.Fatalf("%s is not good", x.told())
		}
		checkPlaces(t, x, r)
		for at := 0; at <= len(x.whole); at += 7 {
			checkSplit(t, x, r, at)
		}
		checkSplit(t, x, r, len(x.whole))
	}
}

// Chapter 12: boughs as they stand in a rope.
func TestBoughsOneByOne(t *testing.T) {
	piece := func(s string) impl.Bough { return impl.Bough{Left: -1, Right: -1, Text: s, Size: len(s)} }
	for _, x := range []struct {
		s      string
		boughs []impl.Bough
	}{
		{"", nil},
		{"a", []impl.Bough{piece("a")}},
		{"abcdefgh", []impl.Bough{piece("abcdefgh")}},
		{"abcdefghi", []impl.Bough{piece("abcdefgh"), piece("i"), {Left: 0, Right: 1, Size: 9, Deep: 1}}},
		{"abcdefghijklmnop", []impl.Bough{piece("abcdefgh"), piece("ijklmnop"), {Left: 0, Right: 1, Size: 16, Deep: 1}}},
		// Of three pieces two stand at the left.
		{"abcdefghijklmnopqrst", []impl.Bough{piece("abcdefgh"), piece("ijklmnop"), {Left: 0, Right: 1, Size: 16, Deep: 1}, piece("qrst"), {Left: 2, Right: 3, Size: 20, Deep: 2}}},
		{"aaaaaaaabbbbbbbbccccccccD", []impl.Bough{piece("aaaaaaaa"), piece("bbbbbbbb"), {Left: 0, Right: 1, Size: 16, Deep: 1}, piece("cccccccc"), piece("D"), {Left: 3, Right: 4, Size: 9, Deep: 1}, {Left: 2, Right: 5, Size: 25, Deep: 2}}},
		// Of five pieces three, of these two.
		{"aaaaaaaabbbbbbbbccccccccdddddddd/", []impl.Bough{piece("aaaaaaaa"), piece("bbbbbbbb"), {Left: 0, Right: 1, Size: 16, Deep: 1}, piece("cccccccc"), {Left: 2, Right: 3, Size: 24, Deep: 2}, piece("dddddddd"), piece("/"), {Left: 5, Right: 6, Size: 9, Deep: 1}, {Left: 4, Right: 7, Size: 33, Deep: 3}}},
	} {
		r, ok := impl.RopeOf(x.s)
		if !slices.Equal(r.Boughs, x.boughs) || !ok {
			t.Errorf("RopeOf(%q) = %v, %v, not %v", x.s, r, ok, x.boughs)
		}
		checkRope(t, r)
	}
}

// Chapter 12: the empty rope and the empty text in each function.
func TestEmptyRope(t *testing.T) {
	one := ropeFrom(grown("[ab|c]"))
	for _, r := range []impl.Rope{{}, {Boughs: []impl.Bough{}}, {Boughs: one.Boughs[:0]}} {
		if !checkRope(t, r) {
			t.Error("the empty rope is not good")
		}
		if is, ok := impl.IsBalanced(r); !is || !ok {
			t.Errorf("IsBalanced = %v, %v", is, ok)
		}
		if a, b, ok := impl.SplitRope(r, 0); !isZeroRope(a) || !isZeroRope(b) || !ok {
			t.Errorf("SplitRope = %v, %v, %v", a, b, ok)
		}
		if s, ok := impl.TextIn(r); s != "" || !ok {
			t.Errorf("TextIn = %q, %v", s, ok)
		}
		for _, other := range []impl.Rope{r, one} {
			if a, ok := impl.JoinRopes(r, other); !sameRope(a, other) || !ok {
				t.Errorf("JoinRopes of nothing and %v = %v, %v", other, a, ok)
			}
			if a, ok := impl.JoinRopes(other, r); !sameRope(a, other) || !ok {
				t.Errorf("JoinRopes of %v and nothing = %v, %v", other, a, ok)
			}
		}
		if e, ok := impl.EditRope(r, nil); !isZeroRope(e) || !ok {
			t.Errorf("EditRope = %v, %v", e, ok)
		}
		if e, ok := impl.EditRope(r, []impl.Part{put("abcdefghij")}); !sameRope(e, ropeFrom(grown("[abcdefgh|ij]"))) || !ok {
			t.Errorf("EditRope = %v, %v", e, ok)
		}
		zeroOfEdit(t, r, []impl.Part{keep(1)})
		zeroOfEdit(t, r, []impl.Part{drop("a")})
		zeroOfPlace(t, r, 0)
		zeroOfSplit(t, r, 1)
	}
}

func TestSplitsOneByOne(t *testing.T) {
	for _, x := range []struct {
		rope          string
		at            int
		ahead, behind string
	}{
		{"a", 0, "", "a"}, {"a", 1, "a", ""}, {"abc", 1, "a", "bc"}, {"abcdefgh", 7, "abcdefg", "h"},
		{"[ab|cd]", 0, "", "[ab|cd]"}, {"[ab|cd]", 1, "a", "[b|cd]"}, {"[ab|cd]", 2, "ab", "cd"}, {"[ab|cd]", 3, "[ab|c]", "d"}, {"[ab|cd]", 4, "[ab|cd]", ""},
		// What lies wholly at one side stays joined as it was.
		{"[[a|b]|[c|d]]", 2, "[a|b]", "[c|d]"}, {"[[a|b]|[c|d]]", 1, "a", "[b|[c|d]]"}, {"[[a|b]|[c|d]]", 3, "[[a|b]|c]", "d"}, {"[a|[[b|c]|d]]", 2, "[a|b]", "[c|d]"}, {"[[a|[b|c]]|d]", 2, "[a|b]", "[c|d]"}, {"[[a|[b|c]]|d]", 1, "a", "[[b|c]|d]"},
		{"[[[a|b]|c]|[d|[e|f]]]", 3, "[[a|b]|c]", "[d|[e|f]]"}, {"[[[a|b]|c]|[d|[e|f]]]", 4, "[[[a|b]|c]|d]", "[e|f]"}, {"[[[a|b]|c]|[d|[e|f]]]", 5, "[[[a|b]|c]|[d|e]]", "f"}, {"[[[a|b]|c]|[d|[e|f]]]", 1, "a", "[[b|c]|[d|[e|f]]]"},
		{"[ab|[[cdef|g]|h]]", 4, "[ab|cd]", "[[ef|g]|h]"}, {"[[a|[b|cdef]]|gh]", 4, "[a|[b|cd]]", "[ef|gh]"},
	} {
		r := ropeFrom(grown(x.rope))
		a, b, ok := impl.SplitRope(r, x.at)
		if !sameRope(a, ropeFrom(grown(x.ahead))) || !sameRope(b, ropeFrom(grown(x.behind))) || !ok {
			t.Errorf("SplitRope(%s, %d) = %v, %v, %v, not %s, %s", x.rope, x.at, a, b, ok, x.ahead, x.behind)
		}
		checkSplit(t, grown(x.rope), r, x.at)
	}
}

func TestBytesOneByOne(t *testing.T) {
	for _, x := range []struct {
		rope    string
		at      int
		b       string
		through int
	}{
		{"a", 0, "a", 1}, {"abcdefgh", 7, "h", 1}, {"[ab|cd]", 1, "b", 2}, {"[ab|cd]", 2, "c", 2}, {"[ab|cd]", 3, "d", 2}, {"[[a|b]|c]", 0, "a", 3}, {"[[a|b]|c]", 1, "b", 3}, {"[[a|b]|c]", 2, "c", 2}, {"[a|[b|[c|[d|e]]]]", 0, "a", 2}, {"[a|[b|[c|[d|e]]]]", 3, "d", 5}, {"[a|[b|[c|[d|e]]]]", 4, "e", 5}, {"[[[[A|/]|.]| ]|9]", 1, "/", 5}, {"[[[[A|/]|.]| ]|9]", 3, " ", 3},
	} {
		if b, n, ok := impl.ByteAt(ropeFrom(grown(x.rope)), x.at); b != x.b || n != x.through || !ok {
			t.Errorf("ByteAt(%s, %d) = %q, %d, %v, not %q, %d", x.rope, x.at, b, n, ok, x.b, x.through)
		}
		checkRope(t, ropeFrom(grown(x.rope)))
	}
}

// Promise 12: each two small ropes are joined.
func TestSmallRopesAreJoined(t *testing.T) {
	ropes := smallRopes(5)
	for _, x := range ropes {
		for _, y := range ropes {
			if !checkJoin(t, ropeFrom(x), ropeFrom(y)) {
				t.Fatalf("%s and %s are not joined", x.told(), y.told())
			}
		}
	}
	r, ok := impl.JoinRopes(ropeFrom(grown("[a|b]")), ropeFrom(grown("[c|[d|e]]")))
	if !sameRope(r, ropeFrom(grown("[[a|b]|[c|[d|e]]]"))) || !ok {
		t.Errorf("JoinRopes = %v, %v", r, ok)
	}
}

// Promise 12: what is joined of parts of a text, in any order, is the text.
func TestJoinedAnyhowIsTheText(t *testing.T) {
	c := &chooser{123}
	for k := range 60 {
		s := c.text(c.next(impl.MaxDoc + 1))
		var ropes []impl.Rope
		for _, part := range c.choppedAnyhow(s, 3*impl.MaxPiece) {
			r, _ := impl.RopeOf(part)
			ropes = append(ropes, r)
		}
		for len(ropes) > 1 {
			at := c.next(len(ropes) - 1)
			both, ok := impl.JoinRopes(ropes[at], ropes[at+1])
			if !ok {
				t.Fatalf("%v and %v are not joined", ropes[at], ropes[at+1])
			}
			ropes[at] = both
			ropes = slices.Delete(ropes, at+1, at+2)
		}
		if len(ropes) == 0 {
			continue
		}
		x, good := checkWhole(t, ropes[0])
		if !good || x.text() != s {
			t.Fatalf("%d: %q comes back as %q", k, s, x.text())
		}
		checkSplit(t, x, ropes[0], c.next(len(s)+1))
	}
}

func TestEditsOneByOne(t *testing.T) {
	for _, x := range []struct {
		rope string
		op   []impl.Part
		want string
	}{
		{"[[abcdefgh|ijklmnop]|qrst]", []impl.Part{drop("abcdefgh"), put("x"), keep(12)}, "[[x|ijklmnop]|qrst]"},
		// Keeps all: the pieces stay, joined from left to right.
		{"[a|[b|[c|d]]]", []impl.Part{keep(4)}, "[[[a|b]|c]|d]"}, {"[[ab|c]|[d|ef]]", []impl.Part{keep(6)}, "[[[ab|c]|d]|ef]"}, {"abc", []impl.Part{keep(3)}, "abc"},
		// Drops all, puts only.
		{"[a|[b|c]]", []impl.Part{drop("abc")}, ""}, {"[a|[b|c]]", []impl.Part{drop("a"), drop("bc")}, ""}, {"", []impl.Part{put("abcdefgh")}, "abcdefgh"}, {"", []impl.Part{put("abcdefghi")}, "[abcdefgh|i]"}, {"", []impl.Part{put("abcdefghijklmnopqrst")}, "[[abcdefgh|ijklmnop]|qrst]"}, {"[a|b]", []impl.Part{put("xyz"), drop("ab")}, "xyz"},
		// Pieces are cut where a part ends within them.
		{"abcd", []impl.Part{keep(1), put("x"), keep(3)}, "[[a|x]|bcd]"}, {"abcd", []impl.Part{keep(1), drop("bc"), keep(1)}, "[a|d]"}, {"[ab|cd]", []impl.Part{keep(1), drop("bc"), keep(1)}, "[a|d]"}, {"[ab|cd]", []impl.Part{drop("a"), keep(3)}, "[b|cd]"}, {"[ab|cd]", []impl.Part{keep(3), drop("d")}, "[ab|c]"}, {"[ab|cd]", []impl.Part{keep(2), put("x"), keep(2)}, "[[ab|x]|cd]"}, {"[ab|cd]", []impl.Part{put("x"), keep(4), put("y")}, "[[[x|ab]|cd]|y]"}, {"[abc|[def|g]]", []impl.Part{keep(2), put("123456789"), keep(3), drop("f"), keep(1)}, "[[[[[ab|12345678]|9]|c]|de]|g]"},
		// Each part by itself, also where a change is not normal.
		{"abcd", []impl.Part{keep(1), keep(3)}, "[a|bcd]"}, {"[ab|cd]", []impl.Part{keep(2), keep(2)}, "[ab|cd]"}, {"", []impl.Part{put("ab"), put("cd")}, "[ab|cd]"}, {"ab", []impl.Part{put("x"), drop("ab"), put("y")}, "[x|y]"}, {"ab", []impl.Part{drop("a"), put("x"), drop("b"), put("y")}, "[x|y]"}, {"", []impl.Part{put("abcdefghi"), put("jklmnopq")}, "[[abcdefgh|i]|jklmnopq]"},
	} {
		e, ok := impl.EditRope(ropeFrom(grown(x.rope)), x.op)
		if !sameRope(e, ropeFrom(grown(x.want))) || !ok {
			t.Errorf("EditRope(%s, %v) = %v, %v, not %s", x.rope, x.op, e, ok, x.want)
		}
		if !checkEdit(t, ropeFrom(grown(x.rope)), x.op) {
			t.Errorf("%s has no answer", x.rope)
		}
	}
}

// Promise 12: all small changes of all small ropes, such as fit and such as do not.
func TestSmallRopesAreEdited(t *testing.T) {
	ops := append(smallOps(4), opsOf(3, keep(1), keep(3), drop("aa"), put("abcdefghi"), put("/A"))...)
	fit, not := 0, 0
	for _, s := range []string{"", "a", "b", "ab", "aa", "aba", "aab", "aaab"} {
		for _, x := range growths(s) {
			r := ropeFrom(x)
			for _, op := range ops {
				if checkEdit(t, r, op) {
					fit++
				} else {
					not++
				}
			}
		}
	}
	if fit < 3000 || not < 3000 {
		t.Errorf("%d fit, %d do not", fit, not)
	}
}

func TestLongRopesAreEdited(t *testing.T) {
	c := &chooser{124}
	done, not := 0, 0
	for k, x := range slices.Repeat(longRopes(), 12) {
		r := ropeFrom(x)
		op := c.opOn(x.whole, 1+c.next(1+5*k)%impl.MaxParts)
		if checkEdit(t, r, op) {
			done++
		} else {
			not++
		}
		if n, ok := impl.NormalOp(op); ok {
			checkEdit(t, r, n)
		}
		all, _ := impl.KeepAll(len(x.whole))
		checkEdit(t, r, all)
		checkEdit(t, r, []impl.Part{drop(x.whole)})
		checkEdit(t, r, []impl.Part{put(x.whole), drop(x.whole)})
	}
	if done < 150 || not < 20 {
		t.Errorf("%d were done, %d not", done, not)
	}
}

// Promise 12: changes one behind the other do to the rope what they do to the text.
func TestRopesAreEditedOverAndOver(t *testing.T) {
	c := &chooser{125}
	for range 30 {
		texts, ops := c.chain(c.text(c.next(200)), 12, 6)
		r, _ := impl.RopeOf(texts[0])
		for k, op := range ops {
			if !checkEdit(t, r, op) {
				break
			}
			r, _ = impl.EditRope(r, op)
			if s, ok := impl.TextIn(r); s != texts[k+1] || !ok {
				t.Fatalf("%q comes back as %q, %v", texts[k+1], s, ok)
			}
			if k%2 == 0 {
				r, _ = impl.Rebalance(r)
			}
		}
	}
}

// leastFull is as deep as said, with just as many bytes as a balanced rope must have.
func leastFull(deep int) *twig {
	switch deep {
	case 0:
		return tip("a")
	case 1:
		return fork(tip("a"), tip("b"))
	}
	return fork(leastFull(deep-1), leastFull(deep-2))
}

// Promise 12: the numbers of Fibonacci, each met exactly, and missed by one.
func TestBalancedByFibonacci(t *testing.T) {
	for n, want := range []int64{1, 1, 2, 3, 5, 8, 13, 21, 34, 55, 89, 144, 233, 377} {
		if fibonacci(n+1).Cmp(big.NewInt(want)) != 0 {
			t.Fatalf("the number %d of Fibonacci is %v, not %d", n+1, fibonacci(n+1), want)
		}
	}
	for deep := range 10 {
		x := leastFull(deep)
		if x.deep != deep || !x.isGood() || big.NewInt(int64(len(x.whole))).Cmp(fibonacci(deep+2)) != 0 {
			t.Fatalf("%s is not %d deep, or too long or too short", x.told(), deep)
		}
		for _, y := range []*twig{x, fork(x, nil), fork(tip("abcdefgh"), x)} {
			if is, ok := impl.IsBalanced(ropeFrom(y)); is != y.isBalanced() || !ok {
				t.Errorf("IsBalanced(%s) = %v, %v", y.told(), is, ok)
			}
		}
		if is, ok := impl.IsBalanced(ropeFrom(x)); !is || !ok {
			t.Errorf("IsBalanced(%s) = %v, %v", x.told(), is, ok)
		}
		if deep < 3 {
			continue
		}
		// As deep, but one byte shorter: the root alone is too short.
		short := fork(leastFull(deep-1), joinedEvenly(len(leastFull(deep-2).whole)-1))
		if is, ok := impl.IsBalanced(ropeFrom(short)); is || !ok {
			t.Errorf("IsBalanced(%s) = %v, %v", short.told(), is, ok)
		}
	}
	for _, x := range []struct {
		rope string
		is   bool
	}{
		{"a", true}, {"[a|b]", true}, {"[[a|b]|c]", true}, {"[[[a|b]|c]|d]", false}, {"[[[a|b]|c]|de]", true}, {"[[[ab|c]|d]|e]", true}, {"[[[[a|b]|c]|de]|fg]", false}, {"[[[[a|b]|c]|de]|fgh]", true}, {"[a|[b|[c|d]]]", false}, {"[a|[b|[c|de]]]", true}, {"[abcdefgh|[[[a|b]|c]|d]]", false}, {"[[[[a|b]|c]|d]|abcdefgh]", false},
	} {
		if is, ok := impl.IsBalanced(ropeFrom(grown(x.rope))); is != x.is || !ok || is != grown(x.rope).isBalanced() {
			t.Errorf("IsBalanced(%s) = %v, %v", x.rope, is, ok)
		}
	}
}

// joinedEvenly is a rope of n pieces of one byte each, nil of none.
func joinedEvenly(n int) *twig {
	if n < 2 {
		return growths(longText(n))[0]
	}
	return fork(joinedEvenly((n+1)/2), joinedEvenly(n/2))
}

// Promise 12: what leans wholly to one side is deep, and is balanced again.
func TestLeaningRopes(t *testing.T) {
	for n := 1; n <= mostPieces; n++ {
		for size := 1; size*n <= impl.MaxDoc && size <= impl.MaxPiece; size++ {
			pieces := chopped(longText(n*size), size)
			for _, x := range []*twig{leaning(pieces), leaningBack(pieces)} {
				if x.deep != n-1 {
					t.Fatalf("%s is %d deep", x.told(), x.deep)
				}
				r := ropeFrom(x)
				checkWhole(t, r)
				for at, want := range map[int]int{0: x.through()[0], n*size - 1: x.through()[n*size-1]} {
					if _, through, ok := impl.ByteAt(r, at); through != want || !ok {
						t.Fatalf("ByteAt(%s, %d) goes through %d", x.told(), at, through)
					}
				}
			}
		}
	}
	far := ropeFrom(leaning(chopped(longText(mostPieces), 1)))
	if _, through, ok := impl.ByteAt(far, 0); through != mostPieces || !ok {
		t.Errorf("%d boughs are gone through, %v", through, ok)
	}
	if _, through, ok := impl.ByteAt(far, mostPieces-1); through != 2 || !ok {
		t.Errorf("%d boughs are gone through, %v", through, ok)
	}
}

// Promise 12: of each number of pieces, also where they are as short as can be.
func TestJoinedEvenlyIsBalanced(t *testing.T) {
	c := &chooser{126}
	for n := 1; n <= mostPieces; n++ {
		pieces := chopped(c.text(n), 1)
		for _, x := range []*twig{leaning(pieces), leaningBack(pieces), c.joinedAnyhow(pieces), joinedEvenly(n)} {
			checkEven(t, x, ropeFrom(x))
		}
		e, _ := impl.Rebalance(ropeFrom(joinedEvenly(n)))
		if !sameRope(e, ropeFrom(joinedEvenly(n))) {
			t.Fatalf("of %d pieces %v is told", n, e)
		}
		deep := e.Boughs[len(e.Boughs)-1].Deep
		if 1<<deep < n || deep > 0 && 1<<(deep-1) >= n {
			t.Fatalf("%d pieces are %d deep", n, deep)
		}
	}
}

// Chapter 12: MaxPiece, MaxRope and MaxDoc, met and gone beyond.
func TestLimitsOfRopes(t *testing.T) {
	c := &chooser{127}
	full := c.text(impl.MaxDoc)
	long := leaning(chopped(full, impl.MaxPiece))
	for _, x := range []struct {
		name string
		rope *twig
		good bool
	}{
		{"a piece of MaxPiece bytes", tip(full[:impl.MaxPiece]), true}, {"one of one more", tip(full[:impl.MaxPiece+1]), false}, {"one among others", fork(tip("a"), tip(full[:impl.MaxPiece+1])), false},
		{"as many boughs as MaxRope allows", joinedEvenly(mostPieces), true}, {"more", joinedEvenly(mostPieces + 1), false}, {"more, leaning", leaning(chopped(full[:mostPieces+1], 1)), false}, {"many more", joinedEvenly(impl.MaxDoc), false},
		{"MaxDoc bytes", long, true}, {"one more", fork(long, tip("a")), false}, {"one more ahead", fork(tip("a"), long), false}, {"MaxDoc bytes in as many pieces as can be", c.joinedAnyhow(chopped(full, 3)), true}, {"one more in as many pieces as can be", c.joinedAnyhow(append(chopped(full[3:], 3), "abcd")), false}, {"MaxPiece bytes in each piece", leaning(chopped(longText(mostPieces*impl.MaxPiece), impl.MaxPiece)), false},
	} {
		r := ropeFrom(x.rope)
		if impl.GoodRope(r) != x.good {
			t.Errorf("%s: GoodRope is not %v", x.name, x.good)
		}
		if checkRope(t, r) != x.good {
			t.Errorf("%s: by hand it is not %v", x.name, x.good)
		}
	}
	// A good rope has an odd number of boughs.
	most := ropeFrom(joinedEvenly(mostPieces))
	if len(most.Boughs) != impl.MaxRope-1 {
		t.Fatalf("it has %d boughs", len(most.Boughs))
	}
	for _, b := range []impl.Bough{{}, most.Boughs[0], {Left: impl.MaxRope - 3, Right: impl.MaxRope - 2, Size: 2 * mostPieces, Deep: 9}} {
		zeroOfRope(t, impl.Rope{Boughs: append(slices.Clone(most.Boughs), b)})
	}
	for _, s := range []string{full, full + "a"} {
		if r, ok := impl.RopeOf(s); ok != (len(s) == impl.MaxDoc) || ok == isZeroRope(r) {
			t.Errorf("RopeOf of %d bytes = %v, %v", len(s), r, ok)
		}
	}
}

// Chapter 12: ropes joined to just the limits, and to more.
func TestLimitsOfJoinedRopes(t *testing.T) {
	for n := 0; n <= mostPieces; n++ {
		a := ropeFrom(joinedEvenly(n))
		for _, m := range []int{mostPieces - n, mostPieces - n + 1} {
			if m > mostPieces {
				continue
			}
			b := ropeFrom(joinedEvenly(m))
			if checkJoin(t, a, b) != (n+m <= mostPieces) {
				t.Errorf("%d and %d pieces are joined wrongly", n, m)
			}
		}
	}
	for n := 0; n <= impl.MaxDoc; n += 5 {
		a, _ := impl.RopeOf(longText(n))
		for _, m := range []int{impl.MaxDoc - n, impl.MaxDoc - n + 1} {
			b, ok := impl.RopeOf(longText(m))
			if !ok {
				continue
			}
			if checkJoin(t, a, b) != (n+m <= impl.MaxDoc) {
				t.Errorf("%d and %d bytes are joined wrongly", n, m)
			}
		}
	}
	// Both at once.
	a, b := leaning(chopped(longText(150), 3)), leaning(chopped(longText(147), 3))
	if !checkJoin(t, ropeFrom(a), ropeFrom(fork(b, tip("abc")))) || checkJoin(t, ropeFrom(a), ropeFrom(fork(b, tip("abcd")))) || checkJoin(t, ropeFrom(a), ropeFrom(fork(fork(b, tip("ab")), tip("a")))) {
		t.Error("300 bytes in 100 pieces are joined wrongly")
	}
}

// Chapter 12: changes that make as many pieces as there may be, and more.
func TestLimitsOfEditedRopes(t *testing.T) {
	most := ropeFrom(leaning(chopped(longText(mostPieces), 1)))
	less := ropeFrom(leaning(chopped(longText(mostPieces-1), 1)))
	twos := ropeFrom(leaning(append(chopped(longText(mostPieces-1), 1), "aa")))
	for _, x := range []struct {
		name string
		rope impl.Rope
		op   []impl.Part
		ok   bool
	}{
		{"keeps all", most, []impl.Part{keep(100)}, true}, {"puts one piece too many", most, []impl.Part{keep(100), put("x")}, false}, {"puts it ahead", most, []impl.Part{put("x"), keep(100)}, false}, {"puts one for one", most, []impl.Part{put("x"), drop("a"), keep(99)}, true}, {"puts two for one", most, []impl.Part{put("abcdefghi"), drop("a"), keep(99)}, false}, {"puts MaxPiece bytes for one", most, []impl.Part{put("abcdefgh"), drop("a"), keep(99)}, true},
		{"puts the last one", less, []impl.Part{keep(50), put("x"), keep(49)}, true}, {"puts the last one of MaxPiece bytes", less, []impl.Part{keep(99), put("abcdefgh")}, true}, {"puts two pieces", less, []impl.Part{keep(99), put("abcdefghi")}, false}, {"puts two parts", less, []impl.Part{keep(99), put("a"), put("b")}, false},
		{"cuts a piece", twos, []impl.Part{keep(100), keep(1)}, false}, {"drops half a piece", twos, []impl.Part{keep(100), drop("a")}, true}, {"drops the other half", twos, []impl.Part{keep(99), drop("a"), keep(1)}, true}, {"puts within a piece", twos, []impl.Part{keep(100), put("x"), keep(1)}, false}, {"drops a piece and puts one", twos, []impl.Part{drop("a"), keep(98), put("x"), keep(2)}, true}, {"drops a piece and puts one within another", twos, []impl.Part{drop("a"), keep(99), put("x"), keep(1)}, false}, {"drops two pieces and puts one within another", twos, []impl.Part{drop("aa"), keep(98), put("x"), keep(1)}, true},
	} {
		if e, ok := impl.EditRope(x.rope, x.op); ok != x.ok || ok == isZeroRope(e) {
			t.Errorf("%s: EditRope = %v, %v", x.name, e, ok)
		}
		if checkEdit(t, x.rope, x.op) != x.ok {
			t.Errorf("%s: by hand it is not %v", x.name, x.ok)
		}
	}
	full := longText(impl.MaxDoc)
	long, _ := impl.RopeOf(full)
	for _, op := range [][]impl.Part{{keep(impl.MaxDoc)}, {drop(full)}, {put(full), drop(full)}, {drop(full), put(full)}, {drop("a"), keep(impl.MaxDoc - 1), put("z")}, fence(impl.MaxParts, keep(5), keep(5))} {
		if !checkEdit(t, long, op) {
			t.Errorf("EditRope of MaxDoc bytes by %v has no answer", op)
		}
	}
	if !checkEdit(t, impl.Rope{}, []impl.Part{put(full)}) || checkEdit(t, long, []impl.Part{keep(impl.MaxDoc), put("a")}) || checkEdit(t, impl.Rope{}, []impl.Part{put(full), put("a")}) {
		t.Error("MaxDoc bytes are put wrongly")
	}
}

// namedWrongs are ropes that are not good, in each way that the document names.
func namedWrongs() map[string]impl.Rope {
	good := ropeFrom(grown("[[ab|c]|[d|ef]]")).Boughs
	a, b := good[0], good[1]
	with := func(k int, f func(b *impl.Bough)) impl.Rope {
		l := slices.Clone(good)
		f(&l[k])
		return impl.Rope{Boughs: l}
	}
	rope := func(l ...impl.Bough) impl.Rope { return impl.Rope{Boughs: l} }
	joins := func(left, right, size, deep int) impl.Bough {
		return impl.Bough{Left: left, Right: right, Size: size, Deep: deep}
	}
	return map[string]impl.Rope{
		"Left beyond the boughs": with(2, func(b *impl.Bough) { b.Left = 7 }), "Right beyond the boughs": with(2, func(b *impl.Bough) { b.Right = 7 }), "Left far beyond": with(6, func(b *impl.Bough) { b.Left = math.MaxInt }), "Right far below": with(6, func(b *impl.Bough) { b.Right = math.MinInt }), "Left below -1": with(2, func(b *impl.Bough) { b.Left = -2 }),
		"the bough itself at the left": with(2, func(b *impl.Bough) { b.Left = 2 }), "the bough itself at the right": with(2, func(b *impl.Bough) { b.Right = 2 }), "Left behind": with(2, func(b *impl.Bough) { b.Left = 3 }), "Left and Right the wrong way round": with(2, func(b *impl.Bough) { b.Left, b.Right = 1, 0 }), "Left and Right the same": with(2, func(b *impl.Bough) { b.Left = 1 }),
		"no Left": with(2, func(b *impl.Bough) { b.Left = -1 }), "no Right": with(2, func(b *impl.Bough) { b.Right = -1 }), "neither": with(2, func(b *impl.Bough) { b.Left, b.Right = -1, -1 }), "a piece with Left": with(1, func(b *impl.Bough) { b.Left = 0 }), "a piece with Right": with(1, func(b *impl.Bough) { b.Right = 0 }), "a piece with both": with(4, func(b *impl.Bough) { b.Left, b.Right = 2, 3 }), "a piece with 0 and 0": with(0, func(b *impl.Bough) { b.Left, b.Right = 0, 0 }), "a piece with -2": with(0, func(b *impl.Bough) { b.Left, b.Right = -2, -2 }),
		"joined twice": rope(a, b, joins(0, 1, 3, 1), joins(1, 2, 4, 2)), "joined twice, the same one": rope(a, joins(0, 0, 4, 1)), "joined twice, again": rope(a, b, joins(0, 1, 3, 1), joins(0, 2, 5, 2)), "never joined, the first": rope(a, a, b, joins(1, 2, 3, 1)), "never joined, the last": rope(a, b, joins(0, 1, 3, 1), b), "never joined, two pieces": rope(a, b), "never joined, the second": rope(a, a, b, joins(0, 2, 3, 1)), "two ropes": rope(a, b, joins(0, 1, 3, 1), a, b, joins(3, 4, 3, 1)),
		"all pieces ahead": rope(a, b, a, joins(0, 1, 3, 1), joins(3, 2, 5, 2)), "the right part ahead": rope(a, b, joins(0, 1, 3, 1), a, joins(3, 2, 5, 2)), "the parts not side by side": rope(a, b, a, b, joins(0, 2, 4, 1), joins(1, 3, 2, 1), joins(4, 5, 6, 2)), "the root ahead": rope(joins(1, 2, 3, 1), a, b), "a joint alone": rope(joins(0, 1, 3, 1)), "a joint of nothing": rope(joins(-1, -1, 0, 0)), "a joint of one": rope(a, joins(0, -1, 2, 1)), "a joint of one and itself": rope(a, joins(0, 1, 2, 1)), "the zero bough": rope(impl.Bough{}), "zero boughs": {Boughs: make([]impl.Bough, 3)},
		"a piece without a text": with(1, func(b *impl.Bough) { b.Text, b.Size = "", 0 }), "a piece without a text alone": rope(impl.Bough{Left: -1, Right: -1}), "a piece of too many bytes": with(1, func(b *impl.Bough) { b.Text, b.Size = longText(9), 9 }), "a piece of very many bytes": with(1, func(b *impl.Bough) { b.Text, b.Size = longText(3000000), 3000000 }), "a piece that is no good text": with(1, func(b *impl.Bough) { b.Text = "-" }), "a piece with a byte 0": with(0, func(b *impl.Bough) { b.Text = "a\x00" }), "a piece of two bytes that are one rune": with(0, func(b *impl.Bough) { b.Text = "\u00e4" }),
		"a Text at a bough that joins": with(2, func(b *impl.Bough) { b.Text = "abc" }), "a Text at the root": with(6, func(b *impl.Bough) { b.Text = "a" }), "a Text that is not good at the root": with(6, func(b *impl.Bough) { b.Text = "-" }), "a long Text at the root": with(6, func(b *impl.Bough) { b.Text = longText(9) }),
		"a wrong Size at a piece": with(0, func(b *impl.Bough) { b.Size = 1 }), "a piece of Size 0": with(0, func(b *impl.Bough) { b.Size = 0 }), "a wrong Size at a joint": with(2, func(b *impl.Bough) { b.Size = 4 }), "a wrong Size at the root": with(6, func(b *impl.Bough) { b.Size = 5 }), "a Size below 0": with(6, func(b *impl.Bough) { b.Size = -6 }), "the greatest Size": with(6, func(b *impl.Bough) { b.Size = math.MaxInt }), "wrong Sizes that fit together": rope(impl.Bough{Left: -1, Right: -1, Text: "a", Size: 2}, b, joins(0, 1, 3, 1)), "Sizes that wrap round": rope(impl.Bough{Left: -1, Right: -1, Text: "a", Size: math.MaxInt}, impl.Bough{Left: -1, Right: -1, Text: "a", Size: math.MaxInt}, joins(0, 1, -2, 1)),
		"a wrong Deep at a piece": with(0, func(b *impl.Bough) { b.Deep = 1 }), "a wrong Deep at a joint": with(2, func(b *impl.Bough) { b.Deep = 2 }), "a joint of Deep 0": with(2, func(b *impl.Bough) { b.Deep = 0 }), "a wrong Deep at the root": with(6, func(b *impl.Bough) { b.Deep = 3 }), "the greatest Deep": with(6, func(b *impl.Bough) { b.Deep = math.MaxInt }), "a Deep below 0": with(6, func(b *impl.Bough) { b.Deep = -1 }), "wrong Deeps that fit together": rope(impl.Bough{Left: -1, Right: -1, Text: "a", Size: 1, Deep: 1}, b, joins(0, 1, 2, 2)), "the Deep of the less deep one": rope(a, b, joins(0, 1, 3, 1), a, joins(2, 3, 5, 1)),
		"more than MaxRope boughs": ropeFrom(joinedEvenly(mostPieces + 1)), "very many boughs": {Boughs: slices.Repeat([]impl.Bough{a}, 300000)}, "just MaxRope pieces": {Boughs: slices.Repeat([]impl.Bough{a}, impl.MaxRope)}, "more than MaxDoc bytes": ropeFrom(leaning(chopped(longText(impl.MaxDoc+1), impl.MaxPiece))),
	}
}

// Promise 20: ropes that are not good, each way one by one.
func TestWrongRopesOneByOne(t *testing.T) {
	for name, r := range namedWrongs() {
		before := slices.Clone(r.Boughs)
		if _, good := twigOf(r); good {
			t.Errorf("%s: by hand it is good", name)
		}
		if impl.GoodRope(r) {
			t.Errorf("%s: GoodRope is true", name)
		}
		zeroOfRope(t, r)
		if !slices.Equal(r.Boughs, before) {
			t.Errorf("%s: the rope was changed", name)
		}
	}
}

// Promise 20: each number and each text of a good rope turned into others.
func TestEachFieldOfARope(t *testing.T) {
	wrong := 0
	for _, shape := range []string{"a", "[ab|c]", "[[a|b]|c]", "[a|[b|c]]", "[[ab|c]|[d|ef]]", "[[a|[b|c]]|[[d|e]|f]]"} {
		good := ropeFrom(grown(shape)).Boughs
		for k := range good {
			turned := func(f func(b *impl.Bough)) {
				l := slices.Clone(good)
				f(&l[k])
				if !checkRope(t, impl.Rope{Boughs: l}) {
					wrong++
				}
			}
			for n := -3; n <= len(good)+1; n++ {
				turned(func(b *impl.Bough) { b.Left = n })
				turned(func(b *impl.Bough) { b.Right = n })
				turned(func(b *impl.Bough) { b.Left, b.Right = n, n })
				turned(func(b *impl.Bough) { b.Left, b.Right = n, n+1 })
				turned(func(b *impl.Bough) { b.Size = n })
				turned(func(b *impl.Bough) { b.Deep = n })
			}
			for _, s := range []string{"", "a", "ab", "-", "a-", "abcdefgh", "abcdefghi", "\xff"} {
				turned(func(b *impl.Bough) { b.Text = s })
				turned(func(b *impl.Bough) { b.Text, b.Size = s, len(s) })
				turned(func(b *impl.Bough) { *b = impl.Bough{Left: -1, Right: -1, Text: s, Size: len(s)} })
			}
			checkRope(t, impl.Rope{Boughs: slices.Delete(slices.Clone(good), k, k+1)})
			checkRope(t, impl.Rope{Boughs: good[:k]})
			checkRope(t, impl.Rope{Boughs: good[k:]})
			for i := range good {
				l := slices.Clone(good)
				l[i], l[k] = l[k], l[i]
				checkRope(t, impl.Rope{Boughs: l})
				checkRope(t, impl.Rope{Boughs: slices.Insert(slices.Clone(good), i, good[k])})
			}
		}
	}
	if wrong < 1000 {
		t.Errorf("only %d are not good", wrong)
	}
}

// Promise 20: all short lists of boughs with small numbers.
func TestAllShortLists(t *testing.T) {
	var boughs []impl.Bough
	for _, text := range []string{"", "a", "bc"} {
		for left := -1; left <= 1; left++ {
			for right := -1; right <= 1; right++ {
				for size := range 4 {
					for deep := range 2 {
						boughs = append(boughs, impl.Bough{Left: left, Right: right, Text: text, Size: size, Deep: deep})
					}
				}
			}
		}
	}
	good := 0
	see := func(l ...impl.Bough) {
		r := impl.Rope{Boughs: l}
		_, want := twigOf(r)
		if impl.GoodRope(r) != want {
			t.Fatalf("GoodRope(%v) is not %v", r, want)
		}
		if want {
			good++
		}
	}
	for _, a := range boughs {
		see(a)
		for _, b := range boughs {
			see(a, b)
			if a.Left == -1 || b.Deep == 0 {
				for _, c := range boughs[:len(boughs)/3] {
					see(a, b, c)
				}
			}
		}
	}
	if good != 5 {
		t.Errorf("%d are good", good)
	}
}

// Promise 20: texts that are no good texts, and changes that are not good or do not fit.
func TestWrongTextsAndChangesOfRopes(t *testing.T) {
	for _, s := range append(notTexts(), longText(impl.MaxDoc)+"/") {
		if textIsGood(s) {
			continue
		}
		if r, ok := impl.RopeOf(s); !isZeroRope(r) || ok {
			t.Errorf("RopeOf(%.40q) = %v, %v", s, r, ok)
		}
	}
	for c := range 256 {
		s := string([]byte{byte(c)})
		if r, ok := impl.RopeOf(s); ok != textIsGood(s) || ok == isZeroRope(r) {
			t.Errorf("RopeOf(%q) = %v, %v", s, r, ok)
		}
		checkWhole(t, impl.Rope{Boughs: []impl.Bough{{Left: -1, Right: -1, Text: s, Size: 1}}})
	}
	long, _ := impl.RopeOf(longText(impl.MaxDoc))
	for _, r := range []impl.Rope{{}, ropeFrom(tip("a")), ropeFrom(grown("[[aa|a]|[b|ab]]")), long} {
		for _, op := range notOps() {
			zeroOfEdit(t, r, op)
		}
		for _, op := range edgeOps() {
			checkEdit(t, r, op)
		}
	}
	r := ropeFrom(grown("[ab|[c|d]]"))
	for _, op := range [][]impl.Part{nil, {keep(3)}, {keep(5)}, {keep(4), keep(1)}, {put("a")}, {drop("abc")}, {drop("abcde")}, {drop("abce")}, {keep(2), drop("d"), keep(1)}, {keep(1), drop("B"), keep(2)}, {keep(4), drop("a")}, {keep(2), put("c"), keep(1)}} {
		zeroOfEdit(t, r, op)
	}
}

// Promise 20: places below 0 and beyond.
func TestWrongPlacesOfRopes(t *testing.T) {
	for _, x := range append(longRopes()[:5], smallRopes(4)...) {
		r := ropeFrom(x)
		for _, at := range oddPlaces(x.text()) {
			zeroOfPlace(t, r, at)
			zeroOfSplit(t, r, at)
		}
		zeroOfPlace(t, r, len(x.text()))
	}
}

// shareRopes tells whether two ropes lie in one memory, they or their texts.
func shareRopes(a, b impl.Rope) bool {
	size := unsafe.Sizeof(impl.Bough{})
	p, q := uintptr(unsafe.Pointer(unsafe.SliceData(a.Boughs))), uintptr(unsafe.Pointer(unsafe.SliceData(b.Boughs)))
	if cap(a.Boughs) > 0 && cap(b.Boughs) > 0 && p < q+uintptr(cap(b.Boughs))*size && q < p+uintptr(cap(a.Boughs))*size {
		return true
	}
	for _, x := range a.Boughs {
		for _, y := range b.Boughs {
			if shareText(x.Text, y.Text) {
				return true
			}
		}
	}
	return false
}

func textsOf(texts ...string) impl.Rope {
	var r impl.Rope
	for _, s := range texts {
		r.Boughs = append(r.Boughs, impl.Bough{Text: s})
	}
	return r
}

const allAnswers = 21

// answersOf are all ropes and texts that are answered of a rope, which the
// change fits.
func answersOf(r impl.Rope, other impl.Rope, op []impl.Part) []impl.Rope {
	var out []impl.Rope
	s, _ := impl.TextIn(r)
	again, _ := impl.RopeOf(s)
	for _, at := range []int{0, 1, len(s) / 2, len(s) - 1, len(s)} {
		a, b, _ := impl.SplitRope(r, at)
		out = append(out, a, b)
	}
	one, _ := impl.JoinRopes(r, other)
	two, _ := impl.JoinRopes(other, r)
	three, _ := impl.JoinRopes(r, impl.Rope{})
	four, _ := impl.JoinRopes(impl.Rope{}, r)
	five, _ := impl.JoinRopes(r, r)
	e, _ := impl.EditRope(r, op)
	all, _ := impl.KeepAll(len(s))
	k, _ := impl.EditRope(r, all)
	even, _ := impl.Rebalance(r)
	pieces, _ := impl.PiecesOf(r)
	return append(out, again, one, two, three, four, five, e, k, even, textsOf(s), textsOf(pieces...))
}

// Promise 20: the answers share no memory with what was handed in, nor with one another.
func TestRopesAreNewMemory(t *testing.T) {
	long := strings.Repeat("abcdefghij", 12)
	for _, pieces := range [][]string{chopped(long, 3), chopped(long, 8), {long[:8]}, {long[:2], long[2:5]}, chopped(long[:20], 7)} {
		for _, x := range []*twig{leaning(pieces), leaningBack(pieces), (&chooser{128}).joinedAnyhow(pieces)} {
			r, other := ropeFrom(x), ropeFrom(leaning([]string{"AAAA", "BBBB"}))
			whole := strings.Clone(x.whole)
			op := []impl.Part{put(whole[:1] + "xyxyxyxyxyxy"), keep(1), drop(whole[1:2]), put("zz"), keep(len(whole) - 2)}
			if len(whole) == 2 {
				op = op[:4]
			}
			told := slices.DeleteFunc(answersOf(r, other, op), isZeroRope)
			// What is split off at 0 and at the end is nothing.
			if len(told) != allAnswers-2 {
				t.Fatalf("%d answers of %s are nothing", allAnswers-len(told), x.told())
			}
			for i, a := range told {
				if shareRopes(a, r) || shareRopes(a, other) || shareRopes(a, textsOf(op[0].Put, op[2].Drop, op[3].Put)) {
					t.Errorf("the answer %d of %s lies in the memory of what was handed in", i, x.told())
				}
				for k, b := range told[:i] {
					if shareRopes(a, b) {
						t.Errorf("the answers %d and %d of %s lie in one memory", k, i, x.told())
					}
				}
				for k, b := range a.Boughs {
					if shareRopes(impl.Rope{Boughs: []impl.Bough{b}}, textsOf(textsBefore(a, k)...)) {
						t.Errorf("two texts of the answer %d of %s lie in one memory", i, x.told())
					}
				}
			}
		}
	}
	text := strings.Clone(long)
	r, _ := impl.RopeOf(text)
	if shareRopes(r, textsOf(text)) {
		t.Error("RopeOf lies in the memory of the text")
	}
}

func textsBefore(r impl.Rope, k int) []string {
	var out []string
	for _, b := range r.Boughs[:k] {
		out = append(out, b.Text)
	}
	return out
}

// Promise 20: nothing is written into a rope, nor behind its length, nor read
// there; and what is written into an answer is seen nowhere else.
func TestRopesStayAsTheyWere(t *testing.T) {
	behind := impl.Bough{Left: -1, Right: -1, Text: "behind", Size: 6}
	var ropes []impl.Rope
	for _, x := range append(smallRopes(5), longRopes()[:8]...) {
		ropes = append(ropes, ropeFrom(x))
	}
	for _, r := range namedWrongs() {
		if len(r.Boughs) <= impl.MaxRope {
			ropes = append(ropes, r)
		}
	}
	for _, r := range ropes {
		full := append(slices.Clone(r.Boughs), behind, impl.Bough{Left: 0, Right: 1, Size: 12, Deep: 1}, behind)
		before := slices.Clone(full)
		given := impl.Rope{Boughs: full[:len(r.Boughs)]}
		_, good := checkWhole(t, given)
		s, _ := impl.TextIn(given)
		op := []impl.Part{put("abcdefghi"), {Drop: s}}
		if s == "" {
			op = op[:1]
		}
		changed := append(slices.Clone(op), put("behind"))
		if checkEdit(t, given, changed[:len(op)]) != good {
			t.Fatalf("the change of %v is read beyond its length", r)
		}
		for _, a := range answersOf(given, given, changed[:len(op)]) {
			clear(a.Boughs[:cap(a.Boughs)])
		}
		if !slices.Equal(full, before) {
			t.Fatalf("the rope %v was changed", r)
		}
		if !slices.Equal(changed, append(slices.Clone(op), put("behind"))) {
			t.Fatalf("the change of %v was changed", r)
		}
		checkWhole(t, given)
	}
}

// An answer is the same, whatever was asked and refused ahead of it.
func TestRopesAreToldAnew(t *testing.T) {
	for range 3 {
		r, ok := impl.RopeOf("abcdefghijkl")
		if !sameRope(r, ropeFrom(grown("[abcdefgh|ijkl]"))) || !ok {
			t.Errorf("RopeOf = %v, %v", r, ok)
		}
		if e, ok := impl.EditRope(r, []impl.Part{keep(10), drop("kl")}); !sameRope(e, ropeFrom(grown("[abcdefgh|ij]"))) || !ok {
			t.Errorf("EditRope = %v, %v", e, ok)
		}
		clear(r.Boughs)
		zeroOfRope(t, r)
		zeroOfEdit(t, r, []impl.Part{keep(12)})
	}
}

// Ropes of as many boughs as there may be are answered in a moment, and such of
// very many more are refused in one.
func TestGreatestRopesInAMoment(t *testing.T) {
	full := longText(impl.MaxDoc)
	threes := chopped(full, 3)
	ropes := []impl.Rope{ropeFrom(leaning(threes)), ropeFrom(leaningBack(threes)), ropeFrom((&chooser{129}).joinedAnyhow(threes)), namedWrongs()["very many boughs"], namedWrongs()["a piece of very many bytes"]}
	op := fence(impl.MaxParts, keep(5), keep(5))
	for _, r := range ropes {
		start := time.Now()
		for range 20 {
			impl.GoodRope(r)
			impl.TextIn(r)
			impl.PiecesOf(r)
			impl.IsBalanced(r)
			impl.Rebalance(r)
			impl.JoinRopes(r, r)
			impl.JoinRopes(r, impl.Rope{})
			impl.EditRope(r, op)
			for at := 0; at <= impl.MaxDoc; at += 3 {
				impl.ByteAt(r, at)
				impl.SplitRope(r, at)
			}
		}
		if took := time.Since(start); took > 5*time.Second {
			t.Errorf("%d boughs took %v", len(r.Boughs), took)
		}
	}
}

// FuzzRopes: no argument makes one of the ten functions panic, or tell another thing than the document says.
func FuzzRopes(f *testing.F) {
	f.Add("abcdefghijklmnopqrst", uint32(1), 9, -1, -1, "x", 1, 0, 3, "pq", "abc")
	f.Add("aB/", uint32(7), 0, 0, 1, "", 2, 1, 1, "", "a")
	f.Add(longText(300), uint32(9), 300, math.MaxInt, math.MinInt, "\xff", -1, math.MaxInt, math.MaxInt, longText(300), longText(301))
	f.Fuzz(func(t *testing.T, s string, seed uint32, at, left, right int, text string, size, deep, k int, with, other string) {
		r, ok := impl.RopeOf(s)
		if ok != textIsGood(s) || !ok && !isZeroRope(r) {
			t.Fatalf("RopeOf(%q) = %v, %v", s, r, ok)
		}
		if !ok {
			return
		}
		checkRope(t, r)
		c := &chooser{seed}
		x := c.joinedAnyhow(c.choppedAnyhow(s, 1+int(seed%impl.MaxPiece)))
		rope := ropeFrom(x)
		checkRope(t, rope)
		o, _ := impl.RopeOf(other)
		checkJoin(t, rope, o)
		checkJoin(t, o, rope)
		checkEdit(t, rope, c.opOn(x.text(), 1+int(seed%impl.MaxParts)))
		checkEdit(t, rope, []impl.Part{keep(k), put(with), drop(other)})
		if op, ok := impl.SpliceOp(x.text(), min(max(at, 0), len(x.text())), len(x.text()), with); ok {
			checkEdit(t, rope, op)
		}
		b := impl.Bough{Left: left, Right: right, Text: text, Size: size, Deep: deep}
		place := min(max(k, 0), len(rope.Boughs))
		checkWhole(t, impl.Rope{Boughs: slices.Insert(slices.Clone(rope.Boughs), place, b)})
		if place < len(rope.Boughs) {
			l := slices.Clone(rope.Boughs)
			l[place] = b
			checkWhole(t, impl.Rope{Boughs: l})
		}
	})
}
