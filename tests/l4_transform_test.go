package tests

import (
	"slices"
	"strings"
	"testing"

	"loop.example/g00253/impl"
)

const mostOver = 20

// byPlaces is a change by the places of the text that it takes: what is put
// ahead of each byte and behind the last one, and which bytes go (-1: kept).
type byPlaces struct {
	puts  []string
	drops []int
}

func placesOf(op []impl.Part) byPlaces {
	x := byPlaces{puts: []string{""}}
	take := func(c int) {
		x.drops = append(x.drops, c)
		x.puts = append(x.puts, "")
	}
	for _, p := range op {
		x.puts[len(x.drops)] += p.Put
		for range p.Keep {
			take(-1)
		}
		for _, c := range []byte(p.Drop) {
			take(int(c))
		}
	}
	return x
}

// ofOneText is what the document asks of two changes, ahead of their drops.
func ofOneText(a, b []impl.Part) bool {
	if !opIsGood(a) || !opIsGood(b) {
		return false
	}
	x, _ := sizesByHand(a)
	y, _ := sizesByHand(b)
	return x == y
}

func sameByHand(a, b []impl.Part) (bool, bool) {
	if !ofOneText(a, b) {
		return false, false
	}
	x, y := traceOf(a).dropped, traceOf(b).dropped
	for i := range x {
		if x[i] >= 0 && y[i] >= 0 && x[i] != y[i] {
			return false, true
		}
	}
	return true, true
}

// transformByHand writes both changes place by place.
func transformByHand(a, b []impl.Part) ([]impl.Part, []impl.Part, bool) {
	if same, _ := sameByHand(a, b); !same {
		return nil, nil, false
	}
	x, y := placesOf(a), placesOf(b)
	var first, second []impl.Part
	for i := range x.puts {
		first = append(first, put(x.puts[i]), keep(len(y.puts[i])))
		second = append(second, keep(len(x.puts[i])), put(y.puts[i]))
		if i == len(x.drops) {
			break
		}
		switch {
		case x.drops[i] < 0 && y.drops[i] < 0:
			first, second = append(first, keep(1)), append(second, keep(1))
		case y.drops[i] < 0:
			first = append(first, drop(string(rune(x.drops[i]))))
		case x.drops[i] < 0:
			second = append(second, drop(string(rune(y.drops[i]))))
		}
	}
	first, second = normalByHand(first), normalByHand(second)
	if !opIsGood(first) || !opIsGood(second) {
		return nil, nil, false
	}
	return first, second, true
}

// withinByHand counts the Puts of a, normal, that lie strictly between the
// beginning and the end of one Drop of b, normal.
func withinByHand(a, b []impl.Part) int {
	n, at := 0, 0
	for _, p := range normalByHand(a) {
		from := 0
		for _, q := range normalByHand(b) {
			to := from + q.Keep + len(q.Drop)
			if p.Put != "" && q.Drop != "" && from < at && at < to {
				n++
			}
			from = to
		}
		at += p.Keep + len(p.Drop)
	}
	return n
}

func clashesByHand(a, b []impl.Part) (int, bool) {
	if same, _ := sameByHand(a, b); !same {
		return 0, false
	}
	n := withinByHand(a, b) + withinByHand(b, a)
	x, y := placesOf(a), placesOf(b)
	for i := range x.drops {
		if x.drops[i] >= 0 && y.drops[i] >= 0 {
			n++
		}
	}
	return n, true
}

// textForBoth is a text that both fit, where they drop no unlike bytes.
func textForBoth(a, b []impl.Part) string {
	x, y := traceOf(a).dropped, traceOf(b).dropped
	var out []byte
	for i := range x {
		switch {
		case x[i] >= 0:
			out = append(out, byte(x[i]))
		case y[i] >= 0:
			out = append(out, byte(y[i]))
		default:
			out = append(out, "kF/"[i%3])
		}
	}
	return string(out)
}

// checkBeside holds TransformOps, ClashesOf and SameTexts of two changes,
// whatever they are, against what the document says; true where they are told.
func checkBeside(t *testing.T, a, b []impl.Part) bool {
	t.Helper()
	wantX, wantY, fits := transformByHand(a, b)
	x, y, ok := impl.TransformOps(a, b)
	if !slices.Equal(x, wantX) || !slices.Equal(y, wantY) || ok != fits {
		t.Fatalf("TransformOps(%.200v, %.200v) = %v, %v, %v, not %v, %v, %v", a, b, x, y, ok, wantX, wantY, fits)
	}
	if !isNormal(x) || !isNormal(y) || !impl.GoodOp(x) || !impl.GoodOp(y) {
		t.Fatalf("TransformOps(%v, %v) = %v, %v: both must be normal", a, b, x, y)
	}
	clashes, told := clashesByHand(a, b)
	if n, ok := impl.ClashesOf(a, b); n != clashes || ok != told {
		t.Fatalf("ClashesOf(%.200v, %.200v) = %d, %v, not %d, %v", a, b, n, ok, clashes, told)
	}
	if n, ok := impl.ClashesOf(b, a); n != clashes || ok != told {
		t.Fatalf("ClashesOf(%.200v, %.200v) = %d, %v, not %d, %v", b, a, n, ok, clashes, told)
	}
	same, told := sameByHand(a, b)
	if n, ok := impl.SameTexts(a, b); n != same || ok != told {
		t.Fatalf("SameTexts(%.200v, %.200v) = %v, %v, not %v, %v", a, b, n, ok, same, told)
	}
	if fits {
		checkSameText(t, a, b, x, y)
	}
	return fits
}

// checkSameText asks for promise 4 itself: of x, which is a behind b, and y,
// which is b behind a.
func checkSameText(t *testing.T, a, b, x, y []impl.Part) {
	t.Helper()
	s := textForBoth(a, b)
	left, ok1 := impl.ApplyOp(a, s)
	left, ok2 := impl.ApplyOp(y, left)
	right, ok3 := impl.ApplyOp(b, s)
	right, ok4 := impl.ApplyOp(x, right)
	if left != right || !ok1 || !ok2 || !ok3 || !ok4 {
		t.Fatalf("of %q: %v and then %v make %q, %v and then %v make %q", s, a, y, left, b, x, right)
	}
	one, ok1 := impl.ComposeOps(a, y)
	two, ok2 := impl.ComposeOps(b, x)
	if !slices.Equal(one, two) || ok1 != ok2 {
		t.Fatalf("%v and then %v are %v, but %v and then %v are %v", a, y, one, b, x, two)
	}
}

// besideOps are small changes; their texts tell which one of two put a byte.
func besideOps(n int, mine string) [][]impl.Part {
	return opsOf(n, keep(1), keep(2), put(mine), put(mine+"."), drop("a"), drop("b"), drop("ab"))
}

// Promise 4: two changes of one text come to the same, whichever is first.
func TestBesideComesToTheSame(t *testing.T) {
	met, unlike := 0, 0
	for _, a := range besideOps(3, "x") {
		for _, b := range besideOps(3, "y") {
			if checkBeside(t, a, b) {
				met++
			} else if ofOneText(a, b) {
				unlike++
			}
		}
	}
	if met < 10000 || unlike < 1000 {
		t.Errorf("but %d twos were told, and %d dropped unlike bytes", met, unlike)
	}
}

// bytesOps are all changes of a text, byte by byte, with a put or none at each
// place; of each byte that goes the put lies at either side.
func bytesOps(s string, mine string) [][]impl.Part {
	var out [][]impl.Part
	var more func(op []impl.Part, at int)
	more = func(op []impl.Part, at int) {
		for _, ahead := range [][]impl.Part{nil, {put(mine)}} {
			now := append(slices.Clone(op), ahead...)
			if at == len(s) {
				out = append(out, now)
				continue
			}
			more(append(slices.Clone(now), keep(1)), at+1)
			more(append(slices.Clone(now), drop(s[at:at+1])), at+1)
		}
	}
	more(nil, 0)
	return out
}

// Promise 4: puts at every place of a text, ahead of, among and behind all
// that one or both drop.
func TestBesideAtEveryPlace(t *testing.T) {
	for _, s := range []string{"", "a", "ab", "abc"} {
		for _, a := range bytesOps(s, "x") {
			for _, b := range bytesOps(s, "y") {
				if !checkBeside(t, a, b) {
					t.Fatalf("TransformOps(%v, %v) is not told", a, b)
				}
			}
		}
	}
}

func TestBesideOfLongTexts(t *testing.T) {
	c := &chooser{4}
	told := 0
	for k := range 1500 {
		s := c.text(c.next(impl.MaxDoc + 1))
		if checkBeside(t, c.opOn(s, 1+k%impl.MaxParts), c.opOn(s, 1+c.next(impl.MaxParts))) {
			told++
		}
	}
	if told < 500 || told == 1500 {
		t.Errorf("%d were told: some must be beyond a limit, and some not", told)
	}
}

func TestBesideAtTheLimits(t *testing.T) {
	for _, a := range edgeOps() {
		for _, b := range edgeOps() {
			checkBeside(t, a, b)
		}
	}
}

func TestBesideOneByOne(t *testing.T) {
	for _, x := range []struct{ a, b, first, second []impl.Part }{
		{nil, nil, nil, nil},
		{[]impl.Part{}, []impl.Part{put("y")}, []impl.Part{keep(1)}, []impl.Part{put("y")}},
		{[]impl.Part{put("x")}, nil, []impl.Part{put("x")}, []impl.Part{keep(1)}},
		{[]impl.Part{keep(2)}, []impl.Part{keep(2)}, []impl.Part{keep(2)}, []impl.Part{keep(2)}},
		// What one keeps and the other one drops the first one has not any more.
		{[]impl.Part{keep(3)}, []impl.Part{keep(1), drop("b"), keep(1)}, []impl.Part{keep(2)}, []impl.Part{keep(1), drop("b"), keep(1)}},
		{[]impl.Part{keep(1), drop("b"), keep(1)}, []impl.Part{keep(3)}, []impl.Part{keep(1), drop("b"), keep(1)}, []impl.Part{keep(2)}},
		{[]impl.Part{drop("a"), keep(1)}, []impl.Part{keep(1), drop("b")}, []impl.Part{drop("a")}, []impl.Part{drop("b")}},
		// What both drop neither has.
		{[]impl.Part{drop("ab")}, []impl.Part{drop("ab")}, nil, nil},
		{[]impl.Part{drop("ab"), keep(1)}, []impl.Part{keep(1), drop("bc")}, []impl.Part{drop("a")}, []impl.Part{drop("c")}},
		{[]impl.Part{drop("abc")}, []impl.Part{keep(1), drop("b"), keep(1)}, []impl.Part{drop("ac")}, nil},
		// What one puts the other one keeps.
		{[]impl.Part{keep(1), put("xx"), keep(1)}, []impl.Part{keep(2)}, []impl.Part{keep(1), put("xx"), keep(1)}, []impl.Part{keep(4)}},
		{[]impl.Part{put("x"), keep(1)}, []impl.Part{keep(1), put("yyy")}, []impl.Part{put("x"), keep(4)}, []impl.Part{keep(2), put("yyy")}},
		{[]impl.Part{keep(1), put("x"), keep(1)}, []impl.Part{drop("ab")}, []impl.Part{put("x")}, []impl.Part{drop("a"), keep(1), drop("b")}},
		// Where both put at one place what a puts stands ahead.
		{[]impl.Part{put("x")}, []impl.Part{put("y")}, []impl.Part{put("x"), keep(1)}, []impl.Part{keep(1), put("y")}},
		{[]impl.Part{put("y")}, []impl.Part{put("x")}, []impl.Part{put("y"), keep(1)}, []impl.Part{keep(1), put("x")}},
		{[]impl.Part{keep(1), put("x"), keep(1)}, []impl.Part{keep(1), put("y"), keep(1)}, []impl.Part{keep(1), put("x"), keep(2)}, []impl.Part{keep(2), put("y"), keep(1)}},
		{[]impl.Part{keep(2), put("x")}, []impl.Part{keep(2), put("y")}, []impl.Part{keep(2), put("x"), keep(1)}, []impl.Part{keep(3), put("y")}},
		{[]impl.Part{put("x"), put("z"), keep(1)}, []impl.Part{put("y"), put("w"), keep(1)}, []impl.Part{put("xz"), keep(3)}, []impl.Part{keep(2), put("yw"), keep(1)}},
		{[]impl.Part{put("x"), drop("a")}, []impl.Part{put("y"), drop("a")}, []impl.Part{put("x"), keep(1)}, []impl.Part{keep(1), put("y")}},
		{[]impl.Part{drop("a"), put("x")}, []impl.Part{drop("a"), put("y")}, []impl.Part{put("x"), keep(1)}, []impl.Part{keep(1), put("y")}},
		{[]impl.Part{put("x"), drop("a")}, []impl.Part{put("y"), keep(1)}, []impl.Part{put("x"), keep(1), drop("a")}, []impl.Part{keep(1), put("y")}},
		// It is no one place where a byte lies between that one has dropped.
		{[]impl.Part{drop("a"), put("x")}, []impl.Part{put("y"), drop("a")}, []impl.Part{keep(1), put("x")}, []impl.Part{put("y"), keep(1)}},
		{[]impl.Part{drop("a"), put("x")}, []impl.Part{put("y"), keep(1)}, []impl.Part{keep(1), put("x"), drop("a")}, []impl.Part{put("y"), keep(1)}},
		{[]impl.Part{keep(1), put("x")}, []impl.Part{put("y"), drop("a")}, []impl.Part{keep(1), put("x")}, []impl.Part{put("y"), drop("a"), keep(1)}},
		{[]impl.Part{put("x"), keep(1)}, []impl.Part{drop("a"), put("y")}, []impl.Part{put("x"), keep(1)}, []impl.Part{keep(1), put("y"), drop("a")}},
		// Both ends of a text.
		{[]impl.Part{put("x"), keep(1), put("z")}, []impl.Part{put("y"), drop("a"), put("w")}, []impl.Part{put("x"), keep(1), put("z"), keep(1)}, []impl.Part{keep(1), put("y"), drop("a"), keep(1), put("w")}},
		{[]impl.Part{keep(300)}, []impl.Part{drop(longText(300))}, nil, []impl.Part{drop(longText(300))}},
	} {
		first, second, ok := impl.TransformOps(x.a, x.b)
		if !slices.Equal(first, x.first) || !slices.Equal(second, x.second) || !ok {
			t.Errorf("TransformOps(%v, %v) = %v, %v, %v, not %v, %v", x.a, x.b, first, second, ok, x.first, x.second)
		}
	}
}

func TestBesideTextsOneByOne(t *testing.T) {
	for _, x := range []struct {
		s    string
		a, b []impl.Part
		want string
	}{
		{"", nil, nil, ""},
		{"", []impl.Part{put("x")}, []impl.Part{put("y")}, "xy"},
		{"abc", []impl.Part{keep(1), put("x"), keep(2)}, []impl.Part{keep(1), put("y"), drop("b"), keep(1)}, "axyc"},
		{"abc", []impl.Part{keep(1), put("x"), drop("b"), keep(1)}, []impl.Part{keep(2), put("y"), drop("c")}, "axy"},
		{"abc", []impl.Part{drop("abc"), put("x")}, []impl.Part{keep(1), put("y"), keep(2)}, "yx"},
		{"abc", []impl.Part{put("x"), drop("abc")}, []impl.Part{keep(1), put("y"), keep(2)}, "xy"},
		{"abc", []impl.Part{drop("ab"), keep(1)}, []impl.Part{keep(1), drop("bc")}, ""},
		{"abc", []impl.Part{put("x"), keep(3), put("z")}, []impl.Part{put("y"), drop("abc"), put("w")}, "xyzw"},
		{"A/", []impl.Part{keep(1), put("B/"), keep(1)}, []impl.Part{keep(1), put("C/"), keep(1)}, "AB/C//"},
	} {
		first, second, ok := impl.TransformOps(x.a, x.b)
		left, _ := impl.ApplyOp(x.a, x.s)
		left, _ = impl.ApplyOp(second, left)
		right, _ := impl.ApplyOp(x.b, x.s)
		right, _ = impl.ApplyOp(first, right)
		if left != x.want || right != x.want || !ok {
			t.Errorf("%v and %v make %q and %q of %q, %v, not %q", x.a, x.b, left, right, x.s, ok, x.want)
		}
	}
}

// A change beside one that keeps all is itself, normal.
func TestBesideWhatKeepsAll(t *testing.T) {
	eachChange(func(op []impl.Part, s string) {
		takes, makes, _ := impl.SizesOf(op)
		n, _ := impl.NormalOp(op)
		all, _ := impl.KeepAll(takes)
		after, _ := impl.KeepAll(makes)
		if x, y, ok := impl.TransformOps(op, all); !slices.Equal(x, n) || !slices.Equal(y, after) || !ok {
			t.Fatalf("TransformOps(%v, %v) = %v, %v, %v", op, all, x, y, ok)
		}
		if x, y, ok := impl.TransformOps(all, op); !slices.Equal(x, after) || !slices.Equal(y, n) || !ok {
			t.Fatalf("TransformOps(%v, %v) = %v, %v, %v", all, op, x, y, ok)
		}
		if k, ok := impl.ClashesOf(op, all); k != 0 || !ok {
			t.Fatalf("ClashesOf(%v, %v) = %d, %v", op, all, k, ok)
		}
	})
}

// The limits may be met exactly; one more is too many.
func TestLimitsOfBeside(t *testing.T) {
	full, half := longText(300), longText(150)
	for _, x := range []struct {
		a, b []impl.Part
		ok   bool
	}{
		{[]impl.Part{put(half)}, []impl.Part{put(half)}, true},
		{[]impl.Part{put(half)}, []impl.Part{put(half + "b")}, false},
		{[]impl.Part{put(full)}, nil, true},
		{[]impl.Part{put(full)}, []impl.Part{put("y")}, false},
		{nil, []impl.Part{put(full)}, true},
		{[]impl.Part{keep(298), put("x")}, []impl.Part{put("y"), keep(298)}, true},
		{[]impl.Part{keep(299), put("x")}, []impl.Part{put("y"), keep(299)}, false},
		{[]impl.Part{put("x"), drop(full)}, []impl.Part{keep(300)}, true},
		{[]impl.Part{put(full), drop(full)}, []impl.Part{drop(full)}, true},
		{[]impl.Part{put(full), drop(full)}, []impl.Part{put("y"), drop(full)}, false},
		{[]impl.Part{put(half), drop(full)}, []impl.Part{put(half), drop(full)}, true},
		{[]impl.Part{put(half), drop(full)}, []impl.Part{keep(150), drop(half)}, true},
		// Just MaxParts parts, then one more for each byte that b puts among them.
		{fence(60, keep(2), put("x")), []impl.Part{keep(60)}, true},
		{fence(60, keep(2), put("x")), []impl.Part{put("y"), keep(60)}, true},
		{fence(60, put("x"), keep(2)), []impl.Part{keep(60), put("y")}, true},
		{fence(60, keep(2), put("x")), []impl.Part{keep(60), put("y")}, false},
		{fence(59, keep(2), put("x")), []impl.Part{keep(60), put("y")}, true},
		{fence(60, drop("aa"), keep(1)), []impl.Part{keep(1), put("y"), keep(89)}, false},
		{fence(58, drop("aa"), keep(1)), []impl.Part{keep(1), put("y"), keep(86)}, true},
		{[]impl.Part{keep(60)}, fence(60, keep(2), put("x")), true},
		{[]impl.Part{keep(60), put("y")}, fence(60, keep(2), put("x")), true},
		{[]impl.Part{put("y"), keep(60)}, fence(60, put("x"), keep(2)), false},
	} {
		first, second, ok := impl.TransformOps(x.a, x.b)
		if ok != x.ok || !ok && len(first)+len(second) > 0 {
			t.Errorf("TransformOps(%v, %v) = %v, %v, %v", x.a, x.b, first, second, ok)
		}
		checkBeside(t, x.a, x.b)
		if same, ok := impl.SameTexts(x.a, x.b); !same || !ok {
			t.Errorf("SameTexts(%v, %v) = %v, %v", x.a, x.b, same, ok)
		}
		if _, ok := impl.ClashesOf(x.a, x.b); !ok {
			t.Errorf("ClashesOf(%v, %v) is not told", x.a, x.b)
		}
	}
	first, _, _ := impl.TransformOps(fence(60, keep(2), put("x")), []impl.Part{put("y"), keep(60)})
	if len(first) != impl.MaxParts {
		t.Errorf("%d parts are told, not just MaxParts", len(first))
	}
}

// turns is the a of TransformOps with each in turn, as the document says it.
func turns(a []impl.Part, l [][]impl.Part) ([]impl.Part, bool) {
	if !opIsGood(a) || len(l) > mostOver {
		return nil, false
	}
	for _, b := range l {
		first, _, ok := transformByHand(a, b)
		if !ok {
			return nil, false
		}
		a = first
	}
	return a, true
}

func checkOver(t *testing.T, a []impl.Part, l [][]impl.Part) bool {
	t.Helper()
	want, fits := turns(a, l)
	got, ok := impl.TransformOver(a, l)
	if !slices.Equal(got, want) || ok != fits {
		t.Fatalf("TransformOver(%.200v, %.200v) = %v, %v, not %v, %v", a, l, got, ok, want, fits)
	}
	if len(l) > 0 && !isNormal(got) {
		t.Fatalf("TransformOver(%v, %v) = %v: it must be normal", a, l, got)
	}
	return ok
}

func TestOverIsEachInTurn(t *testing.T) {
	met := 0
	ops := besideOps(2, "y")
	for _, a := range besideOps(2, "x") {
		for _, b := range ops {
			checkOver(t, a, [][]impl.Part{b})
			if !ofOneText(a, b) {
				continue
			}
			for _, c := range ops {
				if checkOver(t, a, [][]impl.Part{b, c}) {
					met++
				}
			}
		}
	}
	if met < 1000 {
		t.Errorf("but %d were told", met)
	}
	c := &chooser{8}
	told := 0
	for k := range 300 {
		texts, ops := c.chain(c.text(c.next(impl.MaxDoc+1)), k%(mostOver+2), 1+c.next(6))
		if checkOver(t, c.opOn(texts[0], 1+c.next(6)), ops) {
			told++
		}
	}
	if told < 50 || told == 300 {
		t.Errorf("%d were told: some must be beyond a limit, and some not", told)
	}
}

// Promise 4: a change that is taken over all of a chain fits the text in the
// end, and puts there what it has put.
func TestOverFitsTheTextInTheEnd(t *testing.T) {
	c := &chooser{6}
	for k := range 200 {
		texts, ops := c.chain(c.text(c.next(100)), k%(mostOver+1), 2)
		a := []impl.Part{put("x"), keep(len(texts[0])), put("z")}
		if len(texts[0]) == 0 {
			a = []impl.Part{put("xz")}
		}
		over, ok := impl.TransformOver(a, ops)
		if !ok {
			continue
		}
		last := texts[len(texts)-1]
		text, ok := impl.ApplyOp(over, last)
		if !ok || len(text) != len(last)+2 || !strings.Contains(text, "x") || !strings.Contains(text, "z") {
			t.Fatalf("TransformOver(%v, %v) = %v makes %q, %v of %q", a, ops, over, text, ok, last)
		}
	}
}

func TestOverOneByOne(t *testing.T) {
	all := [][]impl.Part{}
	for k := range mostOver {
		all = append(all, []impl.Part{put("y"), keep(1 + k)})
	}
	a := []impl.Part{keep(1), put("x")}
	if over, ok := impl.TransformOver(a, all); !slices.Equal(over, []impl.Part{keep(21), put("x")}) || !ok {
		t.Errorf("over 20 changes it is %v, %v", over, ok)
	}
	if over, ok := impl.TransformOver(a, append(all, []impl.Part{keep(21)})); len(over) > 0 || ok {
		t.Errorf("over 21 changes it is %v, %v", over, ok)
	}
	empty := make([][]impl.Part, 21)
	if over, ok := impl.TransformOver(nil, empty[:20]); len(over) > 0 || !ok {
		t.Errorf("the empty change over 20 empty ones is %v, %v", over, ok)
	}
	if over, ok := impl.TransformOver(nil, empty); len(over) > 0 || ok {
		t.Errorf("the empty change over 21 empty ones is %v, %v", over, ok)
	}
	if over, ok := impl.TransformOver(nil, make([][]impl.Part, 3000000)); len(over) > 0 || ok {
		t.Errorf("the empty change over a great many is %v, %v", over, ok)
	}
	for _, none := range [][][]impl.Part{nil, {}, all[2:2]} {
		for _, op := range append(edgeOps(), a, []impl.Part{drop("a"), put("x"), put("z")}) {
			if over, ok := impl.TransformOver(op, none); !slices.Equal(over, op) || !ok {
				t.Errorf("%v over no change is %v, %v", op, over, ok)
			}
		}
	}
	// It stands ahead of what each of them puts at its place, one behind the other.
	over, ok := impl.TransformOver([]impl.Part{put("x"), keep(1)}, [][]impl.Part{{put("y"), keep(1)}, {keep(1), put("z"), keep(1)}, {drop("yz"), keep(1)}, {drop("a")}})
	if !slices.Equal(over, []impl.Part{put("x")}) || !ok {
		t.Errorf("over four it is %v, %v", over, ok)
	}
}

// A change has no answer over changes of which one, wherever it stands, has none.
func TestOverStopsWhereOneDoesNotFit(t *testing.T) {
	wrong := [][]impl.Part{nil, {keep(1)}, {keep(3)}, {drop("b"), keep(1)}, {drop("xb")}, {keep(2), put(longText(299))}, {{}}, {keep(-1)}, {keep(2), put("-")}, fence(61, keep(1), put("x"))}
	a := []impl.Part{drop("a"), put("x"), keep(1)}
	for at := range 3 {
		for _, b := range wrong {
			first := [][]impl.Part{{keep(2)}, {keep(2)}}[:min(at, 2)]
			l := append(slices.Clone(first), b)
			l = append(l, []impl.Part{keep(2)})
			if over, ok := impl.TransformOver(a, l); len(over) > 0 || ok {
				t.Errorf("TransformOver(%v, %v) = %v, %v", a, l, over, ok)
			}
			checkOver(t, a, l)
		}
	}
	for number, op := range notOps() {
		for k, l := range [][][]impl.Part{nil, {nil}, {{keep(1)}}, {op}} {
			if over, ok := impl.TransformOver(op, l); len(over) > 0 || ok {
				t.Errorf("TransformOver of the change %d and the list %d has %d parts, %v", number, k, len(over), ok)
			}
		}
		if over, ok := impl.TransformOver([]impl.Part{keep(1)}, [][]impl.Part{{keep(1)}, op}); len(over) > 0 || ok {
			t.Errorf("over the change %d it has %d parts, %v", number, len(over), ok)
		}
	}
}

func TestClashesOneByOne(t *testing.T) {
	for _, x := range []struct {
		a, b []impl.Part
		want int
	}{
		{nil, nil, 0},
		{[]impl.Part{put("x")}, []impl.Part{put("y")}, 0},
		{[]impl.Part{keep(1), put("x"), keep(1)}, []impl.Part{keep(1), put("y"), keep(1)}, 0},
		{[]impl.Part{drop("a"), keep(1)}, []impl.Part{keep(1), drop("b")}, 0},
		{[]impl.Part{drop("ab")}, []impl.Part{drop("ab")}, 2},
		{[]impl.Part{drop("ab"), keep(1)}, []impl.Part{keep(1), drop("bc")}, 1},
		{[]impl.Part{drop("abc")}, []impl.Part{keep(1), put("z"), drop("b"), keep(1)}, 2},
		// A put within a run, at its ends, and beside it.
		{[]impl.Part{drop("abc")}, []impl.Part{put("z"), keep(3)}, 0},
		{[]impl.Part{drop("abc")}, []impl.Part{keep(1), put("z"), keep(2)}, 1},
		{[]impl.Part{drop("abc")}, []impl.Part{keep(2), put("z"), keep(1)}, 1},
		{[]impl.Part{drop("abc")}, []impl.Part{keep(3), put("z")}, 0},
		{[]impl.Part{drop("a"), keep(1), drop("c")}, []impl.Part{keep(1), put("z"), keep(2)}, 0},
		{[]impl.Part{drop("a"), keep(1), drop("c")}, []impl.Part{keep(2), put("z"), keep(1)}, 0},
		{[]impl.Part{keep(1), drop("bc"), keep(1)}, []impl.Part{keep(1), put("z"), keep(3)}, 0},
		{[]impl.Part{keep(1), drop("bc"), keep(1)}, []impl.Part{keep(2), put("z"), keep(2)}, 1},
		{[]impl.Part{keep(1), drop("bc"), keep(1)}, []impl.Part{keep(3), put("z"), keep(1)}, 0},
		// A put counts once, however many bytes it has.
		{[]impl.Part{drop("ab")}, []impl.Part{keep(1), put("xyz"), keep(1)}, 1},
		{[]impl.Part{drop("abc")}, []impl.Part{keep(1), put("x"), keep(1), put("y"), keep(1)}, 2},
		{[]impl.Part{put("x"), drop("ab"), keep(2)}, []impl.Part{keep(1), put("y"), keep(1), drop("cd")}, 1},
		{[]impl.Part{keep(3), put("x"), keep(1), drop("ef")}, []impl.Part{keep(2), drop("cd"), keep(1), put("y"), keep(1)}, 2},
		// However the parts are cut: one run, one put, a Put ahead of the Drop beside it.
		{[]impl.Part{drop("a"), drop("b")}, []impl.Part{keep(1), put("z"), keep(1)}, 1},
		{[]impl.Part{drop("a"), put("x"), drop("b")}, []impl.Part{keep(1), put("z"), keep(1)}, 1},
		{[]impl.Part{drop("ab")}, []impl.Part{keep(1), put("y"), put("z"), keep(1)}, 1},
		{[]impl.Part{drop("ab")}, []impl.Part{drop("a"), put("z"), keep(1)}, 1},
		{[]impl.Part{drop("ab")}, []impl.Part{put("z"), drop("a"), keep(1)}, 1},
		{[]impl.Part{drop("ab")}, []impl.Part{keep(1), drop("b"), put("z")}, 2},
		{[]impl.Part{drop("ab")}, []impl.Part{keep(1), put("z"), drop("b")}, 2},
		{[]impl.Part{drop(longText(300))}, []impl.Part{put("z"), drop(longText(300))}, 300},
		{[]impl.Part{drop(longText(300))}, []impl.Part{keep(299), put("z"), drop("a")}, 2},
		{[]impl.Part{drop(longText(60))}, fence(60, keep(2), put("x")), 29},
	} {
		for _, way := range [][2][]impl.Part{{x.a, x.b}, {x.b, x.a}} {
			if n, ok := impl.ClashesOf(way[0], way[1]); n != x.want || !ok {
				t.Errorf("ClashesOf(%v, %v) = %d, %v, not %d", way[0], way[1], n, ok, x.want)
			}
		}
	}
}

// A change has the same clashes as the normal one.
func TestClashesOfNormalChanges(t *testing.T) {
	for _, a := range besideOps(3, "x") {
		n, _ := impl.NormalOp(a)
		for _, b := range besideOps(3, "y") {
			one, ok := impl.ClashesOf(a, b)
			if other, ok2 := impl.ClashesOf(n, b); one != other || ok != ok2 {
				t.Fatalf("ClashesOf(%v, %v) = %d, %v, but of the normal one %d, %v", a, b, one, ok, other, ok2)
			}
		}
	}
}

func TestSameTextsOneByOne(t *testing.T) {
	full := longText(300)
	for _, x := range []struct {
		a, b     []impl.Part
		same, ok bool
	}{
		{nil, nil, true, true},
		{[]impl.Part{put("x")}, []impl.Part{put("y")}, true, true},
		{[]impl.Part{drop("a")}, []impl.Part{drop("a")}, true, true},
		{[]impl.Part{drop("a")}, []impl.Part{drop("b")}, false, true},
		{[]impl.Part{drop("a")}, []impl.Part{keep(1)}, true, true},
		{[]impl.Part{drop("a"), keep(1)}, []impl.Part{keep(1), drop("b")}, true, true},
		{[]impl.Part{drop("ab")}, []impl.Part{drop("a"), drop("b")}, true, true},
		{[]impl.Part{drop("ab")}, []impl.Part{drop("a"), put("x"), drop("b")}, true, true},
		{[]impl.Part{drop("ab")}, []impl.Part{drop("a"), put("x"), drop("c")}, false, true},
		{[]impl.Part{drop("ab")}, []impl.Part{keep(1), drop("a")}, false, true},
		{[]impl.Part{drop("ab")}, []impl.Part{drop("b"), keep(1)}, false, true},
		{[]impl.Part{drop("ab")}, []impl.Part{put("a"), keep(1), drop("b")}, true, true},
		{[]impl.Part{drop(full)}, []impl.Part{keep(299), drop("a")}, true, true},
		{[]impl.Part{drop(full)}, []impl.Part{keep(299), drop("b")}, false, true},
		{[]impl.Part{drop("ab")}, []impl.Part{drop("a")}, false, false},
		{[]impl.Part{drop("ab")}, []impl.Part{drop("abc")}, false, false},
		{nil, []impl.Part{keep(1)}, false, false},
		{[]impl.Part{put("a")}, []impl.Part{drop("a")}, false, false},
		{[]impl.Part{put("a")}, []impl.Part{keep(1)}, false, false},
		{[]impl.Part{drop(full)}, []impl.Part{keep(299)}, false, false},
	} {
		for _, way := range [][2][]impl.Part{{x.a, x.b}, {x.b, x.a}} {
			if same, ok := impl.SameTexts(way[0], way[1]); same != x.same || ok != x.ok {
				t.Errorf("SameTexts(%v, %v) = %v, %v, not %v, %v", way[0], way[1], same, ok, x.same, x.ok)
			}
			if x.same {
				continue
			}
			if first, second, ok := impl.TransformOps(way[0], way[1]); len(first)+len(second) > 0 || ok {
				t.Errorf("TransformOps(%v, %v) = %v, %v, %v", way[0], way[1], first, second, ok)
			}
			if n, ok := impl.ClashesOf(way[0], way[1]); n != 0 || ok {
				t.Errorf("ClashesOf(%v, %v) = %d, %v", way[0], way[1], n, ok)
			}
		}
	}
}

// Promise 20: changes that are not good have the zero answer of each function.
func TestWrongChangesBesideOthersHaveTheZeroAnswer(t *testing.T) {
	for number, op := range notOps() {
		for k, other := range [][]impl.Part{nil, {keep(1)}, {put("a")}, {drop("a")}, {keep(impl.MaxDoc)}, {drop(longText(impl.MaxDoc))}, op} {
			for _, way := range [][2][]impl.Part{{op, other}, {other, op}} {
				if x, y, ok := impl.TransformOps(way[0], way[1]); len(x)+len(y) > 0 || ok {
					t.Errorf("TransformOps of the change %d and the other one %d: %d and %d parts, %v", number, k, len(x), len(y), ok)
				}
				if n, ok := impl.ClashesOf(way[0], way[1]); n != 0 || ok {
					t.Errorf("ClashesOf the change %d and the other one %d = %d, %v", number, k, n, ok)
				}
				if same, ok := impl.SameTexts(way[0], way[1]); same || ok {
					t.Errorf("SameTexts of the change %d and the other one %d = %v, %v", number, k, same, ok)
				}
			}
		}
	}
}

// Promise 20: the answers share no memory with what was handed in, nor with one another.
func TestBesideIsNewMemory(t *testing.T) {
	long, other := strings.Repeat("ab", 50), strings.Repeat("c", 90)
	ops := [][]impl.Part{
		{keep(190)},
		{put(other), keep(190)},
		{keep(190), put(long)},
		{drop(long), keep(90)},
		{keep(100), drop(other)},
		{keep(100), put(long), drop(other)},
		{drop(long), put(other), keep(90)},
		{put(long), drop(long), drop(other)},
	}
	for _, a := range ops {
		for _, b := range ops {
			x, y, ok := impl.TransformOps(a, b)
			_, _, fits := transformByHand(a, b)
			if ok != fits {
				t.Fatalf("TransformOps(%v, %v) is told: %v", a, b, ok)
			}
			over, _ := impl.TransformOver(a, [][]impl.Part{b})
			if shareParts(x, y) || shareParts(x, a) || shareParts(x, b) || shareParts(y, a) || shareParts(y, b) || shareParts(over, a) || shareParts(over, b) {
				t.Errorf("%v and %v: the answers lie in the memory of others", a, b)
			}
		}
		for _, none := range [][][]impl.Part{nil, {}} {
			if over, ok := impl.TransformOver(a, none); shareParts(over, a) || !ok {
				t.Errorf("%v over no change lies in the memory of what was handed in", a)
			}
		}
	}
}

// Promise 20: nothing is written into an argument, nor behind its length.
func TestBesideStayAsTheyWere(t *testing.T) {
	behind := impl.Part{Keep: 1, Put: "behind", Drop: "behind"}
	lists := append(append(besideOps(2, "x"), edgeOps()...), notOps()...)
	for number, op := range lists {
		long := append(slices.Clone(op), behind, behind)
		before := slices.Clone(long)
		given := long[:len(op)]
		takes, _, _ := impl.SizesOf(given)
		all, _ := impl.KeepAll(takes)
		over := [][]impl.Part{all, given, {behind}}
		x, y, ok := impl.TransformOps(given, all)
		if _, _, fits := transformByHand(op, all); ok != fits {
			t.Errorf("the change %d is read beyond its length, or not wholly", number)
		}
		z, w, _ := impl.TransformOps(given, given)
		u, ok := impl.TransformOver(given, over[:1])
		if ok != opIsGood(op) {
			t.Errorf("the change %d is read beyond its length, or not wholly, or what lies behind the list is", number)
		}
		v, _ := impl.TransformOver(given, over[:0])
		impl.TransformOver(all, over)
		impl.ClashesOf(given, all)
		impl.ClashesOf(given, given)
		impl.SameTexts(given, all)
		impl.SameTexts(given, given)
		for _, told := range [][]impl.Part{x, y, z, w, u, v} {
			clear(told[:cap(told)])
		}
		if !slices.Equal(long, before) || len(over) != 3 || !slices.Equal(over[1], op) || !slices.Equal(over[2], []impl.Part{behind}) {
			t.Errorf("the change %d was changed", number)
		}
	}
}

// FuzzBeside: no argument makes one of the four functions panic, or tell another thing than the document says.
func FuzzBeside(f *testing.F) {
	f.Add(1, "", "", 0, "x", "", 0, "", "b", 2, "", "")
	f.Add(300, "", "", 150, "", "", 0, longText(150), "", 0, "", longText(300))
	f.Add(-1, "a", "b", 1<<62, "", "", 0, "\xff", "", 0, "", "-")
	f.Fuzz(func(t *testing.T, k1 int, p1, d1 string, k2 int, p2, d2 string, k3 int, p3, d3 string, k4 int, p4, d4 string) {
		parts := []impl.Part{{Keep: k1, Put: p1, Drop: d1}, {Keep: k2, Put: p2, Drop: d2}, {Keep: k3, Put: p3, Drop: d3}, {Keep: k4, Put: p4, Drop: d4}}
		for _, a := range opsOf(2, parts...) {
			for _, b := range opsOf(2, parts...) {
				checkBeside(t, a, b)
				checkOver(t, a, [][]impl.Part{b, b})
				checkOver(t, a, [][]impl.Part{b, a})
			}
		}
	})
}
