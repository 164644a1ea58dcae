package tests

import (
	"math"
	"slices"
	"strings"
	"testing"
	"unsafe"

	"loop.example/g00253/impl"
)

const allBytes = namesOfElements + plainBytes + "/"

func keep(n int) impl.Part       { return impl.Part{Keep: n} }
func put(text string) impl.Part  { return impl.Part{Put: text} }
func drop(text string) impl.Part { return impl.Part{Drop: text} }

// origin is where a byte that a change makes comes from: a place of the text
// that it takes, or none (-1) where it was put.
type origin struct {
	from int
	c    byte
}

// trace is what is left of a change when its parts are forgotten: where each
// byte that it makes comes from, and which bytes it drops (-1: kept).
type trace struct {
	made    []origin
	dropped []int
}

func textIsGood(s string) bool {
	return len(s) <= impl.MaxDoc && strings.Trim(s, allBytes) == ""
}

// opIsGood asks for what chapter 3 says of a change, one by one.
func opIsGood(op []impl.Part) bool {
	if len(op) > impl.MaxParts {
		return false
	}
	takes, makes := 0, 0
	for _, p := range op {
		set := 0
		if p.Keep != 0 {
			set++
		}
		if p.Put != "" {
			set++
		}
		if p.Drop != "" {
			set++
		}
		if set != 1 || p.Keep < 0 || p.Keep > impl.MaxDoc || !textIsGood(p.Put) || !textIsGood(p.Drop) {
			return false
		}
		takes += p.Keep + len(p.Drop)
		makes += p.Keep + len(p.Put)
	}
	return takes <= impl.MaxDoc && makes <= impl.MaxDoc
}

func sizesByHand(op []impl.Part) (int, int) {
	x := traceOf(op)
	return len(x.dropped), len(x.made)
}

func traceOf(op []impl.Part) trace {
	var x trace
	for _, p := range op {
		for k := 0; k < p.Keep; k++ {
			x.made = append(x.made, origin{from: len(x.dropped)})
			x.dropped = append(x.dropped, -1)
		}
		for _, c := range []byte(p.Put) {
			x.made = append(x.made, origin{-1, c})
		}
		for _, c := range []byte(p.Drop) {
			x.dropped = append(x.dropped, int(c))
		}
	}
	return x
}

// normalOfTrace lays out what was put and dropped ahead of each byte that is
// kept, and behind the last one; keeps are told together at the end.
func normalOfTrace(x trace) []impl.Part {
	var out []impl.Part
	at := 0
	between := func(puts string, to int) {
		drops := ""
		for ; at < to; at++ {
			drops += string(rune(x.dropped[at]))
		}
		if puts != "" {
			out = append(out, put(puts))
		}
		if drops != "" {
			out = append(out, drop(drops))
		}
	}
	puts := ""
	for _, o := range x.made {
		if o.from < 0 {
			puts += string(rune(o.c))
			continue
		}
		between(puts, o.from)
		puts = ""
		at++
		if n := len(out); n > 0 && out[n-1].Keep > 0 {
			out[n-1].Keep++
		} else {
			out = append(out, keep(1))
		}
	}
	between(puts, len(x.dropped))
	return out
}

func normalByHand(op []impl.Part) []impl.Part {
	return normalOfTrace(traceOf(op))
}

func invertByHand(op []impl.Part) []impl.Part {
	var out []impl.Part
	for _, p := range op {
		out = append(out, impl.Part{Keep: p.Keep, Put: p.Drop, Drop: p.Put})
	}
	return normalByHand(out)
}

// composeByHand follows each byte through both changes.
func composeByHand(a, b []impl.Part) ([]impl.Part, bool) {
	if !opIsGood(a) || !opIsGood(b) {
		return nil, false
	}
	x, y := traceOf(a), traceOf(b)
	if len(x.made) != len(y.dropped) {
		return nil, false
	}
	var both trace
	both.dropped = slices.Clone(x.dropped)
	for _, o := range y.made {
		if o.from < 0 {
			both.made = append(both.made, o)
		} else {
			both.made = append(both.made, x.made[o.from])
		}
	}
	for i, c := range y.dropped {
		if o := x.made[i]; c >= 0 && o.from >= 0 {
			both.dropped[o.from] = c
		} else if c >= 0 && int(o.c) != c {
			return nil, false
		}
	}
	out := normalOfTrace(both)
	if len(out) > impl.MaxParts {
		return nil, false
	}
	return out, true
}

func applyByHand(op []impl.Part, s string) (string, bool) {
	if !opIsGood(op) || !textIsGood(s) {
		return "", false
	}
	out := ""
	for _, p := range op {
		if len(s) < p.Keep || !strings.HasPrefix(s[p.Keep:], p.Drop) {
			return "", false
		}
		out += s[:p.Keep] + p.Put
		s = s[p.Keep+len(p.Drop):]
	}
	if s != "" {
		return "", false
	}
	return out, true
}

// isNormal asks for the three things that the document says of a normal change.
func isNormal(op []impl.Part) bool {
	kind := func(p impl.Part) string {
		if p.Keep > 0 {
			return "keep"
		}
		if p.Put != "" {
			return "put"
		}
		return "drop"
	}
	puts, drops := 0, 0
	for i, p := range op {
		if i > 0 && (kind(op[i-1]) == kind(p) || kind(op[i-1]) == "drop" && kind(p) == "put") {
			return false
		}
		switch kind(p) {
		case "keep":
			puts, drops = 0, 0
		case "put":
			puts++
		case "drop":
			drops++
		}
		if puts > 1 || drops > 1 {
			return false
		}
	}
	return true
}

// opsOf are all changes of at most n of these parts.
func opsOf(n int, parts ...impl.Part) [][]impl.Part {
	out := [][]impl.Part{nil}
	for k := 0; len(out[k]) < n; k++ {
		for _, p := range parts {
			out = append(out, append(slices.Clip(out[k]), p))
		}
	}
	return out
}

func smallOps(n int) [][]impl.Part {
	return opsOf(n, keep(1), keep(2), put("a"), put("ba"), drop("a"), drop("b"), drop("ab"))
}

// madeText is a text for a change to be done to: what it drops lies in it.
func madeText(op []impl.Part, kept string) string {
	out := ""
	for _, p := range op {
		out += p.Drop
		for k := 0; k < p.Keep; k++ {
			out += kept[k%len(kept) : k%len(kept)+1]
		}
	}
	return out
}

// chooser tells numbers by a fixed rule.
type chooser struct{ seed uint32 }

func (c *chooser) next(n int) int {
	c.seed = c.seed*1664525 + 1013904223
	return int(c.seed>>16) % n
}

func (c *chooser) text(n int) string {
	var b []byte
	for range n {
		b = append(b, allBytes[c.next(len(allBytes))])
	}
	return string(b)
}

// opOn is a good change of at most parts parts that fits the text. Half of them
// keep by turns, so that they have many parts though they are normal.
func (c *chooser) opOn(s string, parts int) []impl.Part {
	var op []impl.Part
	room := impl.MaxDoc - len(s)
	byTurns := c.next(2) == 0
	for len(s) > 0 && len(op) < parts-1 {
		n := 1 + c.next(min(len(s), 1+2*len(s)/parts))
		kind := c.next(3)
		if byTurns && len(op)%2 == 0 {
			kind = 0
		} else if byTurns {
			kind = 1 + kind%2
		}
		switch kind {
		case 0:
			op = append(op, keep(n))
			s = s[n:]
		case 1:
			op = append(op, drop(s[:n]))
			s = s[n:]
			room += n
		case 2:
			if n = min(n, room); n > 0 {
				op = append(op, put(c.text(n)))
				room -= n
			}
		}
	}
	if len(s) > 0 {
		return append(op, keep(len(s)))
	}
	if room > 0 && len(op) < parts {
		return append(op, put(c.text(1+c.next(min(room, 20)))))
	}
	return op
}

// chain is changes each of which fits the text that those ahead of it make.
func (c *chooser) chain(s string, n int, parts int) (texts []string, ops [][]impl.Part) {
	texts = []string{s}
	for range n {
		op := c.opOn(s, parts)
		next, fits := applyByHand(op, s)
		if !fits {
			panic("a change does not fit the text that it was made for")
		}
		s = next
		texts, ops = append(texts, s), append(ops, op)
	}
	return texts, ops
}

// eachChange goes through changes with a text that each fits.
func eachChange(f func(op []impl.Part, s string)) {
	for _, op := range append(smallOps(4), edgeOps()...) {
		if opIsGood(op) {
			f(op, madeText(op, "bA/"))
		}
	}
	c := &chooser{3}
	for k := range 300 {
		s := c.text(c.next(impl.MaxDoc + 1))
		f(c.opOn(s, 1+k%impl.MaxParts), s)
	}
}

// fence is n parts in which no two of one kind lie side by side.
func fence(n int, first, second impl.Part) []impl.Part {
	var op []impl.Part
	for k := range n {
		op = append(op, []impl.Part{first, second}[k%2])
	}
	return op
}

func longText(n int) string { return strings.Repeat("a", n) }

// edgeOps are good changes at the document's limits.
func edgeOps() [][]impl.Part {
	full, half := longText(impl.MaxDoc), longText(impl.MaxDoc/2)
	return [][]impl.Part{
		nil,
		{},
		{keep(1)},
		{keep(impl.MaxDoc)},
		{put(full)},
		{drop(full)},
		{put(full), drop(full)},
		{drop(full), put(full)},
		{keep(1), put(full[1:])},
		{keep(impl.MaxDoc - 1), put("a"), drop("a")},
		{drop("a"), keep(impl.MaxDoc - 1), put("z")},
		{keep(impl.MaxDoc / 2), put(half), drop(half)},
		{put(half), put(half), drop(half), drop(half)},
		{keep(100), keep(100), keep(100)},
		{put(allBytes), drop(allBytes), put(allBytes)},
		{drop(allBytes), keep(1), drop(allBytes)},
		{put("a"), drop("a")},
		{drop("a"), put("a")},
		fence(impl.MaxParts, keep(1), put("x")),
		fence(impl.MaxParts, drop("xy"), keep(2)),
		fence(impl.MaxParts, put("abcde"), drop("abcde")),
		fence(impl.MaxParts, keep(5), keep(5)),
		fence(impl.MaxParts, put("abcde"), put("edcba")),
		fence(impl.MaxParts, drop("/F.,5"), drop("/")),
	}
}

// notOps are changes that are not good.
func notOps() [][]impl.Part {
	full := longText(impl.MaxDoc)
	over := longText(impl.MaxDoc + 1)
	out := [][]impl.Part{
		{{}},
		{keep(1), {}},
		{{}, keep(1)},
		{{Keep: 1, Put: "a"}},
		{{Keep: 1, Drop: "a"}},
		{{Put: "a", Drop: "a"}},
		{{Put: "a", Drop: "b"}},
		{{Keep: 1, Put: "a", Drop: "b"}},
		{{Keep: -1, Put: "a"}},
		{{Keep: -1, Drop: "a"}},
		{{Keep: math.MinInt, Put: "a", Drop: "a"}},
		{keep(-1)},
		{keep(-impl.MaxDoc)},
		{keep(math.MinInt)},
		{keep(impl.MaxDoc + 1)},
		{keep(math.MaxInt)},
		{keep(2), keep(-1)},
		{keep(math.MaxInt), keep(math.MaxInt), keep(3)},
		{keep(math.MaxInt), keep(math.MinInt), keep(2)},
		{put(over)},
		{drop(over)},
		{put(longText(5000000))},
		{drop(longText(5000000))},
		{keep(impl.MaxDoc), keep(1)},
		{keep(impl.MaxDoc), put("a")},
		{put("a"), keep(impl.MaxDoc)},
		{keep(impl.MaxDoc), drop("a")},
		{drop("a"), keep(impl.MaxDoc)},
		{put(full), put("a")},
		{drop(full), drop("a")},
		{put(full), keep(1)},
		{drop(full), keep(1)},
		{put(full), drop(full), put("a")},
		{drop(full), put(full), drop("a")},
		{keep(150), put(full[:151]), drop(full[:100])},
		{keep(150), put(full[:100]), drop(full[:151])},
		fence(impl.MaxParts+1, keep(1), put("x")),
		fence(impl.MaxParts+1, keep(1), keep(1)),
		fence(impl.MaxParts+1, put("a"), put("a")),
		fence(impl.MaxParts+1, drop("a"), drop("a")),
		fence(impl.MaxParts+1, drop("a"), put("a")),
		fence(impl.MaxParts, keep(5), put("abcdef")),
		fence(impl.MaxParts, keep(5), drop("abcdef")),
		fence(300000, keep(1), put("x")),
		make([]impl.Part, impl.MaxParts),
		make([]impl.Part, impl.MaxParts+1),
	}
	for _, s := range notTexts() {
		out = append(out, []impl.Part{put(s)}, []impl.Part{drop(s)}, []impl.Part{keep(1), put("a"), drop(s)})
	}
	return out
}

func TestGoodOpAsSaid(t *testing.T) {
	good := 0
	check := func(op []impl.Part) {
		want := opIsGood(op)
		if impl.GoodOp(op) != want {
			t.Fatalf("GoodOp(%.80v) is not %v", op, want)
		}
		if want {
			good++
		}
	}
	for _, op := range edgeOps() {
		if check(op); !impl.GoodOp(op) {
			t.Errorf("GoodOp(%v) is false", op)
		}
	}
	for _, op := range notOps() {
		if check(op); impl.GoodOp(op) {
			t.Errorf("GoodOp(%.80v) is true", op)
		}
	}
	eachChange(func(op []impl.Part, _ string) { check(op) })
	half := longText(150)
	for _, op := range opsOf(3, keep(1), keep(150), put("A"), put(half), drop("/"), drop(half), keep(0), keep(-1), put("-"), drop("G"),
		impl.Part{Keep: 1, Put: "a"}, impl.Part{Keep: 1, Drop: "a"}, impl.Part{Put: "a", Drop: "a"}) {
		check(op)
	}
	if good < 3000 {
		t.Errorf("but %d good changes were met", good)
	}
}

func TestSizesAreTheBytesTakenAndMade(t *testing.T) {
	eachChange(func(op []impl.Part, s string) {
		takes, makes := sizesByHand(op)
		x, y, ok := impl.SizesOf(op)
		if x != takes || y != makes || !ok {
			t.Fatalf("SizesOf(%v) = %d, %d, %v, not %d, %d", op, x, y, ok, takes, makes)
		}
		if text, ok := impl.ApplyOp(op, s); len(s) != x || len(text) != y || !ok {
			t.Fatalf("%v makes %q of %q, %v, but SizesOf is %d, %d", op, text, s, ok, x, y)
		}
	})
}

func TestApplyMakesTheTextOrNone(t *testing.T) {
	done := 0
	for _, op := range smallOps(4) {
		for _, s := range allTexts("ab", 4) {
			want, fits := applyByHand(op, s)
			if text, ok := impl.ApplyOp(op, s); text != want || ok != fits {
				t.Fatalf("ApplyOp(%v, %q) = %q, %v, not %q, %v", op, s, text, ok, want, fits)
			}
			if fits {
				done++
			}
		}
	}
	if done < 2000 {
		t.Errorf("but %d changes were done", done)
	}
	eachChange(func(op []impl.Part, s string) {
		want, _ := applyByHand(op, s)
		if text, ok := impl.ApplyOp(op, s); text != want || !ok {
			t.Fatalf("ApplyOp(%v, %q) = %q, %v, not %q", op, s, text, ok, want)
		}
		for _, other := range []string{s + "a", "a" + s, s[:max(0, len(s)-1)], s[min(1, len(s)):]} {
			want, fits := applyByHand(op, other)
			if text, ok := impl.ApplyOp(op, other); text != want || ok != fits || fits && other != s {
				t.Fatalf("ApplyOp(%v, %q) = %q, %v", op, other, text, ok)
			}
		}
		wrong := []byte(s)
		for i := 0; i < len(s); i += 1 + len(s)/9 {
			for _, c := range []byte{'5', '-', 0, 255} {
				wrong[i] = c
				want, fits := applyByHand(op, string(wrong))
				if text, ok := impl.ApplyOp(op, string(wrong)); text != want || ok != fits {
					t.Fatalf("ApplyOp(%v, %q) = %q, %v, not %q, %v", op, wrong, text, ok, want, fits)
				}
			}
			wrong[i] = s[i]
		}
	})
}

func TestNormalChangesDoTheSame(t *testing.T) {
	eachChange(func(op []impl.Part, s string) {
		want := normalByHand(op)
		n, ok := impl.NormalOp(op)
		if !slices.Equal(n, want) || !ok || !isNormal(n) || !impl.GoodOp(n) {
			t.Fatalf("NormalOp(%v) = %v, %v, not %v", op, n, ok, want)
		}
		if again, ok := impl.NormalOp(n); !slices.Equal(again, n) || !ok {
			t.Fatalf("NormalOp(%v) = %v, %v: it was normal", n, again, ok)
		}
		one, _ := impl.ApplyOp(op, s)
		if other, ok := impl.ApplyOp(n, s); other != one || !ok {
			t.Fatalf("%v makes %q of %q, but NormalOp of it %q, %v", op, one, s, other, ok)
		}
		if isNormal(op) && !slices.Equal(op, n) {
			t.Fatalf("NormalOp(%v) = %v: it was normal", op, n)
		}
	})
}

func TestNormalChangesOneByOne(t *testing.T) {
	for _, x := range []struct{ op, want []impl.Part }{
		{nil, nil},
		{[]impl.Part{keep(1), keep(2)}, []impl.Part{keep(3)}},
		{[]impl.Part{put("a"), put("b")}, []impl.Part{put("ab")}},
		{[]impl.Part{drop("a"), drop("b")}, []impl.Part{drop("ab")}},
		{[]impl.Part{drop("a"), put("b")}, []impl.Part{put("b"), drop("a")}},
		{[]impl.Part{put("b"), drop("a")}, []impl.Part{put("b"), drop("a")}},
		{[]impl.Part{put("a"), drop("a")}, []impl.Part{put("a"), drop("a")}},
		{[]impl.Part{drop("a"), put("b"), drop("c"), put("d")}, []impl.Part{put("bd"), drop("ac")}},
		{[]impl.Part{put("a"), drop("b"), put("c"), drop("d"), keep(1)}, []impl.Part{put("ac"), drop("bd"), keep(1)}},
		{[]impl.Part{keep(1), drop("a"), put("b"), keep(1), drop("c"), put("d")}, []impl.Part{keep(1), put("b"), drop("a"), keep(1), put("d"), drop("c")}},
		{[]impl.Part{keep(1), put("a"), keep(1), keep(1), put("b"), put("c")}, []impl.Part{keep(1), put("a"), keep(2), put("bc")}},
		{fence(60, keep(5), keep(5)), []impl.Part{keep(300)}},
		{fence(60, put("abcde"), drop("edcba")), []impl.Part{put(strings.Repeat("abcde", 30)), drop(strings.Repeat("edcba", 30))}},
		{fence(60, keep(1), put("x")), fence(60, keep(1), put("x"))},
	} {
		if n, ok := impl.NormalOp(x.op); !slices.Equal(n, x.want) || !ok {
			t.Errorf("NormalOp(%v) = %v, %v, not %v", x.op, n, ok, x.want)
		}
	}
}

// Promise 3: a change that is turned round takes back what it did.
func TestTurnedRoundTakesBack(t *testing.T) {
	eachChange(func(op []impl.Part, s string) {
		text, _ := impl.ApplyOp(op, s)
		back, ok := impl.InvertOp(op)
		if want := invertByHand(op); !slices.Equal(back, want) || !ok || !isNormal(back) || !impl.GoodOp(back) {
			t.Fatalf("InvertOp(%v) = %v, %v, not %v", op, back, ok, want)
		}
		if was, ok := impl.ApplyOp(back, text); was != s || !ok {
			t.Fatalf("%v makes %q of %q, and turned round %q, %v of that", op, text, s, was, ok)
		}
		takes, makes, _ := impl.SizesOf(op)
		if x, y, ok := impl.SizesOf(back); x != makes || y != takes || !ok {
			t.Fatalf("SizesOf(%v) = %d, %d, %v", back, x, y, ok)
		}
		twice, ok := impl.InvertOp(back)
		if n, _ := impl.NormalOp(op); !slices.Equal(twice, n) || !ok {
			t.Fatalf("%v turned round twice is %v, %v, not %v", op, twice, ok, n)
		}
		both, ok := impl.ComposeOps(op, back)
		if _, few := composeByHand(op, back); ok != few {
			t.Fatalf("%v and it turned round are put together: %v", op, ok)
		}
		if was, fits := impl.ApplyOp(both, s); ok && (was != s || !fits) {
			t.Fatalf("%v and it turned round make %q, %v of %q", op, was, fits, s)
		}
	})
}

// Promise 3: changes that are put together do what one behind the other does.
func TestPutTogetherAsOneBehindTheOther(t *testing.T) {
	met := 0
	for _, a := range smallOps(3) {
		for _, b := range smallOps(3) {
			want, fits := composeByHand(a, b)
			both, ok := impl.ComposeOps(a, b)
			if !slices.Equal(both, want) || ok != fits || !isNormal(both) {
				t.Fatalf("ComposeOps(%v, %v) = %v, %v, not %v, %v", a, b, both, ok, want, fits)
			}
			if fits {
				met++
			}
		}
	}
	if met < 5000 {
		t.Errorf("but %d changes were put together", met)
	}
	for _, a := range smallOps(2) {
		for _, b := range smallOps(2) {
			both, ok := impl.ComposeOps(a, b)
			for _, s := range allTexts("ab", 4) {
				half, first := impl.ApplyOp(a, s)
				want, second := impl.ApplyOp(b, half)
				if !first || !second {
					continue
				}
				if text, fits := impl.ApplyOp(both, s); text != want || !fits || !ok {
					t.Fatalf("%v and %v make %q of %q, but together %q, %v, %v", a, b, want, s, text, fits, ok)
				}
			}
		}
	}
}

func TestPutTogetherOfLongTexts(t *testing.T) {
	c := &chooser{11}
	told := 0
	for k := range 600 {
		texts, ops := c.chain(c.text(c.next(impl.MaxDoc+1)), 2, 1+k%impl.MaxParts)
		want, fits := composeByHand(ops[0], ops[1])
		both, ok := impl.ComposeOps(ops[0], ops[1])
		if !slices.Equal(both, want) || ok != fits {
			t.Fatalf("ComposeOps(%v, %v) = %v, %v, not %v, %v", ops[0], ops[1], both, ok, want, fits)
		}
		if !ok {
			continue
		}
		told++
		if text, ok := impl.ApplyOp(both, texts[0]); text != texts[2] || !ok {
			t.Fatalf("ComposeOps(%v, %v) makes %q, %v of %q, not %q", ops[0], ops[1], text, ok, texts[0], texts[2])
		}
	}
	if told < 300 || told == 600 {
		t.Errorf("%d were put together: some must be beyond MaxParts, and some not", told)
	}
}

// Promise 3: it does not matter which are put together first of three.
func TestThreePutTogetherEitherWay(t *testing.T) {
	same := func(a, b, c []impl.Part) bool {
		ab, ok := impl.ComposeOps(a, b)
		bc, ok2 := impl.ComposeOps(b, c)
		if !ok || !ok2 {
			return false
		}
		left, ok := impl.ComposeOps(ab, c)
		right, ok2 := impl.ComposeOps(a, bc)
		if ok != ok2 || !slices.Equal(left, right) {
			t.Fatalf("of %v, %v and %v: %v, %v and %v, %v", a, b, c, left, ok, right, ok2)
		}
		return ok
	}
	met := 0
	for _, a := range smallOps(2) {
		for _, b := range smallOps(2) {
			if _, ok := impl.ComposeOps(a, b); !ok {
				continue
			}
			for _, c := range smallOps(2) {
				if same(a, b, c) {
					met++
				}
			}
		}
	}
	if met < 1000 {
		t.Errorf("but %d threes were put together", met)
	}
	c := &chooser{5}
	for k := range 300 {
		texts, ops := c.chain(c.text(c.next(impl.MaxDoc+1)), 3, 1+k%20)
		if !same(ops[0], ops[1], ops[2]) {
			t.Fatalf("three changes of %q are not put together: %v", texts[0], ops)
		}
	}
}

func TestPutTogetherOneByOne(t *testing.T) {
	for _, x := range []struct{ a, b, want []impl.Part }{
		{nil, nil, nil},
		{nil, []impl.Part{put("a")}, []impl.Part{put("a")}},
		{[]impl.Part{drop("a")}, nil, []impl.Part{drop("a")}},
		{[]impl.Part{put("a")}, []impl.Part{drop("a")}, nil},
		{[]impl.Part{drop("a")}, []impl.Part{put("a")}, []impl.Part{put("a"), drop("a")}},
		{[]impl.Part{put("ac")}, []impl.Part{keep(1), put("b"), keep(1)}, []impl.Part{put("abc")}},
		{[]impl.Part{put("abc")}, []impl.Part{keep(1), drop("b"), keep(1)}, []impl.Part{put("ac")}},
		{[]impl.Part{keep(1), put("x"), keep(1)}, []impl.Part{keep(1), drop("x"), keep(1)}, []impl.Part{keep(2)}},
		{[]impl.Part{keep(1), drop("x"), keep(1)}, []impl.Part{drop("a"), keep(1)}, []impl.Part{drop("ax"), keep(1)}},
		{[]impl.Part{keep(1), drop("x"), keep(1)}, []impl.Part{keep(1), drop("b")}, []impl.Part{keep(1), drop("xb")}},
		{[]impl.Part{keep(1), put("x"), keep(1)}, []impl.Part{drop("a"), keep(1), put("y"), drop("b")}, []impl.Part{put("xy"), drop("ab")}},
		{[]impl.Part{keep(2), drop("c"), put("xy")}, []impl.Part{keep(1), drop("bx"), keep(1), put(".")}, []impl.Part{keep(1), put("y."), drop("bc")}},
		{[]impl.Part{keep(300)}, []impl.Part{drop(longText(300)), put("b")}, []impl.Part{put("b"), drop(longText(300))}},
		{[]impl.Part{put(longText(300))}, []impl.Part{drop(longText(300)), put("b")}, []impl.Part{put("b")}},
	} {
		if both, ok := impl.ComposeOps(x.a, x.b); !slices.Equal(both, x.want) || !ok {
			t.Errorf("ComposeOps(%v, %v) = %v, %v, not %v", x.a, x.b, both, ok, x.want)
		}
	}
}

func TestKeepAllChangesNothing(t *testing.T) {
	c := &chooser{1}
	for n := 0; n <= impl.MaxDoc; n++ {
		op, ok := impl.KeepAll(n)
		want := []impl.Part{keep(n)}
		if n == 0 {
			want = nil
		}
		if !slices.Equal(op, want) || !ok || !impl.GoodOp(op) {
			t.Fatalf("KeepAll(%d) = %v, %v", n, op, ok)
		}
		s := c.text(n)
		if text, ok := impl.ApplyOp(op, s); text != s || !ok {
			t.Errorf("KeepAll(%d) makes %q, %v of %q", n, text, ok, s)
		}
	}
	for _, n := range []int{-1, -2, -impl.MaxDoc, math.MinInt, impl.MaxDoc + 1, math.MaxInt} {
		if op, ok := impl.KeepAll(n); len(op) > 0 || ok {
			t.Errorf("KeepAll(%d) = %v, %v", n, op, ok)
		}
	}
}

// Whatever is put together with a change that keeps all is itself, normal.
func TestKeepAllPutTogetherIsNothingMore(t *testing.T) {
	eachChange(func(op []impl.Part, s string) {
		takes, makes, _ := impl.SizesOf(op)
		n, _ := impl.NormalOp(op)
		ahead, _ := impl.KeepAll(takes)
		behind, _ := impl.KeepAll(makes)
		if both, ok := impl.ComposeOps(ahead, op); !slices.Equal(both, n) || !ok {
			t.Fatalf("ComposeOps(%v, %v) = %v, %v, not %v", ahead, op, both, ok, n)
		}
		if both, ok := impl.ComposeOps(op, behind); !slices.Equal(both, n) || !ok {
			t.Fatalf("ComposeOps(%v, %v) = %v, %v, not %v", op, behind, both, ok, n)
		}
	})
}

// checkSplice holds SpliceOp against what the document says of it; false where it is not good.
func checkSplice(t *testing.T, s string, from, to int, with string) bool {
	t.Helper()
	var want []impl.Part
	fits := textIsGood(s) && textIsGood(with) && 0 <= from && from <= to && to <= len(s) && len(s)-(to-from)+len(with) <= impl.MaxDoc
	if fits && s[from:to] == with {
		want = normalByHand([]impl.Part{keep(len(s))})
	} else if fits {
		want = normalByHand([]impl.Part{keep(from), put(with), drop(s[from:to]), keep(len(s) - to)})
	}
	op, ok := impl.SpliceOp(s, from, to, with)
	if !slices.Equal(op, want) || ok != fits || !isNormal(op) || !impl.GoodOp(op) {
		t.Fatalf("SpliceOp(%.90q, %d, %d, %.90q) = %v, %v, not %v, %v", s, from, to, with, op, ok, want, fits)
	}
	if !fits {
		return false
	}
	if text, ok := impl.ApplyOp(op, s); text != s[:from]+with+s[to:] || !ok {
		t.Fatalf("SpliceOp(%q, %d, %d, %q) makes %q, %v", s, from, to, with, text, ok)
	}
	return true
}

func TestSpliceIsJustTheSplice(t *testing.T) {
	for _, s := range allTexts("aB", 5) {
		for from := -1; from <= len(s)+1; from++ {
			for to := -1; to <= len(s)+1; to++ {
				for _, with := range allTexts("aB", 3) {
					checkSplice(t, s, from, to, with)
				}
			}
		}
	}
	c := &chooser{9}
	done := 0
	for range 2000 {
		s := c.text(c.next(impl.MaxDoc + 1))
		from := c.next(len(s) + 1)
		to := from + c.next(len(s)-from+1)
		if checkSplice(t, s, from, to, c.text(c.next(impl.MaxDoc+1)/(1+c.next(4)))) {
			done++
		}
		if !checkSplice(t, s, from, to, strings.Clone(s[from:to])) {
			t.Fatal("what is put again is not good")
		}
	}
	if done < 1000 || done == 2000 {
		t.Errorf("%d splices were good: some must be beyond MaxDoc, and some not", done)
	}
}

func TestSpliceAtTheEdges(t *testing.T) {
	full := longText(impl.MaxDoc)
	for _, x := range []struct {
		s        string
		from, to int
		put      string
		want     []impl.Part
		ok       bool
	}{
		{"", 0, 0, "", nil, true},
		{"", 0, 0, "ab", []impl.Part{put("ab")}, true},
		{"", 0, 0, full, []impl.Part{put(full)}, true},
		{"ab", 0, 0, "x", []impl.Part{put("x"), keep(2)}, true},
		{"ab", 2, 2, "x", []impl.Part{keep(2), put("x")}, true},
		{"ab", 0, 1, "", []impl.Part{drop("a"), keep(1)}, true},
		{"ab", 1, 2, "", []impl.Part{keep(1), drop("b")}, true},
		{"ab", 0, 2, "", []impl.Part{drop("ab")}, true},
		{"ab", 0, 2, "ba", []impl.Part{put("ba"), drop("ab")}, true},
		{"ab", 0, 2, "ab", []impl.Part{keep(2)}, true},
		{"ab", 1, 1, "", []impl.Part{keep(2)}, true},
		{"abc", 1, 2, "b", []impl.Part{keep(3)}, true},
		{"abc", 1, 2, "bb", []impl.Part{keep(1), put("bb"), drop("b"), keep(1)}, true},
		{"abc", 0, 3, "abd", []impl.Part{put("abd"), drop("abc")}, true},
		{full, 0, 0, "b", nil, false},
		{full, 300, 300, "b", nil, false},
		{full, 150, 150, "", []impl.Part{keep(300)}, true},
		{full, 0, 1, "b", []impl.Part{put("b"), drop("a"), keep(299)}, true},
		{full, 299, 300, "b", []impl.Part{keep(299), put("b"), drop("a")}, true},
		{full, 299, 300, "bb", nil, false},
		{full, 0, 300, full, []impl.Part{keep(300)}, true},
		{full, 0, 300, full[1:] + "b", []impl.Part{put(full[1:] + "b"), drop(full)}, true},
		{full, 0, 300, "", []impl.Part{drop(full)}, true},
		{full[1:], 299, 299, "z", []impl.Part{keep(299), put("z")}, true},
	} {
		if op, ok := impl.SpliceOp(x.s, x.from, x.to, x.put); !slices.Equal(op, x.want) || ok != x.ok {
			t.Errorf("SpliceOp(%.9q, %d, %d, %.9q) = %v, %v, not %v, %v", x.s, x.from, x.to, x.put, op, ok, x.want, x.ok)
		}
	}
}

// Promise 20: changes that are not good have the zero answer of each function.
func TestWrongChangesHaveTheZeroAnswer(t *testing.T) {
	for number, op := range notOps() {
		if impl.GoodOp(op) {
			t.Errorf("the change %d is good", number)
		}
		if x, y, ok := impl.SizesOf(op); x != 0 || y != 0 || ok {
			t.Errorf("SizesOf the change %d = %d, %d, %v", number, x, y, ok)
		}
		if n, ok := impl.NormalOp(op); len(n) > 0 || ok {
			t.Errorf("NormalOp of the change %d = %v, %v", number, n, ok)
		}
		if n, ok := impl.InvertOp(op); len(n) > 0 || ok {
			t.Errorf("InvertOp of the change %d = %v, %v", number, n, ok)
		}
		for _, s := range []string{"", "a", "ab", longText(impl.MaxDoc), longText(impl.MaxDoc + 1)} {
			if text, ok := impl.ApplyOp(op, s); text != "" || ok {
				t.Errorf("ApplyOp of the change %d and %.9q = %q, %v", number, s, text, ok)
			}
		}
		for _, other := range [][]impl.Part{nil, {keep(1)}, {put("a")}, {drop("a")}, {keep(impl.MaxDoc)}, op} {
			if n, ok := impl.ComposeOps(op, other); len(n) > 0 || ok {
				t.Errorf("ComposeOps of the change %d and %v = %v, %v", number, other, n, ok)
			}
			if n, ok := impl.ComposeOps(other, op); len(n) > 0 || ok {
				t.Errorf("ComposeOps of %v and the change %d = %v, %v", other, number, n, ok)
			}
		}
	}
}

// Promise 20: texts that a good change does not fit.
func TestWrongTextsOfChangesHaveTheZeroAnswer(t *testing.T) {
	for _, s := range notTexts() {
		n := min(len(s), impl.MaxDoc)
		for _, op := range [][]impl.Part{{keep(n)}, {put("a"), keep(n)}, {keep(n), put("a")}, {drop("a"), keep(n)}, nil} {
			if text, ok := impl.ApplyOp(op, s); text != "" || ok {
				t.Errorf("ApplyOp(%v, %.40q) = %.40q, %v", op, s, text, ok)
			}
		}
		for _, good := range []string{"", "a", longText(impl.MaxDoc)} {
			for _, at := range []int{-1, 0, 1, len(s), len(good)} {
				if op, ok := impl.SpliceOp(s, at, at, good); len(op) > 0 || ok {
					t.Errorf("SpliceOp(%.40q, %d, %d, %.9q) = %v, %v", s, at, at, good, op, ok)
				}
				if op, ok := impl.SpliceOp(good, 0, at, s); len(op) > 0 || ok {
					t.Errorf("SpliceOp(%.9q, 0, %d, %.40q) = %v, %v", good, at, s, op, ok)
				}
			}
		}
		if op, ok := impl.SpliceOp(s, 0, len(s), s); len(op) > 0 || ok {
			t.Errorf("SpliceOp of all of %.40q with itself = %v, %v", s, op, ok)
		}
	}
	for _, op := range edgeOps() {
		takes, _, _ := impl.SizesOf(op)
		for _, n := range []int{takes - 1, takes + 1, 2 * takes, impl.MaxDoc + 1, 100000} {
			if n < 0 || n == takes {
				continue
			}
			if text, ok := impl.ApplyOp(op, longText(n)); text != "" || ok {
				t.Errorf("ApplyOp(%v, %d bytes) = %q, %v", op, n, text, ok)
			}
		}
	}
}

// Promise 20: places that a text has not, and from behind to.
func TestWrongPlacesOfSplicesHaveTheZeroAnswer(t *testing.T) {
	for _, s := range []string{"", "a", "ab", "aAb/Bc/", longText(impl.MaxDoc)} {
		for _, at := range oddPlaces(s) {
			for _, other := range append(oddPlaces(s), 0, len(s)/2, len(s)) {
				for _, with := range []string{"", "a", s} {
					if op, ok := impl.SpliceOp(s, at, other, with); len(op) > 0 || ok {
						t.Errorf("SpliceOp(%.9q, %d, %d, %.9q) = %v, %v", s, at, other, with, op, ok)
					}
					if op, ok := impl.SpliceOp(s, other, at, with); len(op) > 0 || ok {
						t.Errorf("SpliceOp(%.9q, %d, %d, %.9q) = %v, %v", s, other, at, with, op, ok)
					}
				}
			}
		}
		for from := 1; from <= len(s); from++ {
			for _, with := range []string{"", "a"} {
				if op, ok := impl.SpliceOp(s, from, from-1, with); len(op) > 0 || ok {
					t.Errorf("SpliceOp(%.9q, %d, %d, %q) = %v, %v", s, from, from-1, with, op, ok)
				}
			}
		}
	}
}

// Promise 20: good changes that do not fit one another.
func TestChangesThatDoNotFitAreNotPutTogether(t *testing.T) {
	for _, x := range []struct{ a, b []impl.Part }{
		{nil, []impl.Part{keep(1)}},
		{[]impl.Part{keep(1)}, nil},
		{[]impl.Part{keep(2)}, []impl.Part{keep(1)}},
		{[]impl.Part{keep(1)}, []impl.Part{keep(2)}},
		{[]impl.Part{put("a")}, []impl.Part{drop("b")}},
		{[]impl.Part{put("ab")}, []impl.Part{drop("ac")}},
		{[]impl.Part{put("ab")}, []impl.Part{drop("a")}},
		{[]impl.Part{put("ab")}, []impl.Part{drop("ba")}},
		{[]impl.Part{keep(1), put("ab")}, []impl.Part{keep(2), drop("c")}},
		{[]impl.Part{keep(1), put("ab")}, []impl.Part{drop("zb"), keep(1)}},
		{[]impl.Part{drop("a")}, []impl.Part{drop("a")}},
		{[]impl.Part{drop("a")}, []impl.Part{keep(1)}},
		{[]impl.Part{put(longText(300))}, []impl.Part{keep(299), drop("b")}},
		{[]impl.Part{put(longText(300))}, []impl.Part{keep(299)}},
	} {
		if both, ok := impl.ComposeOps(x.a, x.b); len(both) > 0 || ok {
			t.Errorf("ComposeOps(%v, %v) = %v, %v", x.a, x.b, both, ok)
		}
	}
}

// The limits may be met exactly; one more is too many.
func TestLimitsOfChanges(t *testing.T) {
	if impl.MaxParts != 60 {
		t.Fatal("the limit is another one than the document's")
	}
	full := longText(300)
	for _, x := range []struct {
		op           []impl.Part
		takes, makes int
		ok           bool
	}{
		{nil, 0, 0, true},
		{[]impl.Part{keep(300)}, 300, 300, true},
		{[]impl.Part{keep(301)}, 0, 0, false},
		{[]impl.Part{put(full)}, 0, 300, true},
		{[]impl.Part{drop(full)}, 300, 0, true},
		{[]impl.Part{put(full), drop(full)}, 300, 300, true},
		{[]impl.Part{keep(299), put("b")}, 299, 300, true},
		{[]impl.Part{keep(299), put("bc")}, 0, 0, false},
		{[]impl.Part{keep(299), drop("b")}, 300, 299, true},
		{[]impl.Part{keep(299), drop("bc")}, 0, 0, false},
		{fence(60, keep(1), put("x")), 30, 60, true},
		{fence(61, keep(1), put("x")), 0, 0, false},
		{fence(60, keep(5), keep(5)), 300, 300, true},
	} {
		if takes, makes, ok := impl.SizesOf(x.op); takes != x.takes || makes != x.makes || ok != x.ok {
			t.Errorf("SizesOf(%v) = %d, %d, %v, not %d, %d, %v", x.op, takes, makes, ok, x.takes, x.makes, x.ok)
		}
	}
	a := fence(60, keep(1), put("x"))
	if both, ok := impl.ComposeOps(a, []impl.Part{keep(60)}); !slices.Equal(both, a) || !ok {
		t.Errorf("just MaxParts parts are told as %v, %v", both, ok)
	}
	if both, ok := impl.ComposeOps(a, []impl.Part{keep(60), put("y")}); len(both) != 60 || !ok {
		t.Errorf("just MaxParts parts are told as %v, %v", both, ok)
	}
	if both, ok := impl.ComposeOps(a, []impl.Part{put("y"), keep(60)}); len(both) > 0 || ok {
		t.Errorf("one part more than MaxParts is told as %v, %v", both, ok)
	}
	if text, ok := impl.ApplyOp([]impl.Part{put(full), drop(full)}, full); text != full || !ok {
		t.Error(text, ok)
	}
}

func TestEmptyChange(t *testing.T) {
	for _, op := range [][]impl.Part{nil, {}, fence(5, keep(1), put("a"))[2:2]} {
		if !impl.GoodOp(op) {
			t.Error("the empty change is not good")
		}
		if x, y, ok := impl.SizesOf(op); x != 0 || y != 0 || !ok {
			t.Error(x, y, ok)
		}
		if n, ok := impl.NormalOp(op); len(n) != 0 || !ok {
			t.Error(n, ok)
		}
		if n, ok := impl.InvertOp(op); len(n) != 0 || !ok {
			t.Error(n, ok)
		}
		if text, ok := impl.ApplyOp(op, ""); text != "" || !ok {
			t.Error(text, ok)
		}
		if text, ok := impl.ApplyOp(op, "a"); text != "" || ok {
			t.Error(text, ok)
		}
		if both, ok := impl.ComposeOps(op, nil); len(both) != 0 || !ok {
			t.Error(both, ok)
		}
	}
}

// shareParts tells whether two changes lie in one memory, they or their texts.
func shareParts(a, b []impl.Part) bool {
	size := unsafe.Sizeof(impl.Part{})
	x, y := uintptr(unsafe.Pointer(unsafe.SliceData(a))), uintptr(unsafe.Pointer(unsafe.SliceData(b)))
	if cap(a) > 0 && cap(b) > 0 && x < y+uintptr(cap(b))*size && y < x+uintptr(cap(a))*size {
		return true
	}
	for _, p := range a {
		for _, q := range b {
			if shareText(p.Put+p.Drop, q.Put+q.Drop) {
				return true
			}
		}
	}
	return false
}

// Promise 20: the answers share no memory with what was handed in.
func TestChangesAreNewMemory(t *testing.T) {
	long, other := strings.Repeat("ab", 50), strings.Repeat("c", 90)
	ops := [][]impl.Part{
		{keep(9)},
		{put(long)},
		{drop(long)},
		{put(long), drop(other)},
		{keep(1), put(long), drop(other), keep(3)},
		{drop(other), put(long), keep(1), drop(other), put(long)},
		fence(30, put("xyz"), keep(1)),
	}
	for _, op := range ops {
		n, ok := impl.NormalOp(op)
		back, ok2 := impl.InvertOp(op)
		takes, makes, _ := impl.SizesOf(op)
		ahead, _ := impl.KeepAll(takes)
		behind, _ := impl.KeepAll(makes)
		one, ok3 := impl.ComposeOps(ahead, op)
		two, ok4 := impl.ComposeOps(op, behind)
		if !ok || !ok2 || !ok3 || !ok4 {
			t.Fatalf("%v is not answered", op)
		}
		for i, told := range [][]impl.Part{n, back, one, two} {
			if shareParts(told, op) || shareParts(told, ahead) || shareParts(told, behind) {
				t.Errorf("the answer %d of %v lies in the memory of what was handed in", i, op)
			}
		}
	}
	for _, x := range []struct {
		op []impl.Part
		s  string
	}{
		{[]impl.Part{keep(100)}, long},
		{[]impl.Part{keep(90), drop("ababababab")}, long},
		{[]impl.Part{put(long)}, ""},
		{[]impl.Part{put(long), drop(other)}, other},
	} {
		text, ok := impl.ApplyOp(x.op, x.s)
		if !ok || shareText(text, x.s) || shareParts([]impl.Part{put(text)}, x.op) {
			t.Errorf("ApplyOp(%v, %q) lies in the memory of what was handed in (%v)", x.op, x.s, ok)
		}
	}
	op, _ := impl.SpliceOp(long, 10, 40, other)
	if len(op) != 4 || shareText(op[1].Put, other) || shareText(op[2].Drop, long) {
		t.Errorf("%v lies in the memory of what was spliced", op)
	}
	first, _ := impl.KeepAll(7)
	first[0].Keep = 8
	if second, _ := impl.KeepAll(7); !slices.Equal(second, []impl.Part{keep(7)}) {
		t.Errorf("KeepAll(7) = %v: it lies in the memory of the one ahead", second)
	}
}

// Promise 20: nothing is written into an argument, nor behind its length.
func TestChangesStayAsTheyWere(t *testing.T) {
	behind := impl.Part{Keep: 1, Put: "behind", Drop: "behind"}
	lists := append(append(smallOps(3), edgeOps()...), notOps()...)
	for number, op := range lists {
		long := append(slices.Clone(op), behind, behind)
		before := slices.Clone(long)
		given := long[:len(op)]
		impl.GoodOp(given)
		takes, makes, _ := impl.SizesOf(given)
		impl.ApplyOp(given, longText(takes))
		ahead, _ := impl.KeepAll(takes)
		after, _ := impl.KeepAll(makes)
		n, ok := impl.NormalOp(given)
		back, _ := impl.InvertOp(given)
		one, _ := impl.ComposeOps(ahead, given)
		two, _ := impl.ComposeOps(given, after)
		same, _ := impl.ComposeOps(given, given)
		if ok != opIsGood(op) {
			t.Errorf("the change %d is read beyond its length, or not wholly", number)
		}
		for _, told := range [][]impl.Part{n, back, one, two, same} {
			clear(told[:cap(told)])
		}
		if !slices.Equal(long, before) {
			t.Errorf("the change %d was changed", number)
		}
	}
}

// FuzzChanges: no argument makes one of the eight functions panic, or tell another thing than the document says.
func FuzzChanges(f *testing.F) {
	f.Add(1, "", "", 0, "x", "", 0, "", "b", "ab", 0, 1, "x")
	f.Add(300, "", "", 1, "", "", 0, "-", "", longText(300), 300, 300, longText(300))
	f.Add(math.MinInt, "a", "b", math.MaxInt, "", "", -1, "", "", "", math.MinInt, math.MaxInt, "\xff")
	f.Fuzz(func(t *testing.T, k1 int, p1, d1 string, k2 int, p2, d2 string, k3 int, p3, d3 string, s string, from, to int, with string) {
		checkSplice(t, s, from, to, with)
		parts := []impl.Part{{Keep: k1, Put: p1, Drop: d1}, {Keep: k2, Put: p2, Drop: d2}, {Keep: k3, Put: p3, Drop: d3}}
		for _, a := range opsOf(2, parts...) {
			checkChange(t, a, s)
			for _, b := range opsOf(2, parts...) {
				want, fits := composeByHand(a, b)
				if both, ok := impl.ComposeOps(a, b); !slices.Equal(both, want) || ok != fits {
					t.Errorf("ComposeOps(%v, %v) = %v, %v, not %v, %v", a, b, both, ok, want, fits)
				}
			}
		}
	})
}

func checkChange(t *testing.T, op []impl.Part, s string) {
	t.Helper()
	good := opIsGood(op)
	if impl.GoodOp(op) != good {
		t.Errorf("GoodOp(%v) is not %v", op, good)
	}
	want, fits := applyByHand(op, s)
	if text, ok := impl.ApplyOp(op, s); text != want || ok != fits {
		t.Errorf("ApplyOp(%v, %q) = %q, %v, not %q, %v", op, s, text, ok, want, fits)
	}
	n, ok := impl.NormalOp(op)
	back, ok2 := impl.InvertOp(op)
	if ok != good || ok2 != good {
		t.Errorf("NormalOp and InvertOp of %v: %v, %v, not %v", op, ok, ok2, good)
	}
	if good && (!slices.Equal(n, normalByHand(op)) || !slices.Equal(back, invertByHand(op))) {
		t.Errorf("NormalOp and InvertOp of %v: %v, %v", op, n, back)
	}
	if takes, makes, ok := impl.SizesOf(op); good {
		x, y := sizesByHand(op)
		if takes != x || makes != y || !ok {
			t.Errorf("SizesOf(%v) = %d, %d, %v, not %d, %d", op, takes, makes, ok, x, y)
		}
	}
}
