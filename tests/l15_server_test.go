package tests

import (
	"fmt"
	"math"
	"slices"
	"strings"
	"testing"
	"time"

	"loop.example/g00253/impl"
)

const lastClient = 9
const lastSeq = 1000

func entry(client, seq int, op ...impl.Part) impl.Entry {
	return impl.Entry{Client: client, Seq: seq, Op: op}
}

func sameEntry(a, b impl.Entry) bool {
	return a.Client == b.Client && a.Seq == b.Seq && slices.Equal(a.Op, b.Op)
}

func sameEntries(a, b []impl.Entry) bool { return slices.EqualFunc(a, b, sameEntry) }

func sameServer(a, b impl.Server) bool {
	return a.Start == b.Start && a.Text == b.Text && sameEntries(a.Log, b.Log)
}

func isZeroServer(s impl.Server) bool { return s.Start == "" && s.Text == "" && len(s.Log) == 0 }

func cloneOfEntries(l []impl.Entry) []impl.Entry {
	var out []impl.Entry
	for _, e := range l {
		out = append(out, entry(e.Client, e.Seq, slices.Clone(e.Op)...))
	}
	return out
}

// cloneOfServer has lists of its own, as long as they are.
func cloneOfServer(s impl.Server) impl.Server {
	return impl.Server{Start: s.Start, Text: s.Text, Log: cloneOfEntries(s.Log)}
}

func clientIsGood(client int) bool { return 0 <= client && client <= lastClient }

func entryIsGood(e impl.Entry) bool {
	return clientIsGood(e.Client) && 1 <= e.Seq && e.Seq <= lastSeq && opIsGood(e.Op)
}

// textsByHand are the texts at all versions; false where an entry does not fit.
func textsByHand(start string, log []impl.Entry) ([]string, bool) {
	texts := []string{start}
	for i, e := range log {
		next, fits := applyByHand(e.Op, texts[i])
		if !fits {
			return nil, false
		}
		texts = append(texts, next)
	}
	return texts, true
}

// serverIsGood asks for what chapter 15 says of a server, one by one.
func serverIsGood(s impl.Server) bool {
	if !textIsGood(s.Start) || len(s.Log) > impl.MaxEntries {
		return false
	}
	texts, fit := textsByHand(s.Start, s.Log)
	if !fit || texts[len(s.Log)] != s.Text {
		return false
	}
	for i, e := range s.Log {
		if !entryIsGood(e) || slices.ContainsFunc(s.Log[:i], func(x impl.Entry) bool { return x.Client == e.Client && x.Seq >= e.Seq }) {
			return false
		}
	}
	return true
}

func hasVersion(s impl.Server, version int) bool { return 0 <= version && version <= len(s.Log) }

// behindLogByHand is a change as it is behind entries, and these as they are
// behind it.
func behindLogByHand(op []impl.Part, log []impl.Entry) ([]impl.Part, [][]impl.Part, bool) {
	var others [][]impl.Part
	for _, e := range log {
		first, second, ok := transformByHand(op, e.Op)
		if !ok {
			return nil, nil, false
		}
		op, others = first, append(others, second)
	}
	return op, others, true
}

// takeByHand looks for the codes one behind the other.
func takeByHand(s impl.Server, e impl.Entry, version int) (impl.Server, int, int) {
	if !serverIsGood(s) {
		return impl.Server{}, 0, impl.TakeBad
	}
	if !entryIsGood(e) || !hasVersion(s, version) {
		return s, 0, impl.TakeBad
	}
	for i, x := range s.Log {
		if x.Client == e.Client && x.Seq == e.Seq {
			return s, i, impl.TakeTwice
		}
	}
	for _, x := range s.Log {
		if x.Client == e.Client && x.Seq > e.Seq {
			return s, 0, impl.TakeLate
		}
	}
	texts, _ := textsByHand(s.Start, s.Log)
	_, fits := applyByHand(e.Op, texts[version])
	op, _, told := behindLogByHand(e.Op, s.Log[version:])
	text, good := applyByHand(op, s.Text)
	if !fits || !told || !good || len(s.Log) >= impl.MaxEntries {
		return s, 0, impl.TakeRefused
	}
	return impl.Server{Start: s.Start, Text: text, Log: append(cloneOfEntries(s.Log), entry(e.Client, e.Seq, op...))}, len(s.Log), impl.TakeOk
}

func betweenByHand(s impl.Server, from, to int) ([]impl.Part, bool) {
	if !serverIsGood(s) || from < 0 || from > to || to > len(s.Log) {
		return nil, false
	}
	texts, _ := textsByHand(s.Start, s.Log)
	op, ok := impl.KeepAll(len(texts[from]))
	for _, e := range s.Log[from:to] {
		if ok {
			op, ok = composeByHand(op, e.Op)
		}
	}
	return op, ok
}

func lastSeqByHand(s impl.Server, client int) (int, bool) {
	if !serverIsGood(s) || !clientIsGood(client) {
		return 0, false
	}
	most := 0
	for _, e := range s.Log {
		if e.Client == client {
			most = max(most, e.Seq)
		}
	}
	return most, true
}

// oddVersions are versions that no log of n entries has.
func oddVersions(n int) []int {
	return []int{math.MinInt, -n - 1, -2, -1, n + 1, n + 2, impl.MaxEntries + 1, math.MaxInt - 1, math.MaxInt}
}

// checkVersion asks for the text and the entries at a version, whatever it is.
func checkVersion(t *testing.T, s impl.Server, version int) {
	t.Helper()
	text, log, can := "", []impl.Entry(nil), serverIsGood(s) && hasVersion(s, version)
	if can {
		texts, _ := textsByHand(s.Start, s.Log)
		text, log = texts[version], s.Log[version:]
	}
	if got, ok := impl.TextAt(s, version); got != text || ok != can {
		t.Fatalf("TextAt(%s, %d) = %q, %v, not %q, %v", outset(s), version, got, ok, text, can)
	}
	if got, ok := impl.EntriesFrom(s, version); !sameEntries(got, log) || ok != can {
		t.Fatalf("EntriesFrom(%s, %d) = %s, %v, not %s, %v", outset(s), version, outset(got), ok, outset(log), can)
	}
}

// checkBetween asks for promise 15 of two versions: what is told makes of the text
// at the first one the text at the second one. It tells whether it is told.
func checkBetween(t *testing.T, s impl.Server, from, to int) bool {
	t.Helper()
	want, can := betweenByHand(s, from, to)
	op, ok := impl.ChangeBetween(s, from, to)
	if !slices.Equal(op, want) || ok != can {
		t.Fatalf("ChangeBetween(%s, %d, %d) = %s, %v, not %s, %v", outset(s), from, to, outset(op), ok, outset(want), can)
	}
	if !ok {
		return false
	}
	ahead, _ := impl.TextAt(s, from)
	behind, _ := impl.TextAt(s, to)
	if made, fits := impl.ApplyOp(op, ahead); made != behind || !fits || !isNormal(op) {
		t.Fatalf("ChangeBetween(%s, %d, %d) = %s makes %q of %q, not %q", outset(s), from, to, outset(op), made, ahead, behind)
	}
	return true
}

// checkServer asks all that is asked of a server alone, whatever it is, and tells
// whether it is good.
func checkServer(t *testing.T, s impl.Server) bool {
	t.Helper()
	good := serverIsGood(s)
	if impl.GoodServer(s) != good {
		t.Fatalf("GoodServer(%s) is not %v", outset(s), good)
	}
	n := len(s.Log)
	versions := []int{-1, 0, n / 2, n - 1, n, n + 1}
	if n < 6 {
		versions = []int{-1, 0, 1, 2, 3, 4, 5, 6, 7}[:n+3]
	}
	for _, from := range versions {
		checkVersion(t, s, from)
		for _, to := range versions {
			checkBetween(t, s, from, to)
		}
	}
	for client := -1; client <= lastClient+1; client++ {
		want, can := lastSeqByHand(s, client)
		if got, ok := impl.LastSeq(s, client); got != want || ok != can {
			t.Fatalf("LastSeq(%s, %d) = %d, %v, not %d, %v", outset(s), client, got, ok, want, can)
		}
	}
	return good
}

// checkTake holds TakeChange against what is reckoned by hand, asks for promise 15
// of what is taken, and tells the code.
func checkTake(t *testing.T, s impl.Server, e impl.Entry, version int) int {
	t.Helper()
	got, at, code := impl.TakeChange(s, e, version)
	want, index, number := takeByHand(s, e, version)
	if !sameServer(got, want) || at != index || code != number {
		t.Fatalf("TakeChange(%s, %s, %d) = %s, %d, %d, not %s, %d, %d", outset(s), outset(e), version, outset(got), at, code, outset(want), index, number)
	}
	if code == impl.TakeOk {
		checkTaken(t, s, got, e, version)
	}
	return code
}

// checkTaken asks for promise 15 of a server that has taken an entry.
func checkTaken(t *testing.T, s, got impl.Server, e impl.Entry, version int) {
	t.Helper()
	n := len(s.Log)
	if !impl.GoodServer(got) || len(got.Log) != n+1 || !sameEntries(got.Log[:n], s.Log) || got.Start != s.Start {
		t.Fatalf("%s took %s: %s", outset(s), outset(e), outset(got))
	}
	text := got.Start
	for _, x := range got.Log {
		text, _ = impl.ApplyOp(x.Op, text)
	}
	if text != got.Text {
		t.Fatalf("%s: its log makes %q", outset(got), text)
	}
	// Who wrote it and hears of the others then comes to the same text.
	ahead, _ := impl.TextAt(s, version)
	mine, _ := impl.ApplyOp(e.Op, ahead)
	_, others, _ := behindLogByHand(e.Op, s.Log[version:])
	for _, op := range others {
		mine, _ = impl.ApplyOp(op, mine)
	}
	if mine != got.Text {
		t.Fatalf("%s took %s made for version %d: %q, but who wrote it comes to %q", outset(s), outset(e), version, got.Text, mine)
	}
	for _, x := range []impl.Entry{e, entry(e.Client, e.Seq), entry(e.Client, e.Seq, put("zz"))} {
		for _, v := range []int{0, version, n, n + 1} {
			if again, at, code := impl.TakeChange(got, x, v); !sameServer(again, got) || at != n || code != impl.TakeTwice {
				t.Fatalf("%s took %s, and at version %d again: %s, %d, %d", outset(s), outset(x), v, outset(again), at, code)
			}
		}
	}
}

// logged is the server with this log.
func logged(start string, log ...impl.Entry) impl.Server {
	texts, fit := textsByHand(start, log)
	if !fit {
		panic("an entry does not fit")
	}
	return impl.Server{Start: start, Text: texts[len(log)], Log: log}
}

// idle is n entries that keep all of a text, of the clients in turn.
func idle(s string, n int) []impl.Entry {
	all, _ := impl.KeepAll(len(s))
	var out []impl.Entry
	for k := range n {
		out = append(out, entry(k%(lastClient+1), 1+k/(lastClient+1), all...))
	}
	return out
}

// opened is a server at its beginning.
func opened(t *testing.T, s string) impl.Server {
	t.Helper()
	out, ok := impl.NewServer(s)
	if out.Start != s || out.Text != s || len(out.Log) != 0 || !ok {
		t.Fatalf("NewServer(%q) = %v, %v", s, out, ok)
	}
	return out
}

// taken is what a server is once it has taken an entry.
func taken(t *testing.T, s impl.Server, e impl.Entry, version int) impl.Server {
	t.Helper()
	if code := checkTake(t, s, e, version); code != impl.TakeOk {
		t.Fatalf("%s did not take %s at version %d: %d", outset(s), outset(e), version, code)
	}
	got, _, _ := impl.TakeChange(s, e, version)
	return got
}

// eachServer goes through servers of few entries of short texts, each made for
// each of the versions that were there.
func eachServer(t *testing.T, texts []string, deep int, f func(s impl.Server)) {
	t.Helper()
	var more func(s impl.Server, left int)
	more = func(s impl.Server, left int) {
		f(s)
		if left == 0 {
			return
		}
		for version := range len(s.Log) + 1 {
			text, _ := impl.TextAt(s, version)
			if len(text) > 3 {
				continue
			}
			for _, op := range fewOps(text, string(rune('w'+left))) {
				more(taken(t, s, entry(left, 1, op...), version), left-1)
			}
		}
	}
	for _, s := range texts {
		more(opened(t, s), deep)
	}
}

// Promise 15: all short logs.
func TestShortServers(t *testing.T) {
	many := 0
	eachServer(t, []string{"", "a", "ab"}, 2, func(s impl.Server) {
		if !checkServer(t, s) {
			t.Fatalf("%v is not good", s)
		}
		many++
	})
	eachServer(t, []string{"", "a"}, 3, func(s impl.Server) {
		if !checkServer(t, s) {
			t.Fatalf("%v is not good", s)
		}
		many++
	})
	if many < 3000 {
		t.Errorf("only %d servers", many)
	}
}

// Promise 15: two changes of one text, at every place of it, whichever comes first.
func TestTakenAtEveryPlace(t *testing.T) {
	for _, s := range []string{"", "a", "ab"} {
		for _, first := range bytesOps(s, "x") {
			server := taken(t, opened(t, s), entry(1, 1, first...), 0)
			for _, second := range bytesOps(s, "y") {
				got := taken(t, server, entry(2, 1, second...), 0)
				want, _, _ := transformByHand(second, first)
				if !slices.Equal(got.Log[1].Op, want) {
					t.Fatalf("%v behind %v is %v, not %v", second, first, got.Log[1].Op, want)
				}
			}
		}
	}
}

// meetingPoint plays with a server by a fixed rule, and asks at each step.
type meetingPoint struct {
	s     impl.Server
	codes [impl.TakeRefused + 1]int
}

// step takes a change that was made for a version of late, of a client whose Seqs
// go up by turns, and sometimes are there already.
func (x *meetingPoint) step(t *testing.T, c *chooser, parts int) {
	t.Helper()
	n := len(x.s.Log)
	version := max(0, n-c.next(6))
	text, _ := impl.TextAt(x.s, version)
	e := entry(c.next(4), 0, c.opOn(text, 1+c.next(parts))...)
	last, _ := impl.LastSeq(x.s, e.Client)
	e.Seq = max(0, last+c.next(5)-1)
	switch c.next(12) {
	case 0:
		e.Op = c.opOn(c.text(c.next(20)), parts)
	case 1:
		version = n + 1
	}
	x.codes[checkTake(t, x.s, e, version)]++
	x.s, _, _ = impl.TakeChange(x.s, e, version)
	checkVersion(t, x.s, version)
	checkBetween(t, x.s, max(0, n-5), len(x.s.Log))
}

// Promise 15: servers that take and refuse by turns, up to as many entries as
// there may be.
func TestServersThatGoOn(t *testing.T) {
	c := &chooser{15}
	var codes [impl.TakeRefused + 1]int
	for k := range 24 {
		x := meetingPoint{s: opened(t, c.text(c.next(1+12*k)))}
		for range 60 + k {
			x.step(t, c, 1+k/2)
		}
		checkServer(t, x.s)
		for code, n := range x.codes {
			codes[code] += n
		}
	}
	if codes[impl.TakeOk] < 500 || codes[impl.TakeBad] < 50 || codes[impl.TakeTwice] < 100 || codes[impl.TakeLate] < 20 || codes[impl.TakeRefused] < 50 {
		t.Errorf("%v: of each code there must be many", codes)
	}
}

// Promise 15: a row of changes, each made for the last version, is the log as it
// is.
func TestRowsOfEntries(t *testing.T) {
	c := &chooser{151}
	for k := range 20 {
		n := 1 + 3*k
		texts, ops := c.chain(c.text(c.next(200)), n, 1+k)
		s := opened(t, texts[0])
		for i, op := range ops {
			s = taken(t, s, entry(i%3, 1+i, op...), i)
		}
		for i, text := range texts {
			if got, ok := impl.TextAt(s, i); got != text || !ok {
				t.Fatalf("TextAt(%s, %d) = %q, %v, not %q", outset(s), i, got, ok, text)
			}
			l, ok := impl.EntriesFrom(s, i)
			if len(l) != n-i || !ok {
				t.Fatalf("EntriesFrom(%s, %d) are %d, %v", outset(s), i, len(l), ok)
			}
			for m, e := range l {
				if !sameEntry(e, entry((i+m)%3, 1+i+m, ops[i+m]...)) {
					t.Fatalf("EntriesFrom(%s, %d): %d is %v, not %v", outset(s), i, m, e, ops[i+m])
				}
			}
		}
		if s.Text != texts[n] || !checkServer(t, s) {
			t.Fatalf("%s: the last text is %q", outset(s), texts[n])
		}
	}
}

// The document's words, one by one.
func TestServersOneByOne(t *testing.T) {
	s := opened(t, "abc")
	s = taken(t, s, entry(1, 3, keep(1), put("x"), keep(2)), 0)
	if want := (impl.Server{Start: "abc", Text: "axbc", Log: []impl.Entry{entry(1, 3, keep(1), put("x"), keep(2))}}); !sameServer(s, want) {
		t.Fatalf("%v, not %v", s, want)
	}
	s = taken(t, s, entry(2, 1, keep(2), drop("c")), 0)
	if want := (impl.Server{Start: "abc", Text: "axb", Log: []impl.Entry{entry(1, 3, keep(1), put("x"), keep(2)), entry(2, 1, keep(3), drop("c"))}}); !sameServer(s, want) {
		t.Fatalf("%v, not %v", s, want)
	}
	s = taken(t, s, entry(1, 7, put("y"), drop("ax"), keep(2)), 1)
	if want := (impl.Server{Start: "abc", Text: "yb", Log: []impl.Entry{entry(1, 3, keep(1), put("x"), keep(2)), entry(2, 1, keep(3), drop("c")), entry(1, 7, put("y"), drop("ax"), keep(1))}}); !sameServer(s, want) {
		t.Fatalf("%v, not %v", s, want)
	}
	for version, want := range []string{"abc", "axbc", "axb", "yb"} {
		if got, ok := impl.TextAt(s, version); got != want || !ok {
			t.Errorf("TextAt %d = %q, %v, not %q", version, got, ok, want)
		}
	}
	for client, want := range []int{0, 7, 1, 0, 0, 0, 0, 0, 0, 0} {
		if got, ok := impl.LastSeq(s, client); got != want || !ok {
			t.Errorf("LastSeq of %d = %d, %v, not %d", client, got, ok, want)
		}
	}
	for _, x := range []struct {
		from, to int
		want     []impl.Part
	}{
		{0, 0, []impl.Part{keep(3)}}, {0, 1, []impl.Part{keep(1), put("x"), keep(2)}}, {0, 2, []impl.Part{keep(1), put("x"), keep(1), drop("c")}}, {0, 3, []impl.Part{put("y"), drop("a"), keep(1), drop("c")}}, {1, 1, []impl.Part{keep(4)}}, {1, 2, []impl.Part{keep(3), drop("c")}}, {1, 3, []impl.Part{put("y"), drop("ax"), keep(1), drop("c")}}, {2, 3, []impl.Part{put("y"), drop("ax"), keep(1)}}, {3, 3, []impl.Part{keep(2)}},
	} {
		if got, ok := impl.ChangeBetween(s, x.from, x.to); !slices.Equal(got, x.want) || !ok {
			t.Errorf("ChangeBetween %d and %d = %v, %v, not %v", x.from, x.to, got, ok, x.want)
		}
	}
	if got, ok := impl.EntriesFrom(s, 1); !sameEntries(got, []impl.Entry{entry(2, 1, keep(3), drop("c")), entry(1, 7, put("y"), drop("ax"), keep(1))}) || !ok {
		t.Errorf("EntriesFrom 1 = %v, %v", got, ok)
	}
	if got, ok := impl.EntriesFrom(s, 3); len(got) != 0 || !ok {
		t.Errorf("EntriesFrom 3 = %v, %v", got, ok)
	}
	checkServer(t, s)
}

// What is taken is told behind each entry in turn: the change that comes later
// stands ahead where both put, and has not what others have dropped.
func TestTakenOneByOne(t *testing.T) {
	for _, x := range []struct {
		name    string
		s       impl.Server
		op      []impl.Part
		version int
		want    []impl.Part
		text    string
	}{
		{"nothing at all", logged(""), nil, 0, nil, ""},
		{"a change that keeps all", logged("ab"), []impl.Part{keep(2)}, 0, []impl.Part{keep(2)}, "ab"},
		{"a change that is not normal, with nothing behind its version, as it is", logged("ab"), []impl.Part{keep(1), drop("b"), put("x"), put("y")}, 0, []impl.Part{keep(1), drop("b"), put("x"), put("y")}, "axy"},
		{"a change that is not normal, behind another one, normal", logged("ab", entry(1, 1, keep(2))), []impl.Part{keep(1), drop("b"), put("x"), put("y")}, 0, []impl.Part{keep(1), put("xy"), drop("b")}, "axy"},
		{"an entry that is not normal", logged("ab", entry(1, 1, keep(1), put("x"), put("y"), keep(1))), []impl.Part{keep(1), keep(1), put("z")}, 0, []impl.Part{keep(4), put("z")}, "axybz"},
		{"both put at one place: what comes later stands ahead", logged("ab", entry(1, 1, keep(1), put("x"), keep(1))), []impl.Part{keep(1), put("y"), keep(1)}, 0, []impl.Part{keep(1), put("y"), keep(2)}, "ayxb"},
		{"three put at one place", logged("", entry(1, 1, put("x")), entry(2, 1, put("y"), keep(1))), []impl.Part{put("z")}, 0, []impl.Part{put("z"), keep(2)}, "zyx"},
		{"three put at one place, the last having heard of the first", logged("", entry(1, 1, put("x")), entry(2, 1, keep(1), put("y"))), []impl.Part{keep(1), put("z")}, 1, []impl.Part{keep(1), put("z"), keep(1)}, "xzy"},
		{"a put within what another one dropped", logged("abc", entry(1, 1, drop("abc"))), []impl.Part{keep(1), put("y"), keep(2)}, 0, []impl.Part{put("y")}, "y"},
		{"a drop around what another one put", logged("abc", entry(1, 1, keep(1), put("x"), keep(2))), []impl.Part{drop("abc")}, 0, []impl.Part{drop("a"), keep(1), drop("bc")}, "x"},
		{"both drop the same", logged("abc", entry(1, 1, keep(1), drop("b"), keep(1))), []impl.Part{drop("ab"), keep(1)}, 0, []impl.Part{drop("a"), keep(1)}, "c"},
		{"both drop all", logged("abc", entry(1, 1, drop("abc"))), []impl.Part{drop("abc")}, 0, nil, ""},
		{"dropped by one, put by the next one, and both behind", logged("ab", entry(1, 1, drop("ab")), entry(2, 1, put("ab"))), []impl.Part{drop("ab"), put("y")}, 0, []impl.Part{put("y"), keep(2)}, "yab"},
		{"of two versions the one that is named", logged("ab", entry(1, 1, put("x"), keep(2)), entry(1, 2, keep(3), put("z"))), []impl.Part{keep(2), drop("b")}, 1, []impl.Part{keep(2), drop("b"), keep(1)}, "xaz"},
		{"the same client, made for a version ahead of its own entries", logged("ab", entry(3, 1, put("x"), keep(2)), entry(3, 2, put("y"), keep(3))), []impl.Part{keep(2), put("z")}, 0, []impl.Part{keep(4), put("z")}, "yxabz"},
		{"bytes that a text begins and ends with", logged("A/", entry(1, 1, keep(1), put("B"), keep(1))), []impl.Part{put("/"), keep(2)}, 0, []impl.Part{put("/"), keep(3)}, "/AB/"},
	} {
		got := taken(t, x.s, entry(3, 9, x.op...), x.version)
		n := len(x.s.Log)
		if !sameEntry(got.Log[n], entry(3, 9, x.want...)) || got.Text != x.text {
			t.Errorf("%s: %v, not %v and %q", x.name, got, x.want, x.text)
		}
		checkServer(t, got)
	}
}

// told is a call of TakeChange, with what it must answer.
type told struct {
	name    string
	s       impl.Server
	e       impl.Entry
	version int
	at      int
	code    int
}

// fullServer has as many entries as there may be: of client 0 the Seqs 1 to 6.
func fullServer() impl.Server { return logged("ab", idle("ab", impl.MaxEntries)...) }

// wideServer has an entry of as many parts as there may be.
func wideServer() impl.Server {
	return logged(longText(90), entry(1, 2, fence(impl.MaxParts, drop("aa"), keep(1))...), entry(1, 4, keep(30)))
}

// eachCodeAlone are calls with one fault each, and such without any.
func eachCodeAlone() []told {
	s := logged("ab", entry(1, 2, keep(1), put("x"), keep(1)), entry(2, 5, drop("a"), keep(2)), entry(1, 4, keep(2), put("y")))
	all := []impl.Part{keep(3)}
	return []told{
		{"no fault", s, entry(3, 1, all...), 3, 3, impl.TakeOk},
		{"no fault at version 0", s, entry(3, 1, keep(2)), 0, 3, impl.TakeOk},
		{"no fault of a client that is there", s, entry(1, 5, all...), 3, 3, impl.TakeOk},
		{"no fault, with the Seq of another client", s, entry(2, 6, all...), 3, 3, impl.TakeOk},
		{"no fault, with a lesser Seq than others have", s, entry(0, 1, all...), 3, 3, impl.TakeOk},
		{"no fault with a Seq far on", s, entry(1, lastSeq, all...), 3, 3, impl.TakeOk},
		{"Client -1", s, entry(-1, 1, all...), 3, 0, impl.TakeBad},
		{"Client 10", s, entry(lastClient+1, 1, all...), 3, 0, impl.TakeBad},
		{"Seq 0", s, entry(3, 0, all...), 3, 0, impl.TakeBad},
		{"Seq 1001", s, entry(3, lastSeq+1, all...), 3, 0, impl.TakeBad},
		{"a part that is none", s, entry(3, 1, impl.Part{}, keep(3)), 3, 0, impl.TakeBad},
		{"too many parts", s, entry(3, 1, fence(impl.MaxParts+1, put("a"), put("b"))...), 3, 0, impl.TakeBad},
		{"version -1", s, entry(3, 1, all...), -1, 0, impl.TakeBad},
		{"version 4", s, entry(3, 1, all...), 4, 0, impl.TakeBad},
		{"the first entry", s, entry(1, 2, all...), 3, 0, impl.TakeTwice},
		{"the second entry", s, entry(2, 5, all...), 3, 1, impl.TakeTwice},
		{"the third entry", s, entry(1, 4, all...), 3, 2, impl.TakeTwice},
		{"the third entry at another version", s, entry(1, 4, keep(2)), 0, 2, impl.TakeTwice},
		{"a Seq below the least", s, entry(1, 1, all...), 3, 0, impl.TakeLate},
		{"a Seq between two", s, entry(1, 3, all...), 3, 0, impl.TakeLate},
		{"a Seq below the one of client 2", s, entry(2, 4, all...), 3, 0, impl.TakeLate},
		{"it does not fit: another byte", s, entry(3, 1, drop("y"), keep(2)), 3, 0, impl.TakeRefused},
		{"it does not fit: too few bytes", s, entry(3, 1, keep(2)), 3, 0, impl.TakeRefused},
		{"it does not fit: too many bytes", s, entry(3, 1, keep(4)), 3, 0, impl.TakeRefused},
		{"it does not fit: no parts", s, entry(3, 1), 3, 0, impl.TakeRefused},
		{"it fits the text at another version", s, entry(3, 1, drop("xby")), 1, 0, impl.TakeRefused},
		{"it fits the last text, not that at its version", s, entry(3, 1, keep(3)), 0, 0, impl.TakeRefused},
		{"it does not fit at the bytes that others dropped", s, entry(3, 1, drop("b"), keep(1)), 0, 0, impl.TakeRefused},
		{"no fault, though an entry has MaxParts parts", wideServer(), entry(3, 1, put("x"), drop(longText(90))), 0, 2, impl.TakeOk},
		{"an entry can't be told behind it", wideServer(), entry(3, 1, keep(1), put("x"), keep(89)), 0, 0, impl.TakeRefused},
		{"too many bytes come of it", logged("", entry(1, 1, put(longText(200)))), entry(3, 1, put(longText(101))), 0, 0, impl.TakeRefused},
		{"there are MaxEntries", fullServer(), entry(0, 7, keep(2)), impl.MaxEntries, 0, impl.TakeRefused},
		{"there are MaxEntries, at version 0", fullServer(), entry(0, 7, keep(2)), 0, 0, impl.TakeRefused},
	}
}

// Chapter 15: the codes of TakeChange, each alone.
func TestEachCodeAlone(t *testing.T) {
	for _, x := range eachCodeAlone() {
		checkToldCode(t, x)
	}
}

func checkToldCode(t *testing.T, x told) {
	t.Helper()
	if !impl.GoodServer(x.s) {
		t.Fatalf("%s: the server is not good", x.name)
	}
	before := cloneOfServer(x.s)
	got, at, code := impl.TakeChange(x.s, x.e, x.version)
	if at != x.at || code != x.code {
		t.Errorf("%s: %d, %d, not %d, %d", x.name, at, code, x.at, x.code)
	}
	if code != impl.TakeOk && !sameServer(got, before) {
		t.Errorf("%s: %s, not the server as it was", x.name, outset(got))
	}
	if !sameServer(x.s, before) {
		t.Errorf("%s: the server was changed", x.name)
	}
	checkTake(t, x.s, x.e, x.version)
	// A server that is not good has the zero server and TakeBad, whatever else is.
	worse := cloneOfServer(x.s)
	worse.Text += "a"
	if got, at, code := impl.TakeChange(worse, x.e, x.version); !isZeroServer(got) || at != 0 || code != impl.TakeBad {
		t.Errorf("%s, and the server is not good: %s, %d, %d", x.name, outset(got), at, code)
	}
}

// Chapter 15: of two codes at once the first one in the document's order counts.
func TestTwoCodesAtOnce(t *testing.T) {
	s := logged("ab", entry(1, 2, keep(1), put("x"), keep(1)), entry(2, 5, drop("a"), keep(2)), entry(1, 4, keep(2), put("y")))
	none := impl.Part{}
	wide := entry(1, 4, keep(1), put("x"), keep(89))
	for _, x := range []told{
		{"the entry and the version", s, entry(-1, 1, keep(3)), 4, 0, impl.TakeBad},
		{"its change is not good, and it is there", s, entry(1, 4, none), 3, 0, impl.TakeBad},
		{"its change is not good, and it is late", s, entry(1, 3, none), 3, 0, impl.TakeBad},
		{"its change is not good, and there are MaxEntries", fullServer(), entry(0, 7, none), 0, 0, impl.TakeBad},
		{"its Seq is none, and it would be late", s, entry(1, 0, keep(3)), 3, 0, impl.TakeBad},
		{"its Seq is none, and it does not fit", s, entry(1, lastSeq+1, keep(9)), 3, 0, impl.TakeBad},
		{"its Client is none, and it does not fit", s, entry(lastClient+1, 4, keep(9)), 3, 0, impl.TakeBad},
		{"its Client is none, and there are MaxEntries", fullServer(), entry(-1, 7, keep(2)), 0, 0, impl.TakeBad},
		{"no such version, and it is there", s, entry(1, 4, keep(3)), 4, 0, impl.TakeBad},
		{"no such version, and it is there, ahead of all", s, entry(1, 4, keep(2)), -1, 0, impl.TakeBad},
		{"no such version, and it is late", s, entry(1, 3, keep(3)), 4, 0, impl.TakeBad},
		{"no such version, and it does not fit", s, entry(3, 1, keep(9)), -1, 0, impl.TakeBad},
		{"no such version, and there are MaxEntries", fullServer(), entry(0, 7, keep(2)), impl.MaxEntries + 1, 0, impl.TakeBad},
		{"it is there, and a greater Seq", s, entry(1, 2, keep(3)), 3, 0, impl.TakeTwice},
		{"it is there behind others, and a greater Seq", logged("ab", entry(2, 1, keep(2)), entry(1, 2, keep(2)), entry(1, 4, keep(2))), entry(1, 2, keep(2)), 3, 1, impl.TakeTwice},
		{"it is there, and does not fit", s, entry(1, 4, keep(9)), 3, 2, impl.TakeTwice},
		{"it is there, and without parts", s, entry(2, 5), 3, 1, impl.TakeTwice},
		{"it is there, and there are MaxEntries", fullServer(), entry(3, 6, keep(2)), 0, 53, impl.TakeTwice},
		{"it is there, and can't be told behind another one", wideServer(), wide, 0, 1, impl.TakeTwice},
		{"it is late, and does not fit", s, entry(1, 3, keep(9)), 3, 0, impl.TakeLate},
		{"it is late, and can't be told behind another one", wideServer(), entry(1, 3, wide.Op...), 0, 0, impl.TakeLate},
		{"it does not fit, and there are MaxEntries", fullServer(), entry(0, 7, keep(9)), 0, 0, impl.TakeRefused},
		{"all but a good server", fullServer(), entry(0, 1, none), -1, 0, impl.TakeBad},
		{"all but a good server and entry", fullServer(), entry(0, 1, keep(9)), -1, 0, impl.TakeBad},
		{"all behind TakeBad", fullServer(), entry(0, 1, keep(9)), 0, 0, impl.TakeTwice},
	} {
		checkToldCode(t, x)
	}
	// Of client 0 the Seq 8 is not there, and 9 is.
	late := logged("ab", append(idle("ab", impl.MaxEntries-1), entry(0, 9, keep(2)))...)
	checkToldCode(t, told{"it is late in a log of MaxEntries", late, entry(0, 8, keep(2)), impl.MaxEntries, 0, impl.TakeLate})
	checkToldCode(t, told{"it is late in a log of MaxEntries, and does not fit", late, entry(0, 8, keep(9)), 0, 0, impl.TakeLate})
}

// Promise 15: what is taken once is not taken twice, nor what is late, at whatever
// version, and nothing changes.
func TestNothingIsTakenTwice(t *testing.T) {
	c := &chooser{152}
	for k := range 12 {
		s := opened(t, c.text(c.next(60)))
		for i := range 2 + 2*k {
			text, _ := impl.TextAt(s, i)
			s = taken(t, s, entry(c.next(3), 3*(i+1), c.opOn(text, 4)...), i)
		}
		before := cloneOfServer(s)
		for i, e := range s.Log {
			for version := range len(s.Log) + 1 {
				if got, at, code := impl.TakeChange(s, e, version); !sameServer(got, before) || at != i || code != impl.TakeTwice {
					t.Fatalf("%s: the entry %d again, at version %d: %s, %d, %d", outset(s), i, version, outset(got), at, code)
				}
				for _, seq := range []int{e.Seq - 1, e.Seq - 2} {
					if got, at, code := impl.TakeChange(s, entry(e.Client, seq, e.Op...), version); !sameServer(got, before) || at != 0 || code != impl.TakeLate {
						t.Fatalf("%s: a Seq below that of the entry %d, at version %d: %s, %d, %d", outset(s), i, version, outset(got), at, code)
					}
				}
			}
		}
	}
}

// Chapter 15: MaxEntries entries, and one more; far more entries may be behind a
// version than TransformOver takes.
func TestMostEntries(t *testing.T) {
	s := opened(t, "")
	for k := range impl.MaxEntries {
		got := taken(t, s, entry(k%(lastClient+1), 1+k, put(plainBytes[k%36:][:1])), 0)
		if want := plainBytes[k%36:][:1] + s.Text; got.Text != want || len(got.Log) != k+1 {
			t.Fatalf("%d entries: %q, not %q", k+1, got.Text, want)
		}
		all, _ := impl.KeepAll(k)
		if also := taken(t, s, entry(0, lastSeq, append(slices.Clone(all), put("z"))...), k); also.Text != s.Text+"z" {
			t.Fatalf("%d entries: %q", k+1, also.Text)
		}
		s = got
	}
	if !checkServer(t, s) {
		t.Fatalf("%s is not good", outset(s))
	}
	for version := range impl.MaxEntries + 1 {
		text, ok := impl.TextAt(s, version)
		l, ok2 := impl.EntriesFrom(s, version)
		if len(text) != version || len(l) != impl.MaxEntries-version || !ok || !ok2 {
			t.Fatalf("version %d: %q and %d entries", version, text, len(l))
		}
		all, _ := impl.KeepAll(version)
		if got, at, code := impl.TakeChange(s, entry(0, lastSeq, all...), version); !sameServer(got, s) || at != 0 || code != impl.TakeRefused {
			t.Fatalf("one more at version %d: %s, %d, %d", version, outset(got), at, code)
		}
	}
	if op, ok := impl.ChangeBetween(s, 0, impl.MaxEntries); !slices.Equal(op, []impl.Part{put(s.Text)}) || !ok {
		t.Errorf("ChangeBetween of all = %v, %v", op, ok)
	}
	for _, n := range []int{impl.MaxEntries - 1, impl.MaxEntries} {
		if !checkServer(t, logged("ab", idle("ab", n)...)) {
			t.Errorf("%d entries are not good", n)
		}
	}
	for _, n := range []int{impl.MaxEntries + 1, impl.MaxEntries + 10, 300} {
		if checkServer(t, logged("ab", idle("ab", n)...)) {
			t.Errorf("%d entries are good", n)
		}
	}
}

// Chapter 15: the greatest and the least Client and Seq, and all just beyond.
func TestRangesOfEntries(t *testing.T) {
	for _, x := range []struct {
		client, seq int
		good        bool
	}{
		{0, 1, true}, {0, lastSeq, true}, {lastClient, 1, true}, {lastClient, lastSeq, true}, {5, 500, true},
		{-1, 1, false}, {lastClient + 1, 1, false}, {0, 0, false}, {0, -1, false}, {0, lastSeq + 1, false}, {lastClient, lastSeq + 1, false}, {-1, 0, false}, {lastClient + 1, lastSeq + 1, false},
		{math.MinInt, 1, false}, {math.MaxInt, 1, false}, {0, math.MinInt, false}, {0, math.MaxInt, false}, {256, 1, false}, {0, 1 << 32, false}, {1 << 32, 1, false},
	} {
		e := entry(x.client, x.seq, keep(2))
		want := map[bool]int{true: impl.TakeOk, false: impl.TakeBad}[x.good]
		if code := checkTake(t, logged("ab"), e, 0); code != want {
			t.Errorf("%v is taken with %d, not %d", e, code, want)
		}
		if checkServer(t, logged("ab", e)) != x.good || checkServer(t, logged("ab", entry(3, 3, keep(2)), e)) != x.good {
			t.Errorf("%v in a log is not %v", e, x.good)
		}
	}
	s := logged("ab", entry(0, 1, keep(2)), entry(lastClient, lastSeq, keep(2)), entry(0, lastSeq, keep(2)))
	for _, x := range []struct {
		client, seq int
		ok          bool
	}{
		{0, lastSeq, true}, {lastClient, lastSeq, true}, {1, 0, true}, {lastClient - 1, 0, true}, {-1, 0, false}, {lastClient + 1, 0, false}, {math.MinInt, 0, false}, {math.MaxInt, 0, false}, {1 << 32, 0, false}, {256, 0, false},
	} {
		if seq, ok := impl.LastSeq(s, x.client); seq != x.seq || ok != x.ok {
			t.Errorf("LastSeq of client %d = %d, %v, not %d, %v", x.client, seq, ok, x.seq, x.ok)
		}
	}
	// Where the last Seq is taken nothing of that client can be.
	for _, seq := range []int{1, 2, lastSeq - 1, lastSeq} {
		if code := checkTake(t, s, entry(lastClient, seq, keep(2)), 3); code == impl.TakeOk {
			t.Errorf("Seq %d is taken", seq)
		}
	}
}

// Chapter 15: version 0 and the last one, and all that are none.
func TestRangesOfVersions(t *testing.T) {
	for _, n := range []int{0, 1, 5, impl.MaxEntries} {
		s := logged("ab", idle("ab", n)...)
		for _, version := range []int{0, n} {
			checkVersion(t, s, version)
			if !checkBetween(t, s, version, version) || !checkBetween(t, s, 0, version) || !checkBetween(t, s, version, n) {
				t.Errorf("%d entries: nothing is told of version %d", n, version)
			}
			if n > 0 && checkBetween(t, s, n, 0) {
				t.Errorf("%d entries: what is told backward is told", n)
			}
		}
		for _, odd := range oddVersions(n) {
			checkVersion(t, s, odd)
			if text, ok := impl.TextAt(s, odd); text != "" || ok {
				t.Errorf("TextAt %d of %d = %q, %v", odd, n, text, ok)
			}
			if l, ok := impl.EntriesFrom(s, odd); len(l) != 0 || ok {
				t.Errorf("EntriesFrom %d of %d = %v, %v", odd, n, l, ok)
			}
			for _, version := range append([]int{0, n}, oddVersions(n)...) {
				if checkBetween(t, s, odd, version) || checkBetween(t, s, version, odd) {
					t.Errorf("ChangeBetween %d and %d of %d entries is told", odd, version, n)
				}
			}
			if code := checkTake(t, s, entry(9, 100, keep(2)), odd); code != impl.TakeBad {
				t.Errorf("a change at version %d of %d is taken with %d", odd, n, code)
			}
		}
	}
}

// Chapter 15: changes that go beyond a limit behind an entry, or with which the
// entry does.
func TestLimitsOfWhatIsTaken(t *testing.T) {
	full, half := longText(impl.MaxDoc), longText(impl.MaxDoc/2)
	wide := fence(impl.MaxParts, drop("aa"), keep(1))
	less := fence(impl.MaxParts-2, drop("aa"), keep(1))
	for _, x := range []struct {
		name   string
		s      string
		theirs []impl.Part
		mine   []impl.Part
		code   int
	}{
		{"MaxParts parts, and as many behind the entry", longText(90), []impl.Part{keep(90)}, wide, impl.TakeOk},
		{"one more part is kept at the front", longText(90), []impl.Part{put("y"), keep(90)}, wide, impl.TakeRefused},
		{"two more parts within what is dropped", longText(90), []impl.Part{keep(1), put("y"), keep(89)}, wide, impl.TakeRefused},
		{"MaxParts parts behind the entry", longText(87), []impl.Part{keep(1), put("y"), keep(86)}, less, impl.TakeOk},
		{"one more than these", longText(87), []impl.Part{put("y"), keep(1), put("y"), keep(86)}, less, impl.TakeRefused},
		{"the entry would have more than MaxParts parts", longText(90), wide, []impl.Part{keep(1), put("y"), keep(89)}, impl.TakeRefused},
		{"the entry would have MaxParts parts", longText(87), less, []impl.Part{keep(1), put("y"), keep(86)}, impl.TakeOk},
		{"the entry would have one more than these", longText(87), less, []impl.Part{put("y"), keep(1), put("y"), keep(86)}, impl.TakeRefused},
		{"MaxParts parts in both", longText(60), fence(impl.MaxParts, keep(2), put("x")), fence(impl.MaxParts, keep(2), put("y")), impl.TakeRefused},
		{"MaxDoc bytes together", "", []impl.Part{put(half)}, []impl.Part{put(half)}, impl.TakeOk},
		{"one more", "", []impl.Part{put(half + "a")}, []impl.Part{put(half)}, impl.TakeRefused},
		{"MaxDoc bytes put by the entry", "", []impl.Part{put(full)}, nil, impl.TakeOk},
		{"MaxDoc bytes put by both", "", []impl.Part{put(full)}, []impl.Part{put(full)}, impl.TakeRefused},
		{"a byte put to MaxDoc bytes of the entry", "", []impl.Part{put(full)}, []impl.Part{put("a")}, impl.TakeRefused},
		{"MaxDoc bytes kept by one, dropped by the other", full, []impl.Part{drop(full)}, []impl.Part{keep(impl.MaxDoc)}, impl.TakeOk},
		{"MaxDoc bytes dropped by both", full, []impl.Part{drop(full)}, []impl.Part{drop(full)}, impl.TakeOk},
		{"MaxDoc bytes turned by the entry", full, []impl.Part{put(full), drop(full)}, []impl.Part{keep(impl.MaxDoc)}, impl.TakeOk},
		{"MaxDoc bytes turned by both", full, []impl.Part{put(full), drop(full)}, []impl.Part{put(full), drop(full)}, impl.TakeRefused},
		{"MaxDoc bytes dropped by one, turned by the other", full, []impl.Part{put(full), drop(full)}, []impl.Part{drop(full)}, impl.TakeOk},
	} {
		theirs := entry(1, 1, x.theirs...)
		all, _ := impl.KeepAll(len(x.s))
		// Also where nothing is left of the text in the end.
		left, _ := applyByHand(x.theirs, x.s)
		gone := []impl.Part{drop(left)}
		if left == "" {
			gone = nil
		}
		for _, s := range []impl.Server{logged(x.s, theirs), logged(x.s, entry(0, 1, all...), theirs), logged(x.s, append(idle(x.s, 25), entry(1, 9, x.theirs...))...), logged(x.s, theirs, entry(1, 2, gone...))} {
			if code := checkTake(t, s, entry(2, 9, x.mine...), 0); code != x.code {
				t.Errorf("%s: %d, not %d", x.name, code, x.code)
			}
			if !checkServer(t, s) {
				t.Errorf("%s: %s is not good", x.name, outset(s))
			}
		}
	}
}

// Chapter 15: a change that each entry behind its version makes longer, until it
// has more parts than may be.
func TestChangesThatGrowBehindEntries(t *testing.T) {
	s := opened(t, longText(90))
	for n := range 40 {
		code := checkTake(t, s, entry(2, 1, drop(longText(90))), 0)
		if parts := 2*n + 1; (code == impl.TakeOk) != (parts <= impl.MaxParts) || code != impl.TakeOk && code != impl.TakeRefused {
			t.Errorf("%d parts: %d", parts, code)
		}
		if got, _, code := impl.TakeChange(s, entry(2, 1, drop(longText(90))), 0); code == impl.TakeOk && (got.Text != strings.Repeat("y", n) || len(got.Log[n].Op) != 2*n+1) {
			t.Errorf("behind %d entries: %v", n, got)
		}
		// Behind all that are heard of it is as short as it was.
		if code := checkTake(t, s, entry(2, 1, drop(s.Text)), n); code != impl.TakeOk {
			t.Errorf("at version %d: %d", n, code)
		}
		at := 1 + 3*n
		if n >= 40-1 || at >= len(s.Text) {
			break
		}
		s = taken(t, s, entry(1, 1+n, keep(at), put("y"), keep(len(s.Text)-at)), n)
	}
}

// What is put together is told only where each step of it is: a later entry that
// takes nothing must not begin anew.
func TestChangesBetweenBeyondALimit(t *testing.T) {
	wide := fence(impl.MaxParts, keep(2), put("x"))
	more := []impl.Part{put("y"), keep(90)}
	text := strings.Repeat("aax", 30)
	s := logged(longText(60), entry(1, 1, wide...), entry(1, 2, more...), entry(1, 3, drop("y"+text)), entry(1, 4, put("b")), entry(1, 5, keep(1), put("c")))
	if !checkServer(t, s) {
		t.Fatalf("%s is not good", outset(s))
	}
	for _, x := range []struct {
		from, to int
		ok       bool
	}{
		{0, 0, true}, {0, 1, true}, {0, 2, false}, {0, 3, false}, {0, 4, false}, {0, 5, false}, {1, 2, true}, {1, 3, true}, {1, 5, true}, {2, 5, true}, {3, 3, true}, {3, 4, true}, {3, 5, true}, {4, 5, true}, {5, 5, true},
	} {
		if checkBetween(t, s, x.from, x.to) != x.ok {
			t.Errorf("ChangeBetween %d and %d is not %v", x.from, x.to, x.ok)
		}
	}
	// What one entry puts and another one drops is neither.
	s = logged("ab", entry(1, 1, keep(1), put("xy"), keep(1)), entry(1, 2, keep(1), drop("x"), keep(2)), entry(1, 3, drop("ay"), put("z"), keep(1)))
	if op, ok := impl.ChangeBetween(s, 0, 3); !slices.Equal(op, []impl.Part{put("z"), drop("a"), keep(1)}) || !ok {
		t.Errorf("ChangeBetween = %v, %v", op, ok)
	}
	// A change is normal, also of one entry that is not.
	s = logged("ab", entry(1, 1, drop("a"), put("x"), put("y"), keep(1)))
	if op, ok := impl.ChangeBetween(s, 0, 1); !slices.Equal(op, []impl.Part{put("xy"), drop("a"), keep(1)}) || !ok {
		t.Errorf("ChangeBetween = %v, %v", op, ok)
	}
}

func TestTextsOfNewServers(t *testing.T) {
	for _, s := range append([]string{"", "a", "/", "A", "/A", allBytes, longText(impl.MaxDoc - 1), longText(impl.MaxDoc)}, notTexts()...) {
		got, ok := impl.NewServer(s)
		if ok != textIsGood(s) || len(got.Log) != 0 || ok && (got.Start != s || got.Text != s) || !ok && !isZeroServer(got) {
			t.Errorf("NewServer(%.40q) = %s, %v", s, outset(got), ok)
		}
		if impl.GoodServer(impl.Server{Start: s, Text: s}) != ok {
			t.Errorf("GoodServer of %.40q alone is not %v", s, ok)
		}
		if ok && (!checkServer(t, got) || checkTake(t, got, entry(0, 1, edgeOf(s)...), 0) != impl.TakeOk) {
			t.Errorf("%s is not good", outset(got))
		}
	}
}

// edgeOf drops all of a text and puts as much as may be.
func edgeOf(s string) []impl.Part {
	if s == "" {
		return []impl.Part{put(longText(impl.MaxDoc))}
	}
	return []impl.Part{drop(s), put(longText(impl.MaxDoc))}
}

// The nil list and the empty list are the same value, of entries and of parts.
func TestEmptyListsOfServers(t *testing.T) {
	for _, log := range [][]impl.Entry{nil, {}, make([]impl.Entry, 0, 5)} {
		for _, op := range [][]impl.Part{nil, {}, make([]impl.Part, 0, 5)} {
			e := impl.Entry{Client: 1, Seq: 1, Op: op}
			for _, s := range []impl.Server{{Log: log}, {Log: []impl.Entry{{Client: 2, Seq: 3, Op: op}}}} {
				if !checkServer(t, s) || checkTake(t, s, e, 0) != impl.TakeOk || checkTake(t, s, e, len(s.Log)) != impl.TakeOk {
					t.Errorf("%v is not good", s)
				}
				if got, at, code := impl.TakeChange(s, e, 0); len(got.Log) != len(s.Log)+1 || got.Text != "" || at != len(s.Log) || code != impl.TakeOk {
					t.Errorf("TakeChange(%v, %v) = %v, %d, %d", s, e, got, at, code)
				}
			}
			s := impl.Server{Start: "a", Text: "a", Log: log}
			if got, at, code := impl.TakeChange(s, e, 0); !sameServer(got, s) || at != 0 || code != impl.TakeRefused {
				t.Errorf("TakeChange(%v, %v) = %v, %d, %d", s, e, got, at, code)
			}
		}
		if op, ok := impl.ChangeBetween(impl.Server{Log: log}, 0, 0); len(op) != 0 || !ok {
			t.Errorf("ChangeBetween = %v, %v", op, ok)
		}
		if l, ok := impl.EntriesFrom(impl.Server{Log: log}, 0); len(l) != 0 || !ok {
			t.Errorf("EntriesFrom = %v, %v", l, ok)
		}
	}
	if !impl.GoodServer(impl.Server{}) {
		t.Error("the zero server is the one of the empty text")
	}
}

// Changes at the limits, at the beginning and behind an entry.
func TestServersAtTheLimits(t *testing.T) {
	for _, mine := range edgeOps() {
		s := madeText(mine, "aF/")
		if !textIsGood(s) {
			continue
		}
		server := taken(t, opened(t, s), entry(1, 1, mine...), 0)
		if !sameEntry(server.Log[0], entry(1, 1, mine...)) || !checkServer(t, server) {
			t.Errorf("%s is not good", outset(server))
		}
		for _, op := range edgeOps() {
			checkTake(t, server, entry(2, 1, op...), 0)
			checkTake(t, server, entry(2, 1, op...), 1)
		}
	}
	c := &chooser{153}
	codes := map[int]int{}
	for k := range 30 {
		full := c.text(impl.MaxDoc - 5*k)
		server := opened(t, full)
		for client := range 8 {
			codes[checkTake(t, server, entry(client, 1, c.opOn(full, impl.MaxParts)...), 0)]++
			server, _, _ = impl.TakeChange(server, entry(client, 1, c.opOn(full, impl.MaxParts-k)...), 0)
		}
		checkServer(t, server)
	}
	if codes[impl.TakeOk] < 60 || codes[impl.TakeRefused] < 10 || len(codes) != 2 {
		t.Errorf("%v: some must be beyond a limit, and some not", codes)
	}
}

// served is a server with whatever texts and log.
func served(start, text string, log ...impl.Entry) impl.Server {
	return impl.Server{Start: start, Text: text, Log: log}
}

// wrongServers are not good, each in one way that the document names.
func wrongServers() map[string]impl.Server {
	all := entry(1, 1, keep(2))
	more := entry(1, 1, keep(2), put("x"))
	return map[string]impl.Server{
		"Start is no good text":                              served("-", "-"),
		"Start is no good text, but goes":                    served("-", "", entry(1, 1, drop("-"))),
		"Start is too long":                                  served(longText(301), longText(301)),
		"Start is too long, but goes":                        served(longText(301), "", entry(1, 1, drop(longText(300)), drop("a"))),
		"Start is beyond all measure":                        served(longText(3000000), longText(3000000)),
		"Start is empty":                                     served("", "ab"),
		"Text is empty":                                      served("ab", ""),
		"Text is another one":                                served("ab", "ac"),
		"Text is longer":                                     served("ab", "aba"),
		"Text is shorter":                                    served("ab", "a"),
		"Text is no good text":                               served("ab", "a-", all),
		"Text is beyond all measure":                         served("ab", longText(3000000), all),
		"Text is Start":                                      served("ab", "ab", more),
		"Text is that of the first entry alone":              served("ab", "abx", more, entry(1, 2, drop("a"), keep(2))),
		"Text is that of all but the first entry":            served("ab", "aby", more, entry(1, 2, keep(2), put("y"))),
		"Text has another letter":                            served("ab", "abX", more),
		"MaxEntries and one more":                            logged("ab", idle("ab", impl.MaxEntries+1)...),
		"very many entries":                                  served("ab", "ab", slices.Repeat([]impl.Entry{all}, 300000)...),
		"Client -1":                                          served("ab", "ab", entry(-1, 1, keep(2))),
		"Client 10":                                          served("ab", "ab", entry(10, 1, keep(2))),
		"Client 10 behind another one":                       served("ab", "ab", all, entry(10, 1, keep(2))),
		"Client far off":                                     served("ab", "ab", entry(math.MaxInt, 1, keep(2)), entry(math.MinInt, 1, keep(2))),
		"Seq 0":                                              served("ab", "ab", entry(1, 0, keep(2))),
		"Seq -1":                                             served("ab", "ab", entry(1, -1, keep(2))),
		"Seq 1001":                                           served("ab", "ab", entry(1, 1001, keep(2))),
		"Seq 1001 behind a lesser one":                       served("ab", "ab", entry(1, 1000, keep(2)), entry(1, 1001, keep(2))),
		"Seq far off":                                        served("ab", "ab", entry(1, math.MinInt, keep(2)), entry(1, math.MaxInt, keep(2))),
		"a part that is none":                                served("ab", "ab", entry(1, 1, keep(2), impl.Part{})),
		"a part of two kinds":                                served("ab", "abx", entry(1, 1, impl.Part{Keep: 2, Put: "x"})),
		"too many parts":                                     served("", longText(61), entry(1, 1, fence(61, put("a"), put("a"))...)),
		"an entry does not fit: another byte":                served("ab", "b", entry(1, 1, drop("x"), keep(1))),
		"an entry does not fit: too few bytes":               served("ab", "a", entry(1, 1, keep(1))),
		"an entry does not fit: too many bytes":              served("ab", "ab", entry(1, 1, keep(3))),
		"an entry does not fit: no parts":                    served("ab", "", entry(1, 1)),
		"an entry fits Start, not what those ahead make":     served("ab", "ab", more, entry(1, 2, keep(2))),
		"an entry does not fit, and all is put again":        served("ab", "ab", more, entry(1, 2, drop("ab")), entry(1, 3, put("ab"))),
		"in the wrong order":                                 served("ab", "bx", entry(1, 1, drop("a"), keep(2)), entry(1, 2, keep(2), put("x"))),
		"an entry would make too much":                       served(longText(299), longText(301), entry(1, 1, keep(299), put("aa"))),
		"an entry would put what is no good text":            served("ab", "ab-", entry(1, 1, keep(2), put("-"))),
		"one client with one Seq twice":                      served("ab", "ab", all, all),
		"one client with one Seq twice, others between":      served("ab", "ab", all, entry(2, 1, keep(2)), entry(2, 2, keep(2)), all),
		"one client with one Seq twice, with two changes":    served("ab", "abx", all, more),
		"one client with the last Seq twice":                 served("ab", "ab", entry(9, 1000, keep(2)), entry(9, 1000, keep(2))),
		"Seqs that fall":                                     served("ab", "ab", entry(1, 2, keep(2)), all),
		"Seqs that fall, others between":                     served("ab", "ab", entry(0, 5, keep(2)), entry(2, 5, keep(2)), entry(0, 4, keep(2))),
		"Seqs that rise and fall":                            served("ab", "ab", entry(0, 2, keep(2)), entry(0, 5, keep(2)), entry(0, 4, keep(2))),
		"Seqs that rise and fall, and are there":             served("ab", "ab", entry(9, 2, keep(2)), entry(9, 5, keep(2)), entry(9, 2, keep(2))),
		"the last one of MaxEntries does not fit":            served("ab", "ab", append(idle("ab", impl.MaxEntries-1), entry(0, 9, keep(3)))...),
		"the last one of MaxEntries is there already":        served("ab", "ab", append(idle("ab", impl.MaxEntries-1), entry(0, 6, keep(2)))...),
		"the first one of MaxEntries is of no client at all": served("ab", "ab", append([]impl.Entry{entry(10, 1, keep(2))}, idle("ab", impl.MaxEntries-1)...)...),
	}
}

// zeroOfServer is of a server that is not good: each function has its zero answer,
// and TakeChange moreover TakeBad.
func zeroOfServer(t *testing.T, name string, s impl.Server) {
	t.Helper()
	if impl.GoodServer(s) {
		t.Errorf("%s: it is good", name)
	}
	n := len(s.Log)
	for _, version := range append([]int{0, 1, n / 2, n}, oddVersions(n)...) {
		if text, ok := impl.TextAt(s, version); text != "" || ok {
			t.Errorf("%s: TextAt %d = %.40q, %v", name, version, text, ok)
		}
		if l, ok := impl.EntriesFrom(s, version); len(l) != 0 || ok {
			t.Errorf("%s: EntriesFrom %d = %s, %v", name, version, outset(l), ok)
		}
		for _, to := range []int{0, version, n} {
			if op, ok := impl.ChangeBetween(s, version, to); len(op) != 0 || ok {
				t.Errorf("%s: ChangeBetween %d and %d = %s, %v", name, version, to, outset(op), ok)
			}
		}
		all, _ := impl.KeepAll(min(len(s.Text), impl.MaxDoc))
		for _, e := range []impl.Entry{{}, entry(1, 1, all...), entry(1, 2, all...), entry(5, 5, all...), entry(-1, 1, all...), entry(5, 5, keep(1), impl.Part{})} {
			if got, at, code := impl.TakeChange(s, e, version); !isZeroServer(got) || at != 0 || code != impl.TakeBad {
				t.Errorf("%s: TakeChange of %v at %d = %s, %d, %d", name, e, version, outset(got), at, code)
			}
		}
	}
	for client := -1; client <= lastClient+1; client++ {
		if seq, ok := impl.LastSeq(s, client); seq != 0 || ok {
			t.Errorf("%s: LastSeq of %d = %d, %v", name, client, seq, ok)
		}
	}
}

// Promise 20: servers that are not good have the zero answer of each function.
func TestWrongServersHaveTheZeroAnswer(t *testing.T) {
	for name, s := range wrongServers() {
		before := cloneOfServer(s)
		zeroOfServer(t, name, s)
		if !sameServer(s, before) {
			t.Errorf("%s: it was changed", name)
		}
		if serverIsGood(s) {
			t.Errorf("%s: it is good", name)
		}
	}
	for _, s := range notTexts() {
		zeroOfServer(t, outset(s), served(s, s))
		zeroOfServer(t, outset(s), served("", s, entry(1, 1, put(s))))
		zeroOfServer(t, outset(s), served("ab", s, entry(1, 1, keep(2))))
	}
}

// Servers that look much like wrong ones, but are good.
func TestServersThatAreGoodStill(t *testing.T) {
	all := []impl.Part{keep(2)}
	for _, s := range []impl.Server{
		served("ab", "ab", entry(1, 1, all...), entry(2, 1, all...), entry(0, 1, all...)),
		served("ab", "ab", entry(1, 5, all...), entry(2, 4, all...), entry(1, 6, all...), entry(2, 5, all...)),
		served("ab", "ab", entry(0, 999, all...), entry(0, 1000, all...), entry(1, 1, all...), entry(1, 1000, all...)),
		served("ab", "", entry(1, 1, drop("ab")), entry(1, 2), entry(1, 3)),
		served("ab", "ab", entry(1, 1, drop("ab")), entry(1, 2, put("ab"))),
		served("", "/", entry(1, 1, put("/"))),
		served("A", "/A", entry(1, 1, put("/"), keep(1))),
		served(longText(300), longText(300), entry(1, 1, put(longText(300)), drop(longText(300)))),
	} {
		if !checkServer(t, s) {
			t.Errorf("%s is not good", outset(s))
		}
	}
}

// Promise 20: a change that is not good, at each place of a log, and handed in.
func TestWrongChangesOfServers(t *testing.T) {
	for number, op := range notOps() {
		name := fmt.Sprintf("the change %d", number)
		for _, s := range []impl.Server{served("ab", "ab", entry(1, 1, op...)), served("ab", "ab", entry(1, 1, keep(2)), entry(1, 2, op...)), served("", "", entry(1, 1, op...), entry(1, 2)), served("", "a", entry(1, 1, put("a")), entry(1, 2, op...))} {
			zeroOfServer(t, name, s)
		}
		for _, s := range []impl.Server{logged(""), logged("ab"), logged("ab", entry(1, 1, keep(1), drop("b")), entry(1, 2, drop("a"))), fullServer()} {
			for _, version := range []int{-1, 0, len(s.Log), len(s.Log) + 1} {
				for _, seq := range []int{1, 2, 100} {
					before := slices.Clone(op)
					if got, at, code := impl.TakeChange(s, entry(1, seq, op...), version); !sameServer(got, s) || at != 0 || code != impl.TakeBad {
						t.Errorf("%s: TakeChange = %s, %d, %d", name, outset(got), at, code)
					}
					if !slices.Equal(op, before) {
						t.Errorf("%s: it was changed", name)
					}
				}
			}
		}
	}
}

// Promise 20: all pairs of small changes in a log, good or not.
func TestAllShortLogs(t *testing.T) {
	ops := opsOf(2, keep(1), keep(2), put("a"), drop("a"), drop("ab"), impl.Part{})
	good, not := 0, 0
	see := func(s impl.Server) {
		want := serverIsGood(s)
		if impl.GoodServer(s) != want {
			t.Fatalf("GoodServer(%v) is not %v", s, want)
		}
		if !want {
			not++
			return
		}
		checkServer(t, s)
		good++
	}
	for _, start := range []string{"", "a", "ab"} {
		for _, a := range ops {
			for _, b := range ops {
				for _, text := range []string{"", "a", "aa", "ab"} {
					see(served(start, text, entry(1, 1, a...), entry(1, 2, b...)))
					see(served(start, text, entry(1, 1, a...), entry(1, 1, b...)))
				}
				checkTake(t, served(start, "a", entry(1, 1, a...)), entry(2, 1, b...), 0)
				checkTake(t, served(start, start), entry(2, 1, b...), 0)
			}
		}
	}
	if good < 50 || not < 10000 {
		t.Errorf("%d are good, %d not", good, not)
	}
}

// stretchesOfServer is all memory of a server, without such as has no byte.
func stretchesOfServer(s impl.Server) []stretch {
	out := []stretch{stretchOfText(s.Start), stretchOfText(s.Text), stretchOf(s.Log)}
	for _, e := range s.Log {
		out = append(out, stretchesOfOp(e.Op)...)
	}
	return slices.DeleteFunc(out, func(x stretch) bool { return x.from == x.to })
}

// answersOfServer are all answers of a server, an entry and a version, each laid
// out as a server, so that they can be looked at alike.
func answersOfServer(s impl.Server, e impl.Entry, version int) []impl.Server {
	first, _ := impl.NewServer(s.Start)
	took, _, _ := impl.TakeChange(s, e, version)
	text, _ := impl.TextAt(s, version)
	log, _ := impl.EntriesFrom(s, version)
	op, _ := impl.ChangeBetween(s, version, len(s.Log))
	whole, _ := impl.ChangeBetween(s, 0, version)
	return []impl.Server{first, took, {Text: text}, {Log: log}, {Log: []impl.Entry{{Op: op}}}, {Log: []impl.Entry{{Op: whole}}}}
}

// longServers are such as have texts of two bytes or more alone, each with an
// entry and a version at which it has each code.
func longServers(t *testing.T, f func(s impl.Server, e impl.Entry, version int)) {
	t.Helper()
	s := opened(t, strings.Repeat("ab", 30))
	for k, op := range [][]impl.Part{{keep(20), put("xyxyxy"), keep(40)}, {drop("ababab"), keep(60)}, {put("zwzwzw"), keep(20), drop("abab"), keep(36)}, {keep(62)}, {keep(30), put("vvvv"), drop("abab"), keep(28)}} {
		s = taken(t, s, entry(k%2, 2*k+2, op...), k)
		for version := range k + 2 {
			text, _ := impl.TextAt(s, version)
			half := len(text) / 2
			for _, op := range [][]impl.Part{{keep(len(text))}, {keep(half), put("uuuu"), keep(len(text) - half)}, {drop(text), put("tttt")}, {keep(half), keep(len(text) - half), put("ss"), put("rr")}} {
				f(s, entry(5, 1, op...), version)
				f(s, entry(0, 2, op...), version)
				f(s, entry(0, 1, op...), version)
				f(s, entry(5, 1, append(slices.Clone(op), drop("qq"))...), version)
				f(s, entry(10, 1, op...), version)
				f(s, entry(5, 1, op...), version+10)
			}
		}
	}
	f(logged("abab", idle("abab", impl.MaxEntries)...), entry(5, 900, keep(4)), 0)
}

// Promise 20: the answers share no memory with what was handed in, nor with one
// another, and no two lists or texts of one answer share any.
func TestServersAreNewMemory(t *testing.T) {
	many := 0
	longServers(t, func(s impl.Server, e impl.Entry, version int) {
		given := append(stretchesOfServer(s), stretchesOfServer(impl.Server{Log: []impl.Entry{e}})...)
		var ahead []stretch
		for i, a := range answersOfServer(s, e, version) {
			l := stretchesOfServer(a)
			if anyMeet(l, given) {
				t.Fatalf("the answer %d of %s lies in the memory of what was handed in", i, outset(s))
			}
			if anyMeet(l, ahead) {
				t.Fatalf("the answer %d of %s lies in the memory of another one", i, outset(s))
			}
			for k, x := range l {
				if slices.ContainsFunc(l[:k], x.meets) {
					t.Fatalf("two lists or texts of the answer %d of %s lie in one memory: %s", i, outset(s), outset(a))
				}
			}
			ahead = append(ahead, l...)
			many += len(l)
		}
	})
	if many < 3000 {
		t.Errorf("only %d lists and texts were looked at", many)
	}
}

// roomyServer has things behind the length of each list, which must stay there.
func roomyServer(s impl.Server) impl.Server {
	var log []impl.Entry
	for _, e := range s.Log {
		op := append(slices.Clone(e.Op), keep(1), put("behind"))
		log = append(log, entry(e.Client, e.Seq, op[:len(e.Op)]...))
	}
	log = append(log, entry(1, 999, keep(7)), entry(2, 2, put("behind")))
	return impl.Server{Start: s.Start, Text: s.Text, Log: log[:len(s.Log)]}
}

// wholeServer is a server with all that lies behind the length of each list.
func wholeServer(s impl.Server) impl.Server {
	var log []impl.Entry
	for _, e := range s.Log[:cap(s.Log)] {
		log = append(log, entry(e.Client, e.Seq, slices.Clone(e.Op[:cap(e.Op)])...))
	}
	return impl.Server{Start: s.Start, Text: s.Text, Log: log}
}

// wipeServer writes into all memory of a server that can be written.
func wipeServer(s impl.Server) {
	for _, e := range s.Log {
		clear(e.Op[:cap(e.Op)])
	}
	clear(s.Log[:cap(s.Log)])
}

// hidesBehind tells whether anything lies behind the length of a list.
func hidesBehind(s impl.Server) bool {
	for _, e := range s.Log[len(s.Log):cap(s.Log)] {
		if e.Client != 0 || e.Seq != 0 || e.Op != nil {
			return true
		}
	}
	return slices.ContainsFunc(s.Log, func(e impl.Entry) bool {
		return slices.ContainsFunc(e.Op[len(e.Op):cap(e.Op)], func(p impl.Part) bool { return p != impl.Part{} })
	})
}

// checkStays asks for promise 20 of a server and an entry that have things behind
// the length of their lists.
func checkStays(t *testing.T, s impl.Server, e impl.Entry, version int) {
	t.Helper()
	given := roomyServer(s)
	before := wholeServer(given)
	changed := append(slices.Clone(e.Op), keep(1), put("behind"))
	was := slices.Clone(changed)
	if impl.GoodServer(given) != serverIsGood(s) {
		t.Fatalf("GoodServer(%s) is not %v: what lies behind is read", outset(s), serverIsGood(s))
	}
	seq, ok := impl.LastSeq(given, 1)
	if want, can := lastSeqByHand(s, 1); seq != want || ok != can {
		t.Fatalf("LastSeq(%s, 1) = %d, %v, not %d, %v", outset(s), seq, ok, want, can)
	}
	want := answersOfServer(s, e, version)
	for i, a := range answersOfServer(given, entry(e.Client, e.Seq, changed[:len(e.Op)]...), version) {
		if !sameServer(a, want[i]) {
			t.Fatalf("the answer %d of %s is %s: what lies behind is read", i, outset(s), outset(a))
		}
		if hidesBehind(a) {
			t.Fatalf("the answer %d of %s is %s, and something lies behind", i, outset(s), outset(a))
		}
		wipeServer(a)
	}
	if !sameServer(wholeServer(given), before) || !slices.Equal(changed, was) {
		t.Fatalf("%s or %s was changed", outset(s), outset(e))
	}
}

// Promise 20: nothing is written into a server or an entry, nor behind a length,
// nor read or handed out from there.
func TestServersStayAsTheyWere(t *testing.T) {
	longServers(t, func(s impl.Server, e impl.Entry, version int) { checkStays(t, s, e, version) })
	for _, s := range wrongServers() {
		if len(s.Log) < 100 && len(s.Text) <= impl.MaxDoc {
			checkStays(t, s, entry(3, 3, put("a"), drop(s.Text)), 0)
			checkStays(t, s, entry(3, 3), len(s.Log))
		}
	}
	eachServer(t, []string{"", "ab"}, 1, func(s impl.Server) {
		for version := range len(s.Log) + 2 {
			for _, op := range fewOps(s.Start, "y") {
				checkStays(t, s, entry(3, 1, op...), version)
				checkStays(t, s, entry(1, 1, op...), version)
			}
		}
	})
	for _, op := range notOps() {
		if len(op) < 100 {
			checkStays(t, logged("ab", entry(1, 1, keep(2))), entry(2, 1, op...), 0)
		}
	}
}

// An answer is the same, whatever was asked and refused ahead of it.
func TestServersAreToldAnew(t *testing.T) {
	for range 3 {
		s := taken(t, opened(t, "ab"), entry(1, 1, keep(1), put("x"), keep(1)), 0)
		later := taken(t, s, entry(2, 1, drop("ab")), 0)
		if want := logged("ab", entry(1, 1, keep(1), put("x"), keep(1)), entry(2, 1, drop("a"), keep(1), drop("b"))); !sameServer(later, want) {
			t.Fatalf("%v, not %v", later, want)
		}
		wipeServer(s)
		zeroOfServer(t, "what was wiped", s)
		if text, ok := impl.TextAt(later, 1); text != "axb" || !ok {
			t.Fatalf("TextAt(%v, 1) = %q, %v", later, text, ok)
		}
		// A server that took nothing is as it was ahead: another entry can be put there.
		again, _, _ := impl.TakeChange(later, entry(1, 1), 0)
		if code := checkTake(t, again, entry(1, 2, keep(1), put("y")), 2); code != impl.TakeOk {
			t.Fatalf("%d", code)
		}
	}
}

// Logs of as many entries as there may be, each of as many parts, are answered in
// a moment, and such of very many more are refused in one.
func TestGreatestServersInAMoment(t *testing.T) {
	full := longText(impl.MaxDoc)
	wide := fence(impl.MaxParts, keep(5), keep(5))
	var most []impl.Entry
	for k := range impl.MaxEntries - 1 {
		most = append(most, entry(k%10, 1+k, wide...))
	}
	broad := fence(300000, keep(1), put("x"))
	for _, s := range []impl.Server{served(full, full, most...), served(full, full, slices.Repeat(most, 5000)...), served(full, full, entry(1, 1, broad...)), served(longText(3000000), longText(3000000), most...)} {
		start := time.Now()
		for range 5 {
			impl.GoodServer(s)
			impl.LastSeq(s, 1)
			answersOfServer(s, entry(1, 999, wide...), 0)
			answersOfServer(s, entry(1, 999, broad...), len(s.Log))
		}
		if took := time.Since(start); took > 5*time.Second {
			t.Errorf("%d entries took %v", len(s.Log), took)
		}
	}
}

// FuzzServers: no argument makes one of the seven functions panic, or tell another thing than the document says.
func FuzzServers(f *testing.F) {
	f.Add("ab", "axb", uint32(1), 1, 1, 0, 1, "", "", 0, "x", "", 0, "", "b")
	f.Add(longText(300), longText(300), uint32(9), 9, 1000, 1, 300, "", "", 0, longText(300), "", 0, "", longText(300))
	f.Add("", "", uint32(3), -1, 0, -1, -1, "a", "b", 1<<62, "", "", 0, "\xff", "-")
	f.Fuzz(func(t *testing.T, s, text string, seed uint32, client, seq, version, k1 int, p1, d1 string, k2 int, p2, d2 string, k3 int, p3, d3 string) {
		if got, ok := impl.NewServer(s); ok != textIsGood(s) || !ok && !isZeroServer(got) {
			t.Fatalf("NewServer(%q) = %v, %v", s, got, ok)
		}
		ops := opsOf(2, impl.Part{Keep: k1, Put: p1, Drop: d1}, impl.Part{Keep: k2, Put: p2, Drop: d2}, impl.Part{Keep: k3, Put: p3, Drop: d3})
		for _, a := range ops {
			made, _ := applyByHand(a, s)
			for _, b := range ops {
				checkServer(t, served(s, text, entry(client, seq, a...), entry(1, 1, b...)))
				checkTake(t, served(s, text, entry(client, seq, a...)), entry(1, 1, b...), version)
				checkTake(t, served(s, made, entry(1, 1, a...)), entry(client, seq, b...), version)
				checkTake(t, served(s, made, entry(1, 1, a...)), entry(2, 1, b...), 0)
			}
		}
		if !textIsGood(s) {
			return
		}
		c := &chooser{seed}
		x := meetingPoint{s: opened(t, s)}
		for range 20 {
			x.step(t, c, 1+int(seed%impl.MaxParts))
		}
	})
}
