package tests

import (
	"fmt"
	"math"
	"slices"
	"strings"
	"testing"
	"time"

	"loop.example/g00253/impl"
)

const lastTime = 10000
const lastActor = 9

// atomID is what an atom is known by; the zero one is the beginning's.
type atomID struct{ time, actor int }

func (x atomID) isBelow(y atomID) bool {
	return x.time < y.time || x.time == y.time && x.actor < y.actor
}

func idOf(a impl.Atom) atomID { return atomID{a.Time, a.Actor} }

func aboveOf(a impl.Atom) atomID { return atomID{a.Above, a.Maker} }

func atom(time, actor, above, maker int, b string) impl.Atom {
	return impl.Atom{Time: time, Actor: actor, Above: above, Maker: maker, Byte: b}
}

func gone(a impl.Atom) impl.Atom {
	a.Gone = true
	return a
}

func seqOf(l ...impl.Atom) impl.Seq { return impl.Seq{Atoms: l} }

func cloneOfSeq(s impl.Seq) impl.Seq { return seqOf(slices.Clone(s.Atoms)...) }

func sameSeq(a, b impl.Seq) bool { return slices.Equal(a.Atoms, b.Atoms) }

func isZeroSeq(s impl.Seq) bool { return len(s.Atoms) == 0 }

func byteIsGood(b string) bool { return len(b) == 1 && strings.Contains(allBytes, b) }

func atomIsGood(a impl.Atom) bool {
	return 1 <= a.Time && a.Time <= lastTime && 0 <= a.Actor && a.Actor <= lastActor && byteIsGood(a.Byte)
}

// seqIsGood asks for what chapter 17 says of a sequence, one by one.
func seqIsGood(s impl.Seq) bool {
	if len(s.Atoms) > impl.MaxAtoms {
		return false
	}
	for i, a := range s.Atoms {
		isIt := func(x impl.Atom) bool { return idOf(x) == aboveOf(a) && x.Time < a.Time }
		switch {
		case !atomIsGood(a):
			return false
		case i > 0 && !idOf(s.Atoms[i-1]).isBelow(idOf(a)):
			return false
		case aboveOf(a) != atomID{} && !slices.ContainsFunc(s.Atoms, isIt):
			return false
		}
	}
	return true
}

// orderBehind is the order of all that stands behind one, told as the document
// tells it. The atoms' ids rise.
func orderBehind(l []impl.Atom, above atomID) []int {
	var out []int
	for k := len(l) - 1; k >= 0; k-- {
		if aboveOf(l[k]) == above {
			out = append(out, k)
			out = append(out, orderBehind(l, idOf(l[k]))...)
		}
	}
	return out
}

func orderByHand(s impl.Seq) ([]int, bool) {
	if !seqIsGood(s) {
		return nil, false
	}
	return orderBehind(s.Atoms, atomID{}), true
}

// shownByHand are the numbers of the atoms whose bytes are the text.
func shownByHand(s impl.Seq) []int {
	var out []int
	for _, k := range orderBehind(s.Atoms, atomID{}) {
		if !s.Atoms[k].Gone {
			out = append(out, k)
		}
	}
	return out
}

func seqTextByHand(s impl.Seq) (string, bool) {
	if !seqIsGood(s) {
		return "", false
	}
	text := ""
	for _, k := range shownByHand(s) {
		text += s.Atoms[k].Byte
	}
	return text, true
}

func mostTime(s impl.Seq) int {
	most := 0
	for _, a := range s.Atoms {
		most = max(most, a.Time)
	}
	return most
}

func putByHand(s impl.Seq, actor, at int, b string) (impl.Seq, bool) {
	if !seqIsGood(s) || actor < 0 || actor > lastActor || !byteIsGood(b) {
		return impl.Seq{}, false
	}
	shown := shownByHand(s)
	if at < 0 || at > len(shown) || len(s.Atoms) == impl.MaxAtoms || mostTime(s) == lastTime {
		return impl.Seq{}, false
	}
	var above atomID
	if at > 0 {
		above = idOf(s.Atoms[shown[at-1]])
	}
	out := cloneOfSeq(s)
	out.Atoms = append(out.Atoms, atom(mostTime(s)+1, actor, above.time, above.actor, b))
	return out, true
}

func dropByHand(s impl.Seq, at int) (impl.Seq, bool) {
	if !seqIsGood(s) || at < 0 || at >= len(shownByHand(s)) {
		return impl.Seq{}, false
	}
	out := cloneOfSeq(s)
	out.Atoms[shownByHand(s)[at]].Gone = true
	return out, true
}

// togetherByHand looks for each id that there may be, from the least on.
func togetherByHand(a, b impl.Seq) (impl.Seq, bool) {
	if !seqIsGood(a) || !seqIsGood(b) {
		return impl.Seq{}, false
	}
	told := map[atomID]impl.Atom{}
	ids := []atomID{}
	for _, x := range slices.Concat(a.Atoms, b.Atoms) {
		y, isThere := told[idOf(x)]
		if isThere && (aboveOf(x) != aboveOf(y) || x.Byte != y.Byte) {
			return impl.Seq{}, false
		}
		if !isThere {
			ids = append(ids, idOf(x))
		}
		x.Gone = x.Gone || y.Gone
		told[idOf(x)] = x
	}
	var out impl.Seq
	for len(ids) > 0 {
		least := 0
		for k, x := range ids {
			if x.isBelow(ids[least]) {
				least = k
			}
		}
		out.Atoms = append(out.Atoms, told[ids[least]])
		ids = slices.Delete(ids, least, least+1)
	}
	if len(out.Atoms) > impl.MaxAtoms {
		return impl.Seq{}, false
	}
	return out, true
}

func lessByHand(a, b impl.Seq) (bool, bool) {
	if !seqIsGood(a) || !seqIsGood(b) {
		return false, false
	}
	for _, x := range a.Atoms {
		more := x
		more.Gone = true
		if !slices.Contains(b.Atoms, x) && !slices.Contains(b.Atoms, more) {
			return false, true
		}
	}
	return true, true
}

// idsInOrder are the ids of a good sequence's atoms, as the program orders them.
func idsInOrder(s impl.Seq) []atomID {
	var out []atomID
	order, _ := impl.OrderOf(s)
	for _, k := range order {
		out = append(out, idOf(s.Atoms[k]))
	}
	return out
}

// isWithinIDs tells whether ids are left when others are taken out.
func isWithinIDs(few, many []atomID) bool {
	for _, x := range many {
		if len(few) > 0 && few[0] == x {
			few = few[1:]
		}
	}
	return len(few) == 0
}

// checkSeq asks all that is asked of a sequence alone, whatever it is, and tells
// whether it is good.
func checkSeq(t *testing.T, s impl.Seq) bool {
	t.Helper()
	good := seqIsGood(s)
	if impl.GoodSeq(s) != good {
		t.Fatalf("GoodSeq(%s) is not %v", outset(s), good)
	}
	order, _ := orderByHand(s)
	if got, ok := impl.OrderOf(s); !slices.Equal(got, order) || ok != good {
		t.Fatalf("OrderOf(%s) = %v, %v, not %v, %v", outset(s), got, ok, order, good)
	}
	text, _ := seqTextByHand(s)
	if got, ok := impl.TextOfSeq(s); got != text || ok != good {
		t.Fatalf("TextOfSeq(%s) = %q, %v, not %q, %v", outset(s), got, ok, text, good)
	}
	if less, ok := impl.LessSeq(s, s); less != good || ok != good {
		t.Fatalf("LessSeq(%s) of itself = %v, %v", outset(s), less, ok)
	}
	if got, ok := impl.MergeSeqs(s, s); ok != good || good && !sameSeq(got, s) || !good && !isZeroSeq(got) {
		t.Fatalf("MergeSeqs(%s) with itself = %s, %v", outset(s), outset(got), ok)
	}
	if good {
		checkOrder(t, s, order)
	}
	return good
}

// checkOrder asks for promise 17 of an order: each atom is there once; just behind
// each one, ahead of all others that do not stand behind it, are those that say
// so, by falling ids.
func checkOrder(t *testing.T, s impl.Seq, order []int) {
	t.Helper()
	if len(order) != len(s.Atoms) {
		t.Fatalf("%s has the order %v", outset(s), order)
	}
	place := map[atomID]int{{}: -1}
	for i, k := range order {
		place[idOf(s.Atoms[k])] = i
	}
	if len(place) != len(s.Atoms)+1 {
		t.Fatalf("%s has the order %v: one is not there", outset(s), order)
	}
	for i, k := range order {
		a := s.Atoms[k]
		above, isThere := place[aboveOf(a)]
		if !isThere || above >= i {
			t.Fatalf("%s has the order %v: %v is ahead of what it stands behind", outset(s), order, a)
		}
		// All between stands behind the same one, directly or not; if directly it has a greater id.
		for _, between := range order[above+1 : i] {
			x := s.Atoms[between]
			if at := place[aboveOf(x)]; at < above || at == above && !idOf(a).isBelow(idOf(x)) {
				t.Fatalf("%s has the order %v: %v comes between %v and what that stands behind", outset(s), order, x, a)
			}
		}
	}
}

// checkPut holds PutAtom against what is reckoned by hand, and asks for promise 17
// of what was put. It tells whether it was.
func checkPut(t *testing.T, s impl.Seq, actor, at int, b string) bool {
	t.Helper()
	want, can := putByHand(s, actor, at, b)
	got, ok := impl.PutAtom(s, actor, at, b)
	if !sameSeq(got, want) || ok != can {
		t.Fatalf("PutAtom(%s, %d, %d, %.40q) = %s, %v, not %s, %v", outset(s), actor, at, b, outset(got), ok, outset(want), can)
	}
	if !ok {
		return false
	}
	ahead, _ := impl.TextOfSeq(s)
	if text, good := impl.TextOfSeq(got); text != ahead[:at]+b+ahead[at:] || !good {
		t.Fatalf("PutAtom(%s, %d, %d, %q): %q is %q", outset(s), actor, at, b, ahead, text)
	}
	n := len(s.Atoms)
	if !sameSeq(seqOf(got.Atoms[:n]...), s) || got.Atoms[n].Time != mostTime(s)+1 {
		t.Fatalf("PutAtom(%s, %d, %d, %q) = %s: all else stays, and the Time is one more", outset(s), actor, at, b, outset(got))
	}
	was, _ := impl.OrderOf(s)
	is, _ := impl.OrderOf(got)
	if others := slices.DeleteFunc(is, func(k int) bool { return k == n }); !slices.Equal(others, was) {
		t.Fatalf("PutAtom(%s, %d, %d, %q): the order of the others is %v, not %v", outset(s), actor, at, b, others, was)
	}
	checkGrown(t, s, got)
	return true
}

// checkDropped does likewise of DropAtom.
func checkDropped(t *testing.T, s impl.Seq, at int) bool {
	t.Helper()
	want, can := dropByHand(s, at)
	got, ok := impl.DropAtom(s, at)
	if !sameSeq(got, want) || ok != can {
		t.Fatalf("DropAtom(%s, %d) = %s, %v, not %s, %v", outset(s), at, outset(got), ok, outset(want), can)
	}
	if !ok {
		return false
	}
	ahead, _ := impl.TextOfSeq(s)
	if text, good := impl.TextOfSeq(got); text != ahead[:at]+ahead[at+1:] || !good {
		t.Fatalf("DropAtom(%s, %d): %q is %q", outset(s), at, ahead, text)
	}
	if !slices.Equal(idsInOrder(got), idsInOrder(s)) {
		t.Fatalf("DropAtom(%s, %d): the order is another one", outset(s), at)
	}
	checkGrown(t, s, got)
	return true
}

// checkGrown is of a sequence and what comes of it when something is done: put
// together they are the latter.
func checkGrown(t *testing.T, s, more impl.Seq) {
	t.Helper()
	if less, ok := impl.LessSeq(s, more); !less || !ok {
		t.Fatalf("LessSeq(%s, %s) = %v, %v", outset(s), outset(more), less, ok)
	}
	if less, ok := impl.LessSeq(more, s); less || !ok {
		t.Fatalf("LessSeq(%s, %s) = %v, %v", outset(more), outset(s), less, ok)
	}
	if both, ok := impl.MergeSeqs(s, more); !sameSeq(both, more) || !ok {
		t.Fatalf("MergeSeqs(%s, %s) = %s, %v", outset(s), outset(more), outset(both), ok)
	}
}

func checkLess(t *testing.T, a, b impl.Seq) bool {
	t.Helper()
	want, can := lessByHand(a, b)
	less, ok := impl.LessSeq(a, b)
	if less != want || ok != can {
		t.Fatalf("LessSeq(%s, %s) = %v, %v, not %v, %v", outset(a), outset(b), less, ok, want, can)
	}
	return less
}

// checkTogether holds MergeSeqs against what is reckoned by hand, and asks for
// promise 17 of two. It tells whether they can be put together.
func checkTogether(t *testing.T, a, b impl.Seq) bool {
	t.Helper()
	want, can := togetherByHand(a, b)
	got, ok := impl.MergeSeqs(a, b)
	if !sameSeq(got, want) || ok != can {
		t.Fatalf("MergeSeqs(%s, %s) = %s, %v, not %s, %v", outset(a), outset(b), outset(got), ok, outset(want), can)
	}
	if turned, told := impl.MergeSeqs(b, a); !sameSeq(turned, got) || told != ok {
		t.Fatalf("MergeSeqs(%s, %s) = %s, %v, but turned %s, %v", outset(a), outset(b), outset(got), ok, outset(turned), told)
	}
	if less := checkLess(t, a, b); less != (ok && sameSeq(got, b)) {
		t.Fatalf("LessSeq(%s, %s) = %v, but together they are %s, %v", outset(a), outset(b), less, outset(got), ok)
	}
	if !ok {
		return false
	}
	for _, s := range []impl.Seq{a, b} {
		if less, told := impl.LessSeq(s, got); !less || !told {
			t.Fatalf("%s is not less than %s", outset(s), outset(got))
		}
		if again, told := impl.MergeSeqs(got, s); !sameSeq(again, got) || !told {
			t.Fatalf("MergeSeqs(%s, %s) = %s, %v: nothing is new", outset(got), outset(s), outset(again), told)
		}
		if !isWithinIDs(idsInOrder(s), idsInOrder(got)) {
			t.Fatalf("%s has another order within %s", outset(s), outset(got))
		}
	}
	return true
}

// inTurn puts sequences together from the first to the last.
func inTurn(l ...impl.Seq) (impl.Seq, bool) {
	out := l[0]
	for _, s := range l[1:] {
		var ok bool
		if out, ok = impl.MergeSeqs(out, s); !ok {
			return impl.Seq{}, false
		}
	}
	return out, true
}

// checkThree asks for promise 17 of three. It tells whether they can be put
// together.
func checkThree(t *testing.T, a, b, c impl.Seq) bool {
	t.Helper()
	all, ok := inTurn(a, b, c)
	for _, l := range [][]impl.Seq{{a, c, b}, {b, a, c}, {b, c, a}, {c, a, b}, {c, b, a}, {a, b, a, c, b, c, a}} {
		if got, told := inTurn(l...); !sameSeq(got, all) || told != ok {
			t.Fatalf("%s, %s and %s are %s, %v or %s, %v together", outset(a), outset(b), outset(c), outset(all), ok, outset(got), told)
		}
	}
	later, can := impl.MergeSeqs(b, c)
	if can {
		later, can = impl.MergeSeqs(a, later)
	}
	if !sameSeq(later, all) || can != ok {
		t.Fatalf("%s, %s and %s are %s, %v, or, the last two first, %s, %v", outset(a), outset(b), outset(c), outset(all), ok, outset(later), can)
	}
	// What both are less than they are together less than: there is nothing more in it.
	lessA, _ := impl.LessSeq(a, c)
	lessB, _ := impl.LessSeq(b, c)
	both, told := impl.MergeSeqs(a, b)
	if less, _ := impl.LessSeq(both, c); lessA && lessB && (!less || !told) {
		t.Fatalf("%s and %s are less than %s, but not together", outset(a), outset(b), outset(c))
	}
	return ok
}

// written is a sequence in which an actor has put a text behind what was there.
func written(t *testing.T, s impl.Seq, actor int, text string) impl.Seq {
	t.Helper()
	ahead, _ := impl.TextOfSeq(s)
	for i := range len(text) {
		s = putIn(t, s, actor, len(ahead)+i, text[i:i+1])
	}
	return s
}

func putIn(t *testing.T, s impl.Seq, actor, at int, b string) impl.Seq {
	t.Helper()
	if !checkPut(t, s, actor, at, b) {
		t.Fatalf("%q could not be put in %s at %d", b, outset(s), at)
	}
	out, _ := impl.PutAtom(s, actor, at, b)
	return out
}

func droppedIn(t *testing.T, s impl.Seq, at int) impl.Seq {
	t.Helper()
	if !checkDropped(t, s, at) {
		t.Fatalf("of %s the byte at %d could not be dropped", outset(s), at)
	}
	out, _ := impl.DropAtom(s, at)
	return out
}

func together(t *testing.T, a, b impl.Seq) impl.Seq {
	t.Helper()
	if !checkTogether(t, a, b) {
		t.Fatalf("%s and %s could not be put together", outset(a), outset(b))
	}
	out, _ := impl.MergeSeqs(a, b)
	return out
}

// emptied is a sequence of which all atoms are Gone.
func emptied(t *testing.T, s impl.Seq) impl.Seq {
	t.Helper()
	text, _ := impl.TextOfSeq(s)
	for range len(text) {
		s = droppedIn(t, s, 0)
	}
	return s
}

func seqHasText(t *testing.T, name string, s impl.Seq, want string) {
	t.Helper()
	if text, ok := impl.TextOfSeq(s); text != want || !ok {
		t.Errorf("%s: %s is %q, %v, not %q", name, outset(s), text, ok, want)
	}
}

// smallSeqs are all good sequences of at most n atoms of these ids, each behind
// any other one or the beginning, and Gone or not.
func smallSeqs(n int, ids ...atomID) []impl.Seq {
	out := []impl.Seq{{}}
	for k := 0; k < len(out); k++ {
		l := out[k].Atoms
		if len(l) == n {
			continue
		}
		for i, x := range ids {
			if len(l) > 0 && !idOf(l[len(l)-1]).isBelow(x) {
				continue
			}
			behind := []atomID{{}}
			for _, a := range l {
				if a.Time < x.time {
					behind = append(behind, idOf(a))
				}
			}
			for _, y := range behind {
				a := atom(x.time, x.actor, y.time, y.actor, allBytes[i:i+1])
				out = append(out, seqOf(append(slices.Clone(l), a)...), seqOf(append(slices.Clone(l), gone(a))...))
			}
		}
	}
	return out
}

// Chapter 17: orders and texts of sequences, one by one.
func TestOrdersOneByOne(t *testing.T) {
	for _, x := range []struct {
		name  string
		s     impl.Seq
		order []int
		text  string
	}{
		{"nothing at all", seqOf(), nil, ""},
		{"one atom", seqOf(atom(1, 0, 0, 0, "a")), []int{0}, "a"},
		{"one atom that is Gone", seqOf(gone(atom(1, 0, 0, 0, "a"))), []int{0}, ""},
		{"one behind the other", seqOf(atom(1, 1, 0, 0, "a"), atom(2, 1, 1, 1, "b"), atom(3, 1, 2, 1, "c")), []int{0, 1, 2}, "abc"},
		{"both behind the beginning: by falling Times", seqOf(atom(1, 1, 0, 0, "a"), atom(2, 1, 0, 0, "b")), []int{1, 0}, "ba"},
		{"both behind the beginning: by falling Actors", seqOf(atom(1, 1, 0, 0, "a"), atom(1, 2, 0, 0, "b")), []int{1, 0}, "ba"},
		{"the Time goes ahead of the Actor", seqOf(atom(1, 9, 0, 0, "a"), atom(2, 0, 0, 0, "b")), []int{1, 0}, "ba"},
		{"three behind one", seqOf(atom(1, 1, 0, 0, "a"), atom(2, 1, 1, 1, "b"), atom(2, 2, 1, 1, "c"), atom(3, 0, 1, 1, "d")), []int{0, 3, 2, 1}, "adcb"},
		{"all behind one ahead of the next one", seqOf(atom(1, 1, 0, 0, "a"), atom(1, 2, 0, 0, "b"), atom(2, 1, 1, 1, "c"), atom(2, 2, 1, 2, "d")), []int{1, 3, 0, 2}, "bdac"},
		{"a greater id behind a lesser one stays there", seqOf(atom(1, 1, 0, 0, "a"), atom(2, 1, 0, 0, "b"), atom(9, 9, 1, 1, "c")), []int{1, 0, 2}, "bac"},
		{"deep ones ahead of flat ones", seqOf(atom(1, 1, 0, 0, "a"), atom(2, 1, 1, 1, "b"), atom(3, 1, 1, 1, "c"), atom(4, 1, 3, 1, "d"), atom(5, 1, 2, 1, "e")), []int{0, 2, 3, 1, 4}, "acdbe"},
		{"what stands behind one that is Gone", seqOf(gone(atom(1, 1, 0, 0, "a")), atom(2, 1, 1, 1, "b"), gone(atom(3, 1, 1, 1, "c")), atom(4, 1, 3, 1, "d")), []int{0, 2, 3, 1}, "db"},
		{"Times with gaps", seqOf(atom(5, 3, 0, 0, "a"), atom(100, 0, 5, 3, "b"), atom(lastTime, lastActor, 5, 3, "c")), []int{0, 2, 1}, "acb"},
		{"names and ends", seqOf(atom(1, 1, 0, 0, "A"), atom(2, 1, 1, 1, "/"), atom(3, 1, 0, 0, "/"), atom(4, 1, 2, 1, "F")), []int{2, 0, 1, 3}, "/A/F"},
		{"one byte many times", seqOf(atom(1, 1, 0, 0, "a"), atom(2, 1, 0, 0, "a"), atom(3, 1, 2, 1, "a")), []int{1, 2, 0}, "aaa"},
		{"blank, point and comma", seqOf(atom(1, 1, 0, 0, " "), atom(2, 1, 1, 1, "."), atom(3, 1, 2, 1, ",")), []int{0, 1, 2}, " .,"},
	} {
		order, ok := impl.OrderOf(x.s)
		if !slices.Equal(order, x.order) || !ok {
			t.Errorf("%s: the order is %v, %v, not %v", x.name, order, ok, x.order)
		}
		seqHasText(t, x.name, x.s, x.text)
		if !checkSeq(t, x.s) {
			t.Errorf("%s: it is not good", x.name)
		}
	}
}

// Chapter 17: what is put, one by one.
func TestPutsOneByOne(t *testing.T) {
	abc := seqOf(atom(1, 1, 0, 0, "a"), atom(2, 1, 1, 1, "b"), atom(3, 1, 2, 1, "c"))
	holes := seqOf(gone(atom(1, 1, 0, 0, "a")), atom(2, 1, 1, 1, "b"), gone(atom(3, 1, 2, 1, "c")), atom(4, 2, 3, 1, "d"), gone(atom(5, 3, 4, 2, "e")))
	late := seqOf(atom(7, 4, 0, 0, "x"), atom(7, 5, 0, 0, "y"))
	for _, x := range []struct {
		name      string
		s         impl.Seq
		actor, at int
		b         string
		want      impl.Atom
		text      string
	}{
		{"in nothing", seqOf(), 0, 0, "a", atom(1, 0, 0, 0, "a"), "a"},
		{"in nothing, by the last actor", seqOf(), lastActor, 0, "/", atom(1, lastActor, 0, 0, "/"), "/"},
		{"at the beginning", abc, 2, 0, "x", atom(4, 2, 0, 0, "x"), "xabc"},
		{"behind the first one", abc, 2, 1, "x", atom(4, 2, 1, 1, "x"), "axbc"},
		{"behind the second one", abc, 0, 2, "x", atom(4, 0, 2, 1, "x"), "abxc"},
		{"at the end", abc, 1, 3, "x", atom(4, 1, 3, 1, "x"), "abcx"},
		{"a byte that is there", abc, 1, 1, "a", atom(4, 1, 1, 1, "a"), "aabc"},
		{"ahead of one that is Gone", holes, 7, 0, "x", atom(6, 7, 0, 0, "x"), "xbd"},
		{"just ahead and behind of such as are Gone", holes, 7, 1, "x", atom(6, 7, 2, 1, "x"), "bxd"},
		{"ahead of the last one, which is Gone", holes, 7, 2, "x", atom(6, 7, 4, 2, "x"), "bdx"},
		{"a lesser actor than all", late, 0, 1, "z", atom(8, 0, 7, 5, "z"), "yzx"},
		{"behind one of two with one Time", late, 6, 2, "z", atom(8, 6, 7, 4, "z"), "yxz"},
	} {
		got := putIn(t, x.s, x.actor, x.at, x.b)
		if want := seqOf(append(slices.Clone(x.s.Atoms), x.want)...); !sameSeq(got, want) {
			t.Errorf("%s: %v, not %v", x.name, got, want)
		}
		seqHasText(t, x.name, got, x.text)
	}
	empty := seqOf(gone(atom(1, 1, 0, 0, "a")), gone(atom(2, 1, 1, 1, "b")))
	if got := putIn(t, empty, 3, 0, "x"); got.Atoms[2] != atom(3, 3, 0, 0, "x") {
		t.Errorf("where all are Gone: %v", got)
	}
	if checkPut(t, empty, 3, 1, "x") || checkPut(t, empty, 3, 2, "x") || checkDropped(t, empty, 0) {
		t.Errorf("%v has no byte", empty)
	}
}

// Chapter 17: what is dropped, one by one.
func TestDropsOneByOne(t *testing.T) {
	s := seqOf(atom(1, 1, 0, 0, "a"), atom(2, 1, 0, 0, "b"), gone(atom(3, 1, 2, 1, "c")), atom(4, 1, 3, 1, "d"))
	for _, x := range []struct {
		at, number int
		text       string
	}{{0, 1, "da"}, {1, 3, "ba"}, {2, 0, "bd"}} {
		want := cloneOfSeq(s)
		want.Atoms[x.number].Gone = true
		if got := droppedIn(t, s, x.at); !sameSeq(got, want) {
			t.Errorf("at %d: %v, not %v", x.at, got, want)
		} else {
			seqHasText(t, fmt.Sprint(x.at), got, x.text)
		}
	}
	seqHasText(t, "as it was", s, "bda")
	for _, at := range append(oddPlaces("bda"), 3) {
		if checkDropped(t, s, at) {
			t.Errorf("there is no byte at %d", at)
		}
	}
}

// Chapter 17: sequences put together, one by one.
func TestTogetherOneByOne(t *testing.T) {
	a := atom(1, 1, 0, 0, "a")
	b := atom(2, 1, 1, 1, "b")
	c := atom(2, 2, 1, 1, "c")
	for _, x := range []struct {
		name       string
		s, r, want impl.Seq
		text       string
	}{
		{"nothing and nothing", seqOf(), seqOf(), seqOf(), ""},
		{"nothing and one", seqOf(), seqOf(a), seqOf(a), "a"},
		{"one and the same", seqOf(a, b), seqOf(a, b), seqOf(a, b), "ab"},
		{"one and a part of it", seqOf(a, b, c), seqOf(a, c), seqOf(a, b, c), "acb"},
		{"two puts at one place: the greater id stands ahead", seqOf(a, b), seqOf(a, c), seqOf(a, b, c), "acb"},
		{"one that is Gone in the first", seqOf(gone(a), b), seqOf(a, c), seqOf(gone(a), b, c), "cb"},
		{"one that is Gone in the second", seqOf(a, b), seqOf(a, gone(b)), seqOf(a, gone(b)), "a"},
		{"one that is Gone in both", seqOf(a, gone(b)), seqOf(a, gone(b), c), seqOf(a, gone(b), c), "ac"},
		{"one that is Gone here, one there", seqOf(gone(a), b, c), seqOf(a, b, gone(c)), seqOf(gone(a), b, gone(c)), "b"},
		{"one that is Gone and not in the other", seqOf(a, gone(b)), seqOf(a), seqOf(a, gone(b)), "a"},
		{"nothing in common", seqOf(a, b), seqOf(atom(1, 2, 0, 0, "x"), atom(2, 2, 1, 2, "y")), seqOf(a, atom(1, 2, 0, 0, "x"), b, atom(2, 2, 1, 2, "y")), "xyab"},
		{"ids by turns", seqOf(a, atom(3, 1, 1, 1, "c"), atom(5, 1, 3, 1, "e")), seqOf(a, atom(2, 4, 1, 1, "b"), atom(4, 4, 2, 4, "d")), seqOf(a, atom(2, 4, 1, 1, "b"), atom(3, 1, 1, 1, "c"), atom(4, 4, 2, 4, "d"), atom(5, 1, 3, 1, "e")), "acebd"},
		{"one Time, many actors", seqOf(atom(1, 0, 0, 0, "a"), atom(1, 9, 0, 0, "d")), seqOf(atom(1, 3, 0, 0, "b"), atom(1, 4, 0, 0, "c")), seqOf(atom(1, 0, 0, 0, "a"), atom(1, 3, 0, 0, "b"), atom(1, 4, 0, 0, "c"), atom(1, 9, 0, 0, "d")), "dcba"},
	} {
		if got := together(t, x.s, x.r); !sameSeq(got, x.want) {
			t.Errorf("%s: %v, not %v", x.name, got, x.want)
		} else {
			seqHasText(t, x.name, got, x.text)
		}
	}
}

// One id that is told two ways can't be put together, and is not less; that only
// Gone is another one is no matter.
func TestOneIdToldTwoWays(t *testing.T) {
	ahead := []impl.Atom{atom(1, 1, 0, 0, "a"), atom(1, 2, 0, 0, "b"), atom(2, 1, 1, 1, "c")}
	x := atom(4, 1, 1, 1, "x")
	for name, y := range map[string]impl.Atom{
		"another Above":          atom(4, 1, 2, 1, "x"),
		"another Maker":          atom(4, 1, 1, 2, "x"),
		"the beginning":          atom(4, 1, 0, 0, "x"),
		"a greater Byte":         atom(4, 1, 1, 1, "y"),
		"a lesser Byte":          atom(4, 1, 1, 1, "a"),
		"another place and Byte": atom(4, 1, 1, 2, "y"),
	} {
		for _, p := range []impl.Atom{x, gone(x)} {
			for _, q := range []impl.Atom{y, gone(y)} {
				s, r := seqOf(append(slices.Clone(ahead), p)...), seqOf(append(slices.Clone(ahead), q, atom(5, 5, 4, 1, "v"))...)
				if !impl.GoodSeq(s) || !impl.GoodSeq(r) {
					t.Fatalf("%s: they are not good", name)
				}
				if checkTogether(t, s, r) || checkTogether(t, r, s) || checkLess(t, s, r) || checkLess(t, r, s) {
					t.Errorf("%s: they were put together", name)
				}
				if got, ok := impl.MergeSeqs(s, r); !isZeroSeq(got) || ok {
					t.Errorf("%s: %v, %v", name, got, ok)
				}
				if less, ok := impl.LessSeq(s, r); less || !ok {
					t.Errorf("%s: less is %v, %v: that it is told two ways is an answer", name, less, ok)
				}
			}
		}
	}
	if s, r := seqOf(append(slices.Clone(ahead), x)...), seqOf(append(slices.Clone(ahead), gone(x))...); !checkTogether(t, s, r) || !checkLess(t, s, r) || checkLess(t, r, s) {
		t.Error("that it is Gone is all")
	}
}

// Chapter 17: what is less, one by one.
func TestLessOneByOne(t *testing.T) {
	a, b, c := atom(1, 1, 0, 0, "a"), atom(2, 1, 1, 1, "b"), atom(3, 1, 1, 1, "c")
	for _, x := range []struct {
		name string
		s, r impl.Seq
		less bool
	}{
		{"nothing and nothing", seqOf(), seqOf(), true},
		{"nothing and one", seqOf(), seqOf(a), true},
		{"one and nothing", seqOf(a), seqOf(), false},
		{"one that is Gone and nothing", seqOf(gone(a)), seqOf(), false},
		{"the same", seqOf(a, b), seqOf(a, b), true},
		{"the first of two", seqOf(a), seqOf(a, b), true},
		{"the first and the last of three", seqOf(a, c), seqOf(a, b, c), true},
		{"more", seqOf(a, b), seqOf(a), false},
		{"as many, but others", seqOf(a, b), seqOf(a, c), false},
		{"Gone in the second", seqOf(a, b), seqOf(a, gone(b)), true},
		{"Gone in the first", seqOf(a, gone(b)), seqOf(a, b), false},
		{"Gone in both", seqOf(a, gone(b)), seqOf(a, gone(b)), true},
		{"Gone in the first, with more in the second", seqOf(gone(a)), seqOf(a, b, c), false},
		{"Gone in the second, with more there", seqOf(a), seqOf(gone(a), b, c), true},
		{"another actor", seqOf(atom(1, 2, 0, 0, "a")), seqOf(a, b), false},
		{"another Time", seqOf(atom(2, 1, 0, 0, "a")), seqOf(a), false},
	} {
		if checkLess(t, x.s, x.r) != x.less {
			t.Errorf("%s: it is not %v", x.name, x.less)
		}
	}
}

// Two put at one place, each a row of bytes: the rows do not come between one
// another, and whose first byte has the greater id stands ahead.
func TestTwoPutRowsAtOnePlace(t *testing.T) {
	for _, start := range []string{"", "a", "abc"} {
		for at := range len(start) + 1 {
			base := written(t, seqOf(), 5, start)
			for _, actors := range [][2]int{{0, 9}, {9, 0}, {4, 6}, {6, 4}} {
				one, other := base, base
				for i, b := range []string{"p", "q", "r"} {
					one = putIn(t, one, actors[0], at+i, b)
				}
				for i, b := range []string{"x", "y"} {
					other = putIn(t, other, actors[1], at+i, b)
				}
				row := "xypqr"
				if actors[0] > actors[1] {
					row = "pqrxy"
				}
				seqHasText(t, fmt.Sprint(start, at, actors), together(t, one, other), start[:at]+row+start[at:])
			}
		}
	}
}

// What is put just ahead of, or behind, what another one drops at once stands
// where it was put; what both drop is gone once.
func TestPutsBesideDrops(t *testing.T) {
	base := written(t, seqOf(), 0, "abc")
	for at := range 4 {
		put := putIn(t, base, 1, at, "x")
		for from := range 3 {
			dropped := droppedIn(t, base, from)
			text := "abc"[:at] + "x" + "abc"[at:]
			text = strings.Replace(text, "abc"[from:from+1], "", 1)
			seqHasText(t, fmt.Sprint(at, from), together(t, put, dropped), text)
			for other := range 3 {
				both := together(t, dropped, droppedIn(t, base, other))
				left := strings.Replace(strings.Replace("abc", "abc"[from:from+1], "", 1), "abc"[other:other+1], "", 1)
				seqHasText(t, fmt.Sprint(from, other), both, left)
			}
		}
		seqHasText(t, "all dropped", together(t, put, emptied(t, base)), "x")
	}
}

// Promise 17: all small sequences, with all that can be put and dropped.
func TestSmallSequences(t *testing.T) {
	many := 0
	for _, s := range smallSeqs(4, atomID{1, 0}, atomID{1, 1}, atomID{2, 0}, atomID{3, 5}, atomID{3, 9}) {
		if !checkSeq(t, s) {
			t.Fatalf("%v is not good", s)
		}
		text, _ := impl.TextOfSeq(s)
		for at := -1; at <= len(text)+1; at++ {
			for _, actor := range []int{0, 5, 9} {
				if checkPut(t, s, actor, at, "/") != (at >= 0 && at <= len(text)) {
					t.Fatalf("%v: a place is 0 to %d, not %d", s, len(text), at)
				}
			}
			if checkDropped(t, s, at) != (at >= 0 && at < len(text)) {
				t.Fatalf("%v: a byte is at 0 to less than %d, not at %d", s, len(text), at)
			}
		}
		many++
	}
	if many < 1000 {
		t.Errorf("only %d sequences", many)
	}
}

// Promise 17: all small sequences, two and two.
func TestSmallSequencesTogether(t *testing.T) {
	l := smallSeqs(3, atomID{1, 0}, atomID{2, 0}, atomID{2, 1}, atomID{3, 0})
	can, cannot := 0, 0
	for _, a := range l {
		for _, b := range l {
			if checkTogether(t, a, b) {
				can++
			} else {
				cannot++
			}
		}
	}
	if can < 5000 || cannot < 5000 {
		t.Errorf("%d can be put together, %d not", can, cannot)
	}
}

// Promise 17: all small sequences, three and three.
func TestThreeSmallSequences(t *testing.T) {
	l := smallSeqs(2, atomID{1, 0}, atomID{1, 1}, atomID{2, 0})
	can, cannot := 0, 0
	for _, a := range l {
		for _, b := range l {
			for _, c := range l {
				if checkThree(t, a, b, c) {
					can++
				} else {
					cannot++
				}
			}
		}
	}
	if can < 5000 || cannot < 1000 {
		t.Errorf("%d can be put together, %d not", can, cannot)
	}
}

// circle is writers without a server: each has a sequence of its own, and hears of
// another one's now and then.
type circle struct {
	seqs []impl.Seq
	puts int
}

func (x *circle) step(t *testing.T, c *chooser) {
	t.Helper()
	actor := c.next(len(x.seqs))
	s := x.seqs[actor]
	text, _ := impl.TextOfSeq(s)
	switch c.next(6) {
	case 0, 1, 2:
		if x.puts < impl.MaxAtoms {
			at := c.next(len(text) + 1)
			x.seqs[actor] = putIn(t, s, actor, at, c.text(1))
			x.puts++
		}
	case 3:
		if len(text) > 0 {
			x.seqs[actor] = droppedIn(t, s, c.next(len(text)))
		}
	default:
		x.seqs[actor] = together(t, s, x.seqs[c.next(len(x.seqs))])
	}
}

// Promise 17: writers that put, drop and hear of one another by turns have all the
// same in the end, in whatever order they hear.
func TestWritersWithoutAServer(t *testing.T) {
	c := &chooser{17}
	for k := range 60 {
		x := circle{seqs: make([]impl.Seq, 2+k%4)}
		for range 10 + 4*k {
			x.step(t, c)
		}
		n := len(x.seqs)
		all, ok := inTurn(x.seqs...)
		if !ok || len(all.Atoms) != x.puts || !checkSeq(t, all) {
			t.Fatalf("%s are together %s, %v", outset(x.seqs), outset(all), ok)
		}
		for range 10 {
			var l []impl.Seq
			for range 3 * n {
				l = append(l, x.seqs[c.next(n)])
			}
			if got, ok := inTurn(append(l, x.seqs...)...); !sameSeq(got, all) || !ok {
				t.Fatalf("%s are together %s, or %s", outset(x.seqs), outset(all), outset(got))
			}
		}
		for i := range n {
			checkThree(t, x.seqs[i], x.seqs[(i+1)%n], x.seqs[c.next(n)])
			if !checkLess(t, x.seqs[i], all) {
				t.Fatalf("%s is not less than %s", outset(x.seqs[i]), outset(all))
			}
		}
	}
}

// Promise 17: a text that is written at any places is as if it were a text alone.
func TestWrittenAsATextAlone(t *testing.T) {
	c := &chooser{171}
	for k := range 60 {
		s, text := seqOf(), ""
		for len(s.Atoms) < impl.MaxAtoms {
			if c.next(10) < k%5 && text != "" {
				at := c.next(len(text))
				s, text = droppedIn(t, s, at), text[:at]+text[at+1:]
				continue
			}
			at, b := c.next(len(text)+1), c.text(1)
			s, text = putIn(t, s, c.next(10), at, b), text[:at]+b+text[at:]
		}
		seqHasText(t, "written", s, text)
		if checkPut(t, s, 0, 0, "a") {
			t.Fatalf("%s has MaxAtoms atoms", outset(s))
		}
	}
}

// anyhow is a good sequence whose atoms stand behind any others.
func (c *chooser) anyhow(n int) impl.Seq {
	var out impl.Seq
	x := atomID{1, c.next(3)}
	for len(out.Atoms) < n {
		var above atomID
		if len(out.Atoms) > 0 && c.next(4) > 0 {
			if a := out.Atoms[c.next(len(out.Atoms))]; a.Time < x.time {
				above = idOf(a)
			}
		}
		a := atom(x.time, x.actor, above.time, above.actor, c.text(1))
		a.Gone = c.next(4) == 0
		out.Atoms = append(out.Atoms, a)
		x.actor += 1 + c.next(5)
		if x.actor > lastActor {
			x = atomID{x.time + 1 + c.next(2)*c.next(100), c.next(3)}
		}
	}
	return out
}

// part is what a writer knows who has heard of some atoms alone, and of what some
// are Gone.
func (c *chooser) part(s impl.Seq) impl.Seq {
	var out impl.Seq
	known := map[atomID]bool{{}: true}
	for _, a := range s.Atoms {
		if known[aboveOf(a)] && c.next(8) > 0 {
			a.Gone = a.Gone && c.next(2) == 0
			out.Atoms = append(out.Atoms, a)
			known[idOf(a)] = true
		}
	}
	return out
}

// Promise 17: great sequences of all shapes, and parts of them.
func TestGreatSequences(t *testing.T) {
	c := &chooser{172}
	for n := range impl.MaxAtoms + 1 {
		s := c.anyhow(n)
		if !checkSeq(t, s) {
			t.Fatalf("%s is not good", outset(s))
		}
		text, _ := impl.TextOfSeq(s)
		for at := range len(text) + 1 {
			checkPut(t, s, c.next(10), at, c.text(1))
			checkDropped(t, s, at)
		}
		a, b, d := c.part(s), c.part(s), c.part(s)
		if !checkThree(t, a, b, d) || !checkTogether(t, a, b) || !checkTogether(t, a, s) {
			t.Fatalf("%s, %s and %s could not be put together", outset(a), outset(b), outset(d))
		}
		if !checkLess(t, a, s) || checkLess(t, s, a) != sameSeq(s, a) {
			t.Fatalf("%s is not less than %s", outset(a), outset(s))
		}
		checkTogether(t, s, c.anyhow(n))
	}
}

// chainOf is n atoms, each behind the one ahead; heapOf all behind the beginning.
func chainOf(n int) impl.Seq {
	var out impl.Seq
	for k := range n {
		out.Atoms = append(out.Atoms, atom(k+1, 0, k, 0, allBytes[k%len(allBytes):][:1]))
	}
	return out
}

func heapOf(n int, actor int) impl.Seq {
	var out impl.Seq
	for k := range n {
		out.Atoms = append(out.Atoms, atom(k+1, actor, 0, 0, allBytes[k%len(allBytes):][:1]))
	}
	return out
}

// Limits: MaxAtoms is met exactly, by what is handed in, put and put together.
func TestMostAtoms(t *testing.T) {
	for _, f := range []func(n int) impl.Seq{chainOf, func(n int) impl.Seq { return heapOf(n, 0) }} {
		almost, full, over := f(impl.MaxAtoms-1), f(impl.MaxAtoms), f(impl.MaxAtoms+1)
		if !checkSeq(t, almost) || !checkSeq(t, full) || checkSeq(t, over) {
			t.Fatalf("MaxAtoms is the most")
		}
		for _, at := range []int{0, 1, impl.MaxAtoms - 1} {
			if !checkPut(t, almost, 3, at, "x") || checkPut(t, full, 3, at, "x") || checkPut(t, over, 3, at, "x") {
				t.Errorf("put at %d: MaxAtoms is the most", at)
			}
			if !checkDropped(t, full, at) || checkDropped(t, over, at) {
				t.Errorf("dropped at %d: MaxAtoms is the most", at)
			}
		}
		if none := emptied(t, full); checkPut(t, none, 3, 0, "x") {
			t.Error("atoms that are Gone are atoms, too")
		}
		if !checkTogether(t, full, almost) || !checkTogether(t, full, full) || checkTogether(t, over, over) || checkTogether(t, full, over) || checkTogether(t, over, seqOf()) {
			t.Error("put together: MaxAtoms is the most")
		}
		if !checkLess(t, almost, full) || checkLess(t, full, almost) || checkLess(t, full, over) || checkLess(t, over, over) {
			t.Error("less: MaxAtoms is the most")
		}
	}
	for _, n := range []int{0, 1, 39, 40, 41, 79, 80} {
		a, b, more := heapOf(n, 1), heapOf(impl.MaxAtoms-n, 2), heapOf(impl.MaxAtoms-n+1, 2)
		if got := together(t, a, b); len(got.Atoms) != impl.MaxAtoms {
			t.Errorf("%d and others are %d", n, len(got.Atoms))
		}
		if n > 0 && checkTogether(t, a, more) {
			t.Errorf("%d and %d atoms were put together", n, len(more.Atoms))
		}
		if got, ok := impl.MergeSeqs(a, more); n > 0 && (!isZeroSeq(got) || ok) {
			t.Errorf("%d and %d atoms: %s, %v", n, len(more.Atoms), outset(got), ok)
		}
	}
	// Of 80 and 80 that have 80 in common there are no more; of such as have 79 in common there is one more.
	full := chainOf(impl.MaxAtoms)
	other := cloneOfSeq(full)
	other.Atoms[impl.MaxAtoms-1].Actor = 1
	if checkTogether(t, full, other) {
		t.Error("one atom more than MaxAtoms")
	}
	if !checkTogether(t, seqOf(full.Atoms[:79]...), other) {
		t.Error("just MaxAtoms")
	}
}

// Limits: Times, and what is one more than the greatest.
func TestTimesOfAtoms(t *testing.T) {
	for _, n := range []int{math.MinInt, -1, 0, 1, 2, lastTime - 1, lastTime, lastTime + 1, lastTime + 2, math.MaxInt} {
		s := seqOf(atom(n, 0, 0, 0, "a"))
		if good := 1 <= n && n <= lastTime; checkSeq(t, s) != good {
			t.Errorf("Time %d is not %v", n, good)
		}
		for at := range 2 {
			if can := 1 <= n && n < lastTime; checkPut(t, s, 0, at, "b") != can || checkPut(t, s, lastActor, at, "b") != can {
				t.Errorf("behind Time %d: not %v", n, can)
			}
		}
	}
	last := seqOf(atom(1, 0, 0, 0, "a"), atom(lastTime, 0, 0, 0, "b"), atom(lastTime, 3, 1, 0, "c"))
	if !checkSeq(t, last) || checkPut(t, last, 9, 0, "x") || checkPut(t, last, 9, 3, "x") {
		t.Errorf("%v has the last Time", last)
	}
	if !checkTogether(t, last, seqOf(atom(lastTime, 9, 0, 0, "d"))) || !checkDropped(t, last, 2) {
		t.Error("the last Time is one as any other")
	}
	if s := putIn(t, seqOf(atom(lastTime-1, 9, 0, 0, "a")), 0, 1, "b"); s.Atoms[1] != atom(lastTime, 0, lastTime-1, 9, "b") || checkPut(t, s, 0, 0, "c") {
		t.Errorf("%v", s)
	}
	// The greatest Time counts, whoever has it, and though it is Gone.
	if s := putIn(t, seqOf(atom(3, 1, 0, 0, "a"), gone(atom(70, 2, 3, 1, "b"))), 1, 1, "c"); s.Atoms[2] != atom(71, 1, 3, 1, "c") {
		t.Errorf("%v", s)
	}
}

// Limits: Actors of atoms, of what they stand behind, and of those that put.
func TestActorsOfAtoms(t *testing.T) {
	s := seqOf(atom(1, 4, 0, 0, "a"))
	for _, actor := range []int{math.MinInt, -10, -1, 0, 1, 4, 8, 9, 10, 11, 100, math.MaxInt} {
		good := 0 <= actor && actor <= lastActor
		if checkSeq(t, seqOf(atom(1, actor, 0, 0, "a"))) != good || checkSeq(t, seqOf(atom(1, actor, 0, 0, "a"), atom(2, 3, 1, actor, "b"))) != good {
			t.Errorf("Actor %d is not %v", actor, good)
		}
		if checkSeq(t, seqOf(atom(1, 4, 0, 0, "a"), atom(2, 4, 1, actor, "b"))) != (actor == 4) {
			t.Errorf("Maker %d is not %v", actor, actor == 4)
		}
		if checkSeq(t, seqOf(atom(1, 4, 0, actor, "a"))) != (actor == 0) {
			t.Errorf("Maker %d of the beginning is not %v", actor, actor == 0)
		}
		for at := range 2 {
			if checkPut(t, s, actor, at, "b") != good || checkPut(t, s, actor, at, "-") {
				t.Errorf("actor %d puts: not %v", actor, good)
			}
		}
		if checkPut(t, seqOf(), actor, 0, "b") != good {
			t.Errorf("actor %d puts in nothing: not %v", actor, good)
		}
	}
	var all impl.Seq
	for actor := range lastActor + 1 {
		all = together(t, all, putIn(t, seqOf(), actor, 0, allBytes[actor:actor+1]))
	}
	seqHasText(t, "all actors at once", all, "dcbaFEDCBA")
}

// Each byte is one of a good text, or it is not.
func TestBytesOfAtoms(t *testing.T) {
	s := seqOf(atom(1, 1, 0, 0, "a"))
	bytes := []string{"", "aa", "a ", " a", "AA", "A/", "\x00\x00", "\u00e4", "a\x00", longText(301), longText(3000000)}
	for c := range 256 {
		bytes = append(bytes, string([]byte{byte(c)}))
	}
	good := 0
	for _, b := range bytes {
		is := byteIsGood(b)
		if checkSeq(t, seqOf(atom(1, 1, 0, 0, b))) != is || checkSeq(t, seqOf(s.Atoms[0], gone(atom(2, 1, 1, 1, b)))) != is {
			t.Errorf("%.40q is not %v", b, is)
		}
		if checkPut(t, s, 2, 0, b) != is || checkPut(t, s, 2, 1, b) != is || checkPut(t, seqOf(), 2, 0, b) != is || checkPut(t, s, 2, 2, b) {
			t.Errorf("%.40q is put: not %v", b, is)
		}
		if is {
			good++
		}
	}
	if good != 46 {
		t.Errorf("%d bytes are good", good)
	}
}

// The nil list and the empty list are the same value.
func TestEmptyListsOfSequences(t *testing.T) {
	for _, l := range [][]impl.Atom{nil, {}, make([]impl.Atom, 0, 5)} {
		s := impl.Seq{Atoms: l}
		if !checkSeq(t, s) || !checkPut(t, s, 0, 0, "a") || checkDropped(t, s, 0) || checkPut(t, s, 0, 1, "a") {
			t.Errorf("%v is the empty sequence", s)
		}
		for _, r := range []impl.Seq{{}, {Atoms: []impl.Atom{}}, chainOf(3)} {
			if got := together(t, s, r); !sameSeq(got, r) || !checkLess(t, s, r) || checkLess(t, r, s) != (len(r.Atoms) == 0) {
				t.Errorf("%v and %v are %v", s, r, got)
			}
		}
	}
}

// All that is Gone: there is no byte, but the atoms are all there.
func TestAllAtomsGone(t *testing.T) {
	for _, n := range []int{1, 2, 5, impl.MaxAtoms - 1} {
		for _, s := range []impl.Seq{chainOf(n), heapOf(n, 3)} {
			none := emptied(t, s)
			seqHasText(t, "all Gone", none, "")
			if order, ok := impl.OrderOf(none); len(order) != n || !ok {
				t.Errorf("OrderOf(%s) = %v, %v", outset(none), order, ok)
			}
			if checkDropped(t, none, 0) || checkPut(t, none, 1, 1, "x") || checkPut(t, none, 1, -1, "x") {
				t.Errorf("%s has but the place 0", outset(none))
			}
			got := putIn(t, none, 1, 0, "x")
			if aboveOf(got.Atoms[n]) != (atomID{}) {
				t.Errorf("%v stands behind the beginning", got.Atoms[n])
			}
			if order, _ := impl.OrderOf(got); order[0] != n {
				t.Errorf("%v: it stands ahead of all that is Gone", order)
			}
			seqHasText(t, "together", together(t, got, s), "x")
		}
	}
}

// wrongSeqs are not good, each in one way that the document names.
func wrongSeqs() map[string]impl.Seq {
	a, b := atom(1, 1, 0, 0, "a"), atom(2, 1, 1, 1, "b")
	return map[string]impl.Seq{
		"MaxAtoms and one more":                       chainOf(impl.MaxAtoms + 1),
		"MaxAtoms and one more, all Gone":             seqOf(slices.Repeat([]impl.Atom{gone(a)}, impl.MaxAtoms+1)...),
		"very many atoms":                             chainOf(9999),
		"more atoms than there are Times":             heapOf(300000, 1),
		"Time 0":                                      seqOf(atom(0, 1, 0, 0, "a")),
		"Time 0, Actor 0":                             seqOf(atom(0, 0, 0, 0, "a")),
		"Time -1":                                     seqOf(atom(-1, 1, 0, 0, "a")),
		"Time -1, behind a lesser one":                seqOf(atom(-1, 1, -2, 0, "a")),
		"Time 10001":                                  seqOf(atom(lastTime+1, 1, 0, 0, "a")),
		"Time 10001 behind the last one":              seqOf(atom(lastTime, 1, 0, 0, "a"), atom(lastTime+1, 1, lastTime, 1, "b")),
		"Time far off":                                seqOf(atom(math.MaxInt, 1, 0, 0, "a")),
		"Time far below":                              seqOf(atom(math.MinInt, 1, 0, 0, "a"), b),
		"Actor -1":                                    seqOf(atom(1, -1, 0, 0, "a")),
		"Actor 10":                                    seqOf(atom(1, lastActor+1, 0, 0, "a")),
		"Actor 10 behind another one":                 seqOf(a, atom(2, lastActor+1, 1, 1, "b")),
		"Actor far off":                               seqOf(atom(1, math.MinInt, 0, 0, "a"), atom(1, math.MaxInt, 0, 0, "b")),
		"one id twice":                                seqOf(a, a),
		"one id twice, once Gone":                     seqOf(a, gone(a)),
		"one id twice, with other bytes":              seqOf(a, atom(1, 1, 0, 0, "b")),
		"one id twice, others between":                seqOf(a, b, a),
		"one id twice, at other places":               seqOf(a, b, atom(2, 1, 0, 0, "c")),
		"Times that fall":                             seqOf(atom(2, 1, 0, 0, "b"), atom(1, 1, 0, 0, "a")),
		"Times that fall, Actors that rise":           seqOf(atom(2, 1, 0, 0, "b"), atom(1, 2, 0, 0, "a")),
		"Actors that fall at one Time":                seqOf(atom(1, 2, 0, 0, "b"), a),
		"Times that rise and fall":                    seqOf(a, atom(3, 1, 0, 0, "b"), atom(2, 1, 0, 0, "c")),
		"what stands behind it ahead of it":           seqOf(b, a),
		"behind one that is not there":                seqOf(a, atom(3, 1, 2, 1, "b")),
		"behind one that is not there: another actor": seqOf(a, atom(2, 1, 1, 2, "b")),
		"behind one that is not there: no actor":      seqOf(a, atom(2, 1, 1, -1, "b")),
		"behind one that is not there: none is":       seqOf(b),
		"behind one that would be below all":          seqOf(a, atom(2, 1, -1, 0, "b")),
		"behind one far below":                        seqOf(a, atom(2, 1, math.MinInt, 1, "b")),
		"behind one of its own Time":                  seqOf(a, atom(1, 2, 1, 1, "b")),
		"behind one of its own Time, of many":         seqOf(a, b, atom(2, 5, 2, 1, "c")),
		"behind a later one":                          seqOf(atom(1, 1, 2, 1, "a"), atom(2, 1, 0, 0, "b")),
		"behind a later one of its own Time":          seqOf(atom(1, 1, 1, 2, "a"), atom(1, 2, 0, 0, "b")),
		"behind itself":                               seqOf(atom(1, 1, 1, 1, "a")),
		"behind itself, others ahead":                 seqOf(a, atom(2, 1, 2, 1, "b")),
		"behind one another":                          seqOf(atom(1, 1, 2, 1, "a"), atom(2, 1, 1, 1, "b")),
		"Above 0 with a Maker":                        seqOf(atom(1, 1, 0, 1, "a")),
		"Above 0 with a Maker behind others":          seqOf(a, b, atom(3, 1, 0, 9, "c")),
		"Above 0 with a Maker of no kind":             seqOf(a, atom(2, 1, 0, -1, "b")),
		"no byte":                                     seqOf(atom(1, 1, 0, 0, "")),
		"no byte, and Gone":                           seqOf(gone(atom(1, 1, 0, 0, ""))),
		"two bytes":                                   seqOf(atom(1, 1, 0, 0, "ab")),
		"a byte of none of a good text":               seqOf(atom(1, 1, 0, 0, "-")),
		"a byte of none of a good text, the last":     seqOf(a, b, atom(3, 1, 2, 1, "G")),
		"a byte of none of a good text, and Gone":     seqOf(gone(atom(1, 1, 0, 0, "\xff"))),
		"a byte beyond all measure":                   seqOf(atom(1, 1, 0, 0, longText(3000000))),
		"the zero atom":                               seqOf(impl.Atom{}),
		"the zero atom behind a good one":             seqOf(a, impl.Atom{}),
		"the last one of MaxAtoms stands behind none": seqOf(append(chainOf(impl.MaxAtoms-1).Atoms, atom(80, 0, 78, 1, "a"))...),
		"the last one of MaxAtoms is there already":   seqOf(append(chainOf(impl.MaxAtoms-1).Atoms, atom(79, 0, 78, 0, "a"))...),
	}
}

// zeroOfSeq is of a sequence that is not good: each function has its zero answer.
func zeroOfSeq(t *testing.T, name string, s impl.Seq) {
	t.Helper()
	if impl.GoodSeq(s) {
		t.Errorf("%s: it is good", name)
	}
	if text, ok := impl.TextOfSeq(s); text != "" || ok {
		t.Errorf("%s: TextOfSeq = %.40q, %v", name, text, ok)
	}
	if order, ok := impl.OrderOf(s); len(order) != 0 || ok {
		t.Errorf("%s: OrderOf = %.40v, %v", name, order, ok)
	}
	for _, at := range []int{math.MinInt, -1, 0, 1, 2, len(s.Atoms), math.MaxInt} {
		if got, ok := impl.DropAtom(s, at); !isZeroSeq(got) || ok {
			t.Errorf("%s: DropAtom at %d = %s, %v", name, at, outset(got), ok)
		}
		for _, actor := range []int{-1, 0, 9, 10} {
			for _, b := range []string{"", "a", "ab", "-"} {
				if got, ok := impl.PutAtom(s, actor, at, b); !isZeroSeq(got) || ok {
					t.Errorf("%s: PutAtom of %q at %d by %d = %s, %v", name, b, at, actor, outset(got), ok)
				}
			}
		}
	}
	for _, r := range []impl.Seq{{}, s, chainOf(1), heapOf(2, 1), chainOf(impl.MaxAtoms), seqOf(impl.Atom{})} {
		for _, x := range [][2]impl.Seq{{s, r}, {r, s}} {
			if got, ok := impl.MergeSeqs(x[0], x[1]); !isZeroSeq(got) || ok {
				t.Errorf("%s: MergeSeqs = %s, %v", name, outset(got), ok)
			}
			if less, ok := impl.LessSeq(x[0], x[1]); less || ok {
				t.Errorf("%s: LessSeq = %v, %v", name, less, ok)
			}
		}
	}
}

// Promise 20: sequences that are not good have the zero answer of each function.
func TestWrongSequencesHaveTheZeroAnswer(t *testing.T) {
	for name, s := range wrongSeqs() {
		before := cloneOfSeq(s)
		zeroOfSeq(t, name, s)
		if !sameSeq(s, before) {
			t.Errorf("%s: it was changed", name)
		}
		if seqIsGood(s) {
			t.Errorf("%s: it is good", name)
		}
	}
	for _, s := range notTexts() {
		zeroOfSeq(t, outset(s), seqOf(atom(1, 1, 0, 0, s)))
	}
}

// Sequences that look much like wrong ones, but are good.
func TestSequencesThatAreGoodStill(t *testing.T) {
	for _, s := range []impl.Seq{
		seqOf(atom(1, 9, 0, 0, "a"), atom(2, 0, 1, 9, "b")),
		seqOf(atom(1, 0, 0, 0, "a"), atom(1, 1, 0, 0, "a"), atom(1, 9, 0, 0, "a")),
		seqOf(gone(atom(1, 0, 0, 0, "a")), gone(atom(2, 0, 1, 0, "a"))),
		seqOf(atom(lastTime, 9, 0, 0, "a")),
		seqOf(atom(1, 0, 0, 0, "a"), atom(lastTime, 9, 1, 0, "/")),
		seqOf(atom(2, 1, 0, 0, "a"), atom(5, 1, 0, 0, "b"), atom(5, 2, 2, 1, "c"), atom(7, 0, 5, 2, "d")),
		seqOf(atom(1, 1, 0, 0, "a"), atom(1, 2, 0, 0, "b"), atom(2, 1, 1, 2, "c"), atom(2, 2, 1, 1, "d")),
	} {
		if !checkSeq(t, s) {
			t.Errorf("%v is not good", s)
		}
	}
}

// Promise 20: each field of each atom, with whatever it may have.
func TestEachFieldOfAnAtom(t *testing.T) {
	numbers := []int{math.MinInt, -1, 0, 1, 2, 3, 4, 5, 9, 10, lastTime, lastTime + 1, math.MaxInt}
	other := seqOf(atom(1, 1, 0, 0, "a"), atom(2, 1, 1, 1, "b"), atom(2, 2, 1, 1, "c"), gone(atom(4, 1, 2, 2, "d")))
	good, not := 0, 0
	see := func(s impl.Seq) {
		if checkSeq(t, s) {
			good++
		} else {
			not++
		}
		checkTogether(t, s, other)
		checkPut(t, s, 1, 1, "x")
		checkDropped(t, s, 1)
	}
	for k := range other.Atoms {
		for _, n := range numbers {
			for _, set := range []func(a *impl.Atom){
				func(a *impl.Atom) { a.Time = n },
				func(a *impl.Atom) { a.Actor = n },
				func(a *impl.Atom) { a.Above = n },
				func(a *impl.Atom) { a.Maker = n },
				func(a *impl.Atom) { a.Above, a.Maker = n, 1 },
				func(a *impl.Atom) { a.Above, a.Maker = n, 0 },
				func(a *impl.Atom) { a.Time, a.Above = n, n },
				func(a *impl.Atom) { a.Above, a.Maker = a.Time, a.Actor },
			} {
				s := cloneOfSeq(other)
				set(&s.Atoms[k])
				see(s)
			}
		}
		for _, b := range []string{"", "x", "ab", "-", "\xff", "/"} {
			s := cloneOfSeq(other)
			s.Atoms[k].Byte = b
			see(s)
		}
	}
	if good < 40 || not < 200 {
		t.Errorf("%d are good, %d not", good, not)
	}
}

// Promise 20: all short lists of atoms, good or not.
func TestAllShortListsOfAtoms(t *testing.T) {
	var some []impl.Atom
	for _, x := range []atomID{{0, 0}, {1, 0}, {1, 1}, {2, 0}} {
		for _, y := range []atomID{{0, 0}, {0, 1}, {1, 0}, {1, 1}, {2, 0}} {
			some = append(some, atom(x.time, x.actor, y.time, y.actor, "a"))
		}
	}
	some = append(some, atom(2, 1, 0, 0, ""), gone(atom(2, 1, 1, 0, "b")))
	good, not := 0, 0
	see := func(s impl.Seq) {
		if !checkSeq(t, s) {
			not++
			checkTogether(t, s, chainOf(1))
			return
		}
		good++
		for at := range 4 {
			checkPut(t, s, 1, at, "b")
			checkDropped(t, s, at)
		}
		checkTogether(t, s, heapOf(2, 1))
	}
	for _, a := range some {
		see(seqOf(a))
		for _, b := range some {
			see(seqOf(a, b))
			for _, c := range some {
				see(seqOf(a, b, c))
			}
		}
	}
	if good < 15 || not < 10000 {
		t.Errorf("%d are good, %d not", good, not)
	}
}

// Promise 20: places, actors and bytes that are none, of sequences that are good.
func TestWrongPutsAndDrops(t *testing.T) {
	for _, s := range []impl.Seq{{}, chainOf(1), chainOf(5), heapOf(5, 9), emptied(t, chainOf(4)), chainOf(impl.MaxAtoms), seqOf(atom(lastTime, 0, 0, 0, "a"))} {
		before := cloneOfSeq(s)
		text, _ := impl.TextOfSeq(s)
		for _, at := range append(oddPlaces(text), len(text)) {
			if got, ok := impl.DropAtom(s, at); !isZeroSeq(got) || ok {
				t.Errorf("DropAtom(%s, %d) = %s, %v", outset(s), at, outset(got), ok)
			}
		}
		for _, at := range append(oddPlaces(text), 0, len(text)) {
			for _, actor := range []int{math.MinInt, -1, 0, 9, 10, math.MaxInt} {
				for _, b := range []string{"a", "", "ab", "-", "\xff", "G", longText(301)} {
					can := at >= 0 && at <= len(text) && actor >= 0 && actor <= 9 && b == "a" && len(s.Atoms) < impl.MaxAtoms && mostTime(s) < lastTime
					if got, ok := impl.PutAtom(s, actor, at, b); ok != can || !ok && !isZeroSeq(got) {
						t.Errorf("PutAtom(%s, %d, %d, %q) = %s, %v", outset(s), actor, at, b, outset(got), ok)
					}
				}
			}
		}
		if !sameSeq(s, before) {
			t.Errorf("%s was changed", outset(before))
		}
	}
}

// stretchesOfSeq is all memory of a sequence, without such as has no byte.
func stretchesOfSeq(s impl.Seq) []stretch {
	out := []stretch{stretchOf(s.Atoms)}
	for _, a := range s.Atoms {
		out = append(out, stretchOfText(a.Byte))
	}
	return slices.DeleteFunc(out, func(x stretch) bool { return x.from == x.to })
}

// answersOfSeqs are all sequences that are answered of two.
func answersOfSeqs(s, r impl.Seq, actor, at int, b string) []impl.Seq {
	put, _ := impl.PutAtom(s, actor, at, b)
	dropped, _ := impl.DropAtom(s, at)
	both, _ := impl.MergeSeqs(s, r)
	turned, _ := impl.MergeSeqs(r, s)
	same, _ := impl.MergeSeqs(s, s)
	return []impl.Seq{put, dropped, both, turned, same}
}

// greatSeqs goes through sequences, each with a place and one to put it together
// with.
func greatSeqs(f func(s, r impl.Seq, actor, at int, b string)) {
	c := &chooser{173}
	for n := range impl.MaxAtoms + 1 {
		s := c.anyhow(n)
		text, _ := impl.TextOfSeq(s)
		for _, r := range []impl.Seq{{}, c.part(s), s, heapOf(n/2, 9)} {
			f(s, r, c.next(10), c.next(len(text)+1), c.text(1))
		}
	}
}

// Promise 20: answers share no memory with an argument or one another, and no two
// texts within one do.
func TestSequencesAreNewMemory(t *testing.T) {
	many := 0
	greatSeqs(func(s, r impl.Seq, actor, at int, b string) {
		given := slices.Concat(stretchesOfSeq(s), stretchesOfSeq(r), []stretch{stretchOfText(b)})
		var ahead []stretch
		for i, a := range answersOfSeqs(s, r, actor, at, b) {
			l := stretchesOfSeq(a)
			if anyMeet(l, given) {
				t.Fatalf("the answer %d of %s lies in the memory of what was handed in", i, outset(s))
			}
			if anyMeet(l, ahead) {
				t.Fatalf("the answer %d of %s lies in the memory of another one", i, outset(s))
			}
			for k, x := range l {
				if slices.ContainsFunc(l[:k], x.meets) {
					t.Fatalf("two texts of the answer %d of %s lie in one memory: %s", i, outset(s), outset(a))
				}
			}
			ahead = append(ahead, l...)
			many += len(l)
		}
		text, _ := impl.TextOfSeq(s)
		again, _ := impl.TextOfSeq(s)
		if x := stretchOfText(text); text != "" && (slices.ContainsFunc(given, x.meets) || x.meets(stretchOfText(again))) {
			t.Fatalf("TextOfSeq(%s) lies in the memory of another text", outset(s))
		}
		order, _ := impl.OrderOf(s)
		other, _ := impl.OrderOf(s)
		clear(order[:cap(order)])
		if want, _ := orderByHand(s); !slices.Equal(other, want) {
			t.Fatalf("OrderOf(%s) is told twice in one memory", outset(s))
		}
	})
	if many < 10000 {
		t.Errorf("only %d lists and texts were looked at", many)
	}
}

// roomySeq has atoms behind its length: such as would make another order and text,
// or a sequence that is not good.
func roomySeq(s impl.Seq) impl.Seq {
	more := append(slices.Clone(s.Atoms), atom(mostTime(s)+1, 3, 0, 0, "x"), impl.Atom{Time: -1, Byte: "behind"})
	return impl.Seq{Atoms: more[:len(s.Atoms)]}
}

func wholeSeq(s impl.Seq) impl.Seq { return cloneOfSeq(seqOf(s.Atoms[:cap(s.Atoms)]...)) }

func seqHides(s impl.Seq) bool {
	return slices.ContainsFunc(s.Atoms[len(s.Atoms):cap(s.Atoms)], func(a impl.Atom) bool { return a != impl.Atom{} })
}

// checkSeqStays asks for promise 20 of sequences that have something behind the
// length of their lists.
func checkSeqStays(t *testing.T, s, r impl.Seq, actor, at int, b string) {
	t.Helper()
	givenS, givenR := roomySeq(s), roomySeq(r)
	beforeS, beforeR := wholeSeq(givenS), wholeSeq(givenR)
	checkSeq(t, givenS)
	checkLess(t, givenS, givenR)
	want := answersOfSeqs(s, r, actor, at, b)
	for i, a := range answersOfSeqs(givenS, givenR, actor, at, b) {
		if !sameSeq(a, want[i]) {
			t.Fatalf("the answer %d of %s is %s: what lies behind is read", i, outset(s), outset(a))
		}
		if seqHides(a) {
			t.Fatalf("the answer %d of %s is %s, and something lies behind", i, outset(s), outset(a))
		}
		clear(a.Atoms[:cap(a.Atoms)])
	}
	order, _ := impl.OrderOf(givenS)
	if slices.ContainsFunc(order[len(order):cap(order)], func(k int) bool { return k != 0 }) {
		t.Fatalf("OrderOf(%s) has something behind its length", outset(s))
	}
	if !sameSeq(wholeSeq(givenS), beforeS) || !sameSeq(wholeSeq(givenR), beforeR) {
		t.Fatalf("%s or %s was changed", outset(s), outset(r))
	}
}

// Promise 20: nothing is written into a sequence, nor behind its length, nor read
// or handed out from there.
func TestSequencesStayAsTheyWere(t *testing.T) {
	greatSeqs(func(s, r impl.Seq, actor, at int, b string) { checkSeqStays(t, s, r, actor, at, b) })
	for _, s := range wrongSeqs() {
		if len(s.Atoms) < 100 {
			checkSeqStays(t, s, chainOf(2), 1, 0, "a")
			checkSeqStays(t, chainOf(2), s, 1, 1, "a")
		}
	}
	for _, s := range smallSeqs(3, atomID{1, 1}, atomID{2, 0}, atomID{2, 2}) {
		for at := -1; at < 5; at++ {
			checkSeqStays(t, s, chainOf(1), 2, at, "a")
			checkSeqStays(t, s, heapOf(3, 1), 10, at, "-")
		}
	}
	a := seqOf(atom(1, 1, 0, 0, "a"), atom(2, 1, 1, 1, "b"))
	b := seqOf(atom(1, 1, 0, 0, "a"), gone(atom(2, 1, 0, 0, "b")))
	checkSeqStays(t, a, b, 1, 1, "x")
}

// An answer is the same, whatever was asked and refused ahead of it.
func TestSequencesAreToldAnew(t *testing.T) {
	for range 3 {
		s := written(t, seqOf(), 1, "abc")
		impl.PutAtom(s, 10, 0, "x")
		impl.MergeSeqs(s, heapOf(3, 1))
		r := droppedIn(t, putIn(t, s, 2, 1, "x"), 0)
		both := together(t, r, putIn(t, s, 3, 1, "y"))
		seqHasText(t, "told anew", both, "yxbc")
		clear(r.Atoms)
		clear(s.Atoms)
		seqHasText(t, "told anew", both, "yxbc")
	}
}

// The greatest sequences are answered in a moment, and such as go far beyond all
// limits are refused in one.
func TestGreatestSequencesInAMoment(t *testing.T) {
	c := &chooser{174}
	for k, s := range []impl.Seq{chainOf(impl.MaxAtoms), heapOf(impl.MaxAtoms, 1), c.anyhow(impl.MaxAtoms), chainOf(9999), heapOf(300000, 1), seqOf(atom(1, 1, 0, 0, longText(3000000)))} {
		start := time.Now()
		for range 50 {
			impl.TextOfSeq(s)
			impl.OrderOf(s)
			impl.PutAtom(s, 1, 1, "a")
			impl.PutAtom(s, 1, 1, longText(3000))
			impl.DropAtom(s, 1)
			impl.MergeSeqs(s, s)
			impl.MergeSeqs(s, heapOf(40, 2))
			impl.LessSeq(s, s)
		}
		if took := time.Since(start); took > 5*time.Second {
			t.Errorf("the sequence %d took %v", k, took)
		}
	}
}

// seqFrom reads any bytes as atoms, many of them good.
func seqFrom(data string, number int, b string) impl.Seq {
	var out impl.Seq
	for ; len(data) >= 4; data = data[4:] {
		a := atom(int(data[0]%16), int(data[1]%12), int(data[2]%16), int(data[3]%12), allBytes[int(data[0])%len(allBytes):][:1])
		a.Gone = data[1] >= 128
		switch {
		case data[3] > 250:
			a.Byte = b
		case data[2] > 250:
			a.Time = number
		case data[2] > 240:
			a.Above = number
		}
		out.Atoms = append(out.Atoms, a)
	}
	return out
}

// inRow makes of atoms such as rise, each behind one that is ahead of it.
func inRow(s impl.Seq) impl.Seq {
	var out impl.Seq
	for k, a := range s.Atoms {
		a.Above, a.Maker = 0, 0
		if x := s.Atoms[k].Above; x < k && x > 0 {
			a.Above, a.Maker = out.Atoms[x].Time, out.Atoms[x].Actor
		}
		a.Time = k + 1
		out.Atoms = append(out.Atoms, a)
	}
	return out
}

// FuzzSequences: no argument makes one of the seven functions panic, or tell another thing than the document says.
func FuzzSequences(f *testing.F) {
	f.Add("\x01\x01\x00\x00\x02\x01\x01\x01", "\x01\x01\x00\x00\x02\x82\x01\x01", 1, 1, "x", 3)
	f.Add("", "\x00\x00\x00\x00", -1, 0, "", -1)
	f.Add(strings.Repeat("\x0a\x03\x02\x01", 81), strings.Repeat("\x0b\x04\x03\x02", 40), 9, 80, "/", lastTime)
	f.Add("\x01\x00\x00\x00\x01\x01\x00\x00\x05\x00\xff\x00", "\x05\x00\xf5\x00", 10, 1<<62, "\xff", lastTime+1)
	f.Fuzz(func(t *testing.T, one, other string, actor, at int, b string, number int) {
		a, r := seqFrom(one, number, b), seqFrom(other, number, b)
		l := []impl.Seq{a, r, inRow(a), inRow(r)}
		for _, s := range l {
			checkSeq(t, s)
			checkPut(t, s, actor, at, b)
			checkPut(t, s, actor%10, at%81, "a")
			checkDropped(t, s, at)
			checkDropped(t, s, at%80)
			for _, x := range l {
				checkTogether(t, s, x)
			}
		}
		checkThree(t, l[1], l[2], l[3])
		grown, _ := impl.PutAtom(l[2], 4, 0, "z")
		checkThree(t, l[2], l[3], grown)
	})
}
