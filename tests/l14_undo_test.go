package tests

import (
	"fmt"
	"maps"
	"slices"
	"strings"
	"testing"
	"time"
	"unsafe"

	"loop.example/g00253/impl"
)

// changesOf are changes, the last one being the first to be done.
func changesOf(ops ...[]impl.Part) []impl.Change {
	var out []impl.Change
	for _, op := range ops {
		out = append(out, impl.Change{Op: op})
	}
	return out
}

func sameChanges(a, b []impl.Change) bool {
	return slices.EqualFunc(a, b, func(x, y impl.Change) bool { return slices.Equal(x.Op, y.Op) })
}

func sameHistory(a, b impl.History) bool {
	return a.Text == b.Text && sameChanges(a.Undo, b.Undo) && sameChanges(a.Redo, b.Redo)
}

func isZeroHistory(h impl.History) bool {
	return h.Text == "" && len(h.Undo) == 0 && len(h.Redo) == 0
}

// cloneOfHistory has lists of its own, as long as they are.
func cloneOfHistory(h impl.History) impl.History {
	clone := func(l []impl.Change) []impl.Change {
		var out []impl.Change
		for _, c := range l {
			out = append(out, impl.Change{Op: slices.Clone(c.Op)})
		}
		return out
	}
	return impl.History{Text: h.Text, Undo: clone(h.Undo), Redo: clone(h.Redo)}
}

// doneInTurn tells the text that the first n of a list make, the last one first;
// false where one does not fit.
func doneInTurn(l []impl.Change, s string, n int) (string, bool) {
	for k := range n {
		next, fits := applyByHand(l[len(l)-1-k].Op, s)
		if !fits {
			return "", false
		}
		s = next
	}
	return s, true
}

func changesAreGood(l []impl.Change, s string) bool {
	if len(l) > impl.MaxUndo {
		return false
	}
	_, fit := doneInTurn(l, s, len(l))
	return fit
}

func historyIsGood(h impl.History) bool {
	return textIsGood(h.Text) && changesAreGood(h.Undo, h.Text) && changesAreGood(h.Redo, h.Text)
}

func doByHand(h impl.History, op []impl.Part) (impl.History, bool) {
	text, fits := applyByHand(op, h.Text)
	if !historyIsGood(h) || !fits {
		return impl.History{}, false
	}
	undo := append(slices.Clone(h.Undo), changesOf(invertByHand(op))...)
	if len(undo) > impl.MaxUndo {
		undo = undo[1:]
	}
	return impl.History{Text: text, Undo: undo}, true
}

// lastByHand does the last of one list, and puts what takes it back behind the
// other one; false where there is none, or no room.
func lastByHand(s string, from, to []impl.Change) (string, []impl.Change, []impl.Change, bool) {
	if len(from) == 0 || len(to) >= impl.MaxUndo {
		return "", nil, nil, false
	}
	last := from[len(from)-1].Op
	text, fits := applyByHand(last, s)
	return text, slices.Clone(from[:len(from)-1]), append(slices.Clone(to), changesOf(invertByHand(last))...), fits
}

func undoByHand(h impl.History) (impl.History, bool) {
	if !historyIsGood(h) {
		return impl.History{}, false
	}
	text, undo, redo, ok := lastByHand(h.Text, h.Undo, h.Redo)
	return impl.History{Text: text, Undo: undo, Redo: redo}, ok
}

func redoByHand(h impl.History) (impl.History, bool) {
	if !historyIsGood(h) {
		return impl.History{}, false
	}
	text, redo, undo, ok := lastByHand(h.Text, h.Redo, h.Undo)
	return impl.History{Text: text, Undo: undo, Redo: redo}, ok
}

func undoAllByHand(h impl.History) (impl.History, int, bool) {
	if !historyIsGood(h) {
		return impl.History{}, 0, false
	}
	n := 0
	for {
		next, ok := undoByHand(h)
		if !ok {
			return h, n, true
		}
		h = next
		n++
	}
}

// behindByHand tells the last of a list behind another's change, and all ahead of
// it behind that change as it is behind the last.
func behindByHand(l []impl.Change, other []impl.Part) ([]impl.Change, bool) {
	if len(l) == 0 {
		return nil, true
	}
	last := len(l) - 1
	mine, theirs, ok := transformByHand(l[last].Op, other)
	if !ok {
		return nil, false
	}
	ahead, ok := behindByHand(l[:last], theirs)
	return append(ahead, impl.Change{Op: mine}), ok
}

func otherByHand(h impl.History, op []impl.Part) (impl.History, bool) {
	text, fits := applyByHand(op, h.Text)
	if !historyIsGood(h) || !fits {
		return impl.History{}, false
	}
	undo, ok := behindByHand(h.Undo, op)
	redo, ok2 := behindByHand(h.Redo, op)
	out := impl.History{Text: text, Undo: undo, Redo: redo}
	if !ok || !ok2 || !historyIsGood(out) {
		return impl.History{}, false
	}
	return out, true
}

// checkHistoryIs holds an answer against what is reckoned by hand; what is told
// must be good, and all else the zero answer.
func checkHistoryIs(t *testing.T, name string, h, got, want impl.History, ok, can bool) bool {
	t.Helper()
	if !can {
		want = impl.History{}
	}
	if !sameHistory(got, want) || ok != can {
		t.Fatalf("%s of %s = %s, %v, not %s, %v", name, outset(h), outset(got), ok, outset(want), can)
	}
	if ok && (!impl.GoodHistory(got) || !historyIsGood(got)) {
		t.Fatalf("%s of %s = %s is not good", name, outset(h), outset(got))
	}
	return ok
}

// checkHistory asks all that is asked of a history alone, whatever it is, and
// tells whether it is good.
func checkHistory(t *testing.T, h impl.History) bool {
	t.Helper()
	good := historyIsGood(h)
	if impl.GoodHistory(h) != good {
		t.Fatalf("GoodHistory(%s) is not %v", outset(h), good)
	}
	got, ok := impl.UndoChange(h)
	want, can := undoByHand(h)
	checkHistoryIs(t, "UndoChange", h, got, want, ok, can)
	got, ok = impl.RedoChange(h)
	want, can = redoByHand(h)
	checkHistoryIs(t, "RedoChange", h, got, want, ok, can)
	got, n, ok := impl.UndoAll(h)
	want, often, can := undoAllByHand(h)
	checkHistoryIs(t, "UndoAll", h, got, want, ok, can)
	if n != often {
		t.Fatalf("UndoAll(%s) is %d times, not %d", outset(h), n, often)
	}
	return good
}

// checkDone asks for promise 14 of a change that fits: what was done is undone,
// and done again.
func checkDone(t *testing.T, h impl.History, op []impl.Part) bool {
	t.Helper()
	got, ok := impl.DoChange(h, op)
	want, can := doByHand(h, op)
	if !checkHistoryIs(t, "DoChange by "+outset(op), h, got, want, ok, can) {
		return false
	}
	inverse, _ := impl.InvertOp(op)
	if n := len(got.Undo); n == 0 || !slices.Equal(got.Undo[n-1].Op, inverse) || len(got.Redo) != 0 {
		t.Fatalf("DoChange(%s, %s) = %s: what takes it back is %v", outset(h), outset(op), outset(got), inverse)
	}
	back, ok := impl.UndoChange(got)
	if back.Text != h.Text || !ok || len(back.Redo) != 1 {
		t.Fatalf("%s done to %q is undone to %q, %v", outset(op), h.Text, back.Text, ok)
	}
	normal, _ := impl.NormalOp(op)
	if !slices.Equal(back.Redo[0].Op, normal) {
		t.Fatalf("%s is done again by %s", outset(op), outset(back.Redo[0].Op))
	}
	again, ok := impl.RedoChange(back)
	if !sameHistory(again, got) || !ok {
		t.Fatalf("%s is undone and done again: %s, %v", outset(got), outset(again), ok)
	}
	return true
}

// checkOther asks for what is told of another's change, and tells whether it is.
func checkOther(t *testing.T, h impl.History, op []impl.Part) bool {
	t.Helper()
	got, ok := impl.OtherChange(h, op)
	want, can := otherByHand(h, op)
	if checkHistoryIs(t, "OtherChange by "+outset(op), h, got, want, ok, can) && len(h.Undo) > 0 {
		checkEitherWay(t, h, got, op)
	}
	return ok
}

// checkEitherWay asks for promise 14 of another's change: undoing and then hearing
// of it is hearing and then undoing. What is undone first may leave a Redo that
// can't be told behind the change.
func checkEitherWay(t *testing.T, h, heard impl.History, op []impl.Part) {
	t.Helper()
	if len(h.Redo) == impl.MaxUndo {
		return
	}
	_, behind, _ := impl.TransformOps(h.Undo[len(h.Undo)-1].Op, op)
	first, ok := impl.UndoChange(h)
	text, ok2 := impl.ApplyOp(behind, first.Text)
	second, ok3 := impl.UndoChange(heard)
	if second.Text != text || !ok || !ok2 || !ok3 {
		t.Fatalf("of %s and %s: heard of first and undone then %q, undone first and heard of then %q", outset(h), outset(op), second.Text, text)
	}
	if other, ok := impl.OtherChange(first, behind); ok && (other.Text != second.Text || !sameChanges(other.Undo, second.Undo)) {
		t.Fatalf("of %s and %s: %s, but the other way round %s", outset(h), outset(op), outset(second), outset(other))
	}
}

// begun is a history in which these changes were done.
func begun(t *testing.T, s string, ops ...[]impl.Part) impl.History {
	t.Helper()
	h, ok := impl.NewHistory(s)
	if h.Text != s || len(h.Undo)+len(h.Redo) > 0 || !ok {
		t.Fatalf("NewHistory(%q) = %v, %v", s, h, ok)
	}
	for _, op := range ops {
		if h, ok = impl.DoChange(h, op); !ok {
			t.Fatalf("%v is not done to %q", op, s)
		}
	}
	return h
}

// undone is a history after so many undoings.
func undone(t *testing.T, h impl.History, n int) impl.History {
	t.Helper()
	for range n {
		var ok bool
		if h, ok = impl.UndoChange(h); !ok {
			t.Fatalf("it is not undone %d times", n)
		}
	}
	return h
}

// fewOps are changes of a short text that put, drop and keep at each place, each
// as it may be written.
func fewOps(s, mine string) [][]impl.Part {
	if s == "" {
		return [][]impl.Part{nil, {}, {put(mine)}, {put(mine), put(mine)}}
	}
	n := len(s)
	out := [][]impl.Part{{put(mine), drop(s)}, {drop(s), put(mine)}, {drop(s)}, {keep(n)}, {keep(n), put(mine)}, {put(mine), keep(n)}, {drop(s), put(s)}}
	for at := 1; at < n; at++ {
		out = append(out, []impl.Part{keep(at), put(mine), keep(n - at)}, []impl.Part{drop(s[:at]), keep(n - at)}, []impl.Part{keep(at), drop(s[at:])}, []impl.Part{drop(s[:at]), put(mine), drop(s[at:])}, []impl.Part{put(mine), put(mine), keep(at), keep(n - at)})
	}
	return out
}

// eachHistory goes through histories of few changes of short texts: done, and as
// many of them undone as can be.
func eachHistory(t *testing.T, texts []string, deep int, f func(h impl.History)) {
	t.Helper()
	var more func(h impl.History, left int)
	more = func(h impl.History, left int) {
		for n := range len(h.Undo) + 1 {
			f(undone(t, h, n))
		}
		if left == 0 || len(h.Text) > 4 {
			return
		}
		for _, op := range fewOps(h.Text, "x") {
			next, ok := impl.DoChange(h, op)
			if !ok {
				t.Fatalf("%v is not done to %q", op, h.Text)
			}
			more(next, left-1)
		}
	}
	for _, s := range texts {
		more(begun(t, s), deep)
	}
}

// wandering plays with a history by a fixed rule, and asks at each step.
type wandering struct {
	h                         impl.History
	done, back, again, others int
	refused                   int
}

func (x *wandering) step(t *testing.T, c *chooser, parts int) {
	t.Helper()
	op := c.opOn(x.h.Text, 1+c.next(parts))
	var next impl.History
	var ok bool
	switch c.next(6) {
	case 0, 1:
		checkDone(t, x.h, op)
		if next, ok = impl.DoChange(x.h, op); ok {
			x.done++
		}
	case 2:
		if next, ok = impl.UndoChange(x.h); ok {
			x.back++
		}
	case 3:
		if next, ok = impl.RedoChange(x.h); ok {
			x.again++
		}
	default:
		checkOther(t, x.h, op)
		if next, ok = impl.OtherChange(x.h, op); ok {
			x.others++
		} else {
			x.refused++
		}
	}
	if ok {
		x.h = next
	}
	checkHistory(t, x.h)
}

// Promise 14: what is done is undone, and what is undone is done again.
func TestWhatIsDoneIsUndone(t *testing.T) {
	done := 0
	eachChange(func(op []impl.Part, s string) {
		if textIsGood(s) && checkDone(t, begun(t, s), op) {
			done++
		}
	})
	if done < 1000 {
		t.Errorf("only %d were done", done)
	}
}

// Promise 14: all short histories, as far as they are undone, and each change that
// may be done then.
func TestShortHistories(t *testing.T) {
	many := 0
	eachHistory(t, []string{"", "a", "ab"}, 3, func(h impl.History) {
		if !checkHistory(t, h) {
			t.Fatalf("%v is not good", h)
		}
		many++
		if len(h.Undo)+len(h.Redo) > 2 {
			return
		}
		for _, op := range fewOps(h.Text, "y") {
			if !checkDone(t, h, op) {
				t.Fatalf("%v is not done to %v", op, h)
			}
		}
	})
	if many < 5000 {
		t.Errorf("only %d histories", many)
	}
}

// Promise 14: all short histories, and each change of another's.
func TestOthersOfShortHistories(t *testing.T) {
	heard := 0
	eachHistory(t, []string{"", "a", "ab"}, 2, func(h impl.History) {
		for _, op := range append(fewOps(h.Text, "y"), fewOps(h.Text, "x")...) {
			if !checkOther(t, h, op) {
				t.Fatalf("%v is not heard of in %v", op, h)
			}
			next, _ := impl.OtherChange(h, op)
			checkHistory(t, next)
			heard++
		}
	})
	if heard < 5000 {
		t.Errorf("only %d were heard of", heard)
	}
}

// Promise 14: one's own change and another's, at every place of a text.
func TestOthersAtEveryPlace(t *testing.T) {
	for _, s := range []string{"", "a", "ab", "abc"} {
		theirs := bytesOps(s, "y")
		for _, mine := range bytesOps(s, "x") {
			for _, h := range []impl.History{{Text: s, Undo: changesOf(mine)}, {Text: s, Redo: changesOf(mine)}} {
				for _, op := range theirs {
					if !checkOther(t, h, op) {
						t.Fatalf("%v is not heard of in %v", op, h)
					}
				}
			}
		}
	}
}

// Promise 14: what is done to a text and heard of by turns, step by step.
func TestHistoriesThatGoOn(t *testing.T) {
	c := &chooser{14}
	var all wandering
	for k := range 40 {
		x := wandering{h: begun(t, c.text(c.next(1+8*k)))}
		for range 50 {
			x.step(t, c, 1+k/2)
		}
		all.done += x.done
		all.back += x.back
		all.again += x.again
		all.others += x.others
		all.refused += x.refused
	}
	if all.done < 400 || all.back < 150 || all.again < 50 || all.others < 300 || all.refused < 10 {
		t.Errorf("%d done, %d undone, %d done again, %d heard of, %d refused", all.done, all.back, all.again, all.others, all.refused)
	}
}

// Promise 14: a row of changes is undone one by one, text by text, and done again.
func TestRowsOfChangesAreUndone(t *testing.T) {
	c := &chooser{141}
	for k := range 60 {
		n := 1 + k%impl.MaxUndo
		texts, ops := c.chain(c.text(c.next(impl.MaxDoc+1)), n, 1+k)
		h := begun(t, texts[0], ops...)
		if all, many, ok := impl.UndoAll(h); all.Text != texts[0] || many != n || !ok || len(all.Undo) != 0 || len(all.Redo) != n {
			t.Fatalf("UndoAll of %d changes = %s, %d, %v", n, outset(all), many, ok)
		}
		for i := n; i > 0; i-- {
			if h.Text != texts[i] || len(h.Undo) != i || len(h.Redo) != n-i {
				t.Fatalf("%d of %d are left: %s, but the text was %q", i, n, outset(h), texts[i])
			}
			h = undone(t, h, 1)
		}
		for i := range n {
			if h.Text != texts[i] {
				t.Fatalf("%q, but the text was %q", h.Text, texts[i])
			}
			h, _ = impl.RedoChange(h)
		}
		if h.Text != texts[n] || len(h.Undo) != n || len(h.Redo) != 0 {
			t.Fatalf("all are done again: %s, but the text was %q", outset(h), texts[n])
		}
	}
}

// overAll is another's change as it is behind all of a list, done from the last on.
func overAll(l []impl.Change, op []impl.Part) ([]impl.Part, bool) {
	for _, c := range slices.Backward(l) {
		var ok bool
		if _, op, ok = transformByHand(c.Op, op); !ok {
			return nil, false
		}
	}
	return op, true
}

// Promise 14: undoing all and then hearing of another's change is hearing of it
// and then undoing all; of what is done again likewise.
func TestAllIsUndoneEitherWay(t *testing.T) {
	c := &chooser{142}
	heard := 0
	for k := range 300 {
		texts, ops := c.chain(c.text(c.next(150)), 1+k%8, 1+k%5)
		h := undone(t, begun(t, texts[0], ops...), c.next(len(ops)+1))
		op := c.opOn(h.Text, 1+c.next(6))
		next, ok := impl.OtherChange(h, op)
		if !ok {
			continue
		}
		heard++
		behind, told := overAll(h.Undo, op)
		text, fits := applyByHand(behind, texts[0])
		if all, n, ok := impl.UndoAll(next); all.Text != text || n != len(h.Undo) || !ok || !told || !fits {
			t.Fatalf("UndoAll(%s) = %q, %d, %v, but %q is heard of behind all", outset(next), all.Text, n, ok, text)
		}
		behind, told = overAll(h.Redo, op)
		text, fits = applyByHand(behind, texts[len(ops)])
		for range h.Redo {
			next, _ = impl.RedoChange(next)
		}
		if next.Text != text || len(next.Redo) != 0 || !told || !fits {
			t.Fatalf("all of %s are done again: %q, but %q is heard of behind all", outset(h), next.Text, text)
		}
	}
	if heard < 200 {
		t.Errorf("only %d were heard of", heard)
	}
}

// Another's change may come between any two of one's own.
func TestOwnChangesAmongOthers(t *testing.T) {
	h := begun(t, "one two three", []impl.Part{keep(4), drop("two"), put("2"), keep(6)})
	for _, x := range []struct {
		name string
		do   func(h impl.History) (impl.History, bool)
		want string
	}{
		{"others put ahead", func(h impl.History) (impl.History, bool) {
			return impl.OtherChange(h, []impl.Part{put("so "), keep(11)})
		}, "so one 2 three"},
		{"one puts behind", func(h impl.History) (impl.History, bool) {
			return impl.DoChange(h, []impl.Part{keep(14), put(" four")})
		}, "so one 2 three four"},
		{"others drop the first word", func(h impl.History) (impl.History, bool) {
			return impl.OtherChange(h, []impl.Part{keep(3), drop("one "), keep(12)})
		}, "so 2 three four"},
		{"the last is undone", impl.UndoChange, "so 2 three"},
		{"others drop what one has put", func(h impl.History) (impl.History, bool) {
			return impl.OtherChange(h, []impl.Part{keep(3), drop("2"), keep(6)})
		}, "so  three"},
		{"the first is undone", impl.UndoChange, "so two three"},
		{"others put within what comes back", func(h impl.History) (impl.History, bool) {
			return impl.OtherChange(h, []impl.Part{keep(4), put("A"), put("/"), keep(8)})
		}, "so tA/wo three"},
		{"the first is done again", impl.RedoChange, "so A/ three"},
		{"the last is done again", impl.RedoChange, "so A/ three four"},
	} {
		next, ok := x.do(h)
		if next.Text != x.want || !ok {
			t.Fatalf("%s: %v, %v, not %q", x.name, next, ok, x.want)
		}
		checkHistory(t, next)
		h = next
	}
}

// The document's words, one by one.
func TestHistoriesOneByOne(t *testing.T) {
	h := begun(t, "ab", []impl.Part{keep(1), put("x"), keep(1)})
	if want := (impl.History{Text: "axb", Undo: changesOf([]impl.Part{keep(1), drop("x"), keep(1)})}); !sameHistory(h, want) {
		t.Fatalf("%v, not %v", h, want)
	}
	h, ok := impl.DoChange(h, []impl.Part{drop("a"), put("y"), keep(2)})
	if want := (impl.History{Text: "yxb", Undo: changesOf([]impl.Part{keep(1), drop("x"), keep(1)}, []impl.Part{put("a"), drop("y"), keep(2)})}); !sameHistory(h, want) || !ok {
		t.Fatalf("%v, %v, not %v", h, ok, want)
	}
	h, ok = impl.UndoChange(h)
	if want := (impl.History{Text: "axb", Undo: changesOf([]impl.Part{keep(1), drop("x"), keep(1)}), Redo: changesOf([]impl.Part{put("y"), drop("a"), keep(2)})}); !sameHistory(h, want) || !ok {
		t.Fatalf("%v, %v, not %v", h, ok, want)
	}
	other, ok := impl.OtherChange(h, []impl.Part{put("z"), keep(2), put("w"), keep(1)})
	if want := (impl.History{Text: "zaxwb", Undo: changesOf([]impl.Part{keep(2), drop("x"), keep(2)}), Redo: changesOf([]impl.Part{put("y"), keep(1), drop("a"), keep(3)})}); !sameHistory(other, want) || !ok {
		t.Fatalf("%v, %v, not %v", other, ok, want)
	}
	back, ok := impl.UndoChange(other)
	if want := (impl.History{Text: "zawb", Redo: changesOf([]impl.Part{put("y"), keep(1), drop("a"), keep(3)}, []impl.Part{keep(2), put("x"), keep(2)})}); !sameHistory(back, want) || !ok {
		t.Fatalf("%v, %v, not %v", back, ok, want)
	}
	if none, ok := impl.UndoChange(back); !isZeroHistory(none) || ok {
		t.Errorf("nothing is left to undo, but %v, %v", none, ok)
	}
	// Redo is empty as soon as something is done.
	new, ok := impl.DoChange(back, []impl.Part{keep(4)})
	if want := (impl.History{Text: "zawb", Undo: changesOf([]impl.Part{keep(4)})}); !sameHistory(new, want) || !ok {
		t.Errorf("%v, %v, not %v", new, ok, want)
	}
	if none, ok := impl.RedoChange(new); !isZeroHistory(none) || ok {
		t.Errorf("nothing is left to be done again, but %v, %v", none, ok)
	}
}

// past is a text with changes to undo and changes to do again.
func past(s string, undo, redo []impl.Change) impl.History {
	return impl.History{Text: s, Undo: undo, Redo: redo}
}

// The last of Undo is told behind the change, the one ahead behind that change as
// it is behind the last; Redo by itself.
func TestOthersOneByOne(t *testing.T) {
	for _, x := range []struct {
		name   string
		h      impl.History
		op     []impl.Part
		want   impl.History
		undone string
		redone string
	}{
		{"nothing at all", past("", nil, nil), nil, past("", nil, nil), "", ""},
		{"nothing to undo", past("ab", nil, nil), []impl.Part{keep(1), put("y"), keep(1)}, past("ayb", nil, nil), "ayb", "ayb"},
		{"a change without parts", past("", changesOf([]impl.Part{put("x")}), changesOf(nil)), []impl.Part{}, past("", changesOf([]impl.Part{put("x")}), changesOf(nil)), "x", ""},
		{"a change that keeps all", past("ab", changesOf([]impl.Part{drop("a"), keep(1)}), changesOf([]impl.Part{keep(2), put("x")})), []impl.Part{keep(2)}, past("ab", changesOf([]impl.Part{drop("a"), keep(1)}), changesOf([]impl.Part{keep(2), put("x")})), "b", "abx"},
		{"one's own change keeps all", past("ab", changesOf([]impl.Part{keep(2)}), changesOf([]impl.Part{keep(1), keep(1)})), []impl.Part{put("y"), keep(1), drop("b")}, past("ya", changesOf([]impl.Part{keep(2)}), changesOf([]impl.Part{keep(2)})), "ya", "ya"},
		{"puts of both at one place: one's own stands ahead", past("ab", changesOf([]impl.Part{keep(1), put("x"), keep(1)}), changesOf([]impl.Part{keep(1), put("w"), keep(1)})), []impl.Part{keep(1), put("y"), keep(1)}, past("ayb", changesOf([]impl.Part{keep(1), put("x"), keep(2)}), changesOf([]impl.Part{keep(1), put("w"), keep(2)})), "axyb", "awyb"},
		{"the other puts within what one drops", past("abc", changesOf([]impl.Part{drop("abc")}), nil), []impl.Part{keep(1), put("y"), keep(2)}, past("aybc", changesOf([]impl.Part{drop("a"), keep(1), drop("bc")}), nil), "y", "aybc"},
		{"one puts within what the other drops", past("abc", changesOf([]impl.Part{keep(1), put("x"), keep(2)}), nil), []impl.Part{drop("abc")}, past("", changesOf([]impl.Part{put("x")}), nil), "x", ""},
		{"both drop the same", past("abc", changesOf([]impl.Part{drop("ab"), keep(1)}), changesOf([]impl.Part{keep(1), drop("bc")})), []impl.Part{keep(1), drop("b"), keep(1)}, past("ac", changesOf([]impl.Part{drop("a"), keep(1)}), changesOf([]impl.Part{keep(1), drop("c")})), "c", "a"},
		{"the last moves the change for the one ahead", past("ab", changesOf([]impl.Part{drop("x"), keep(1)}, []impl.Part{put("x"), keep(1), drop("b")}), nil), []impl.Part{put("y"), keep(2)}, past("yab", changesOf([]impl.Part{drop("x"), keep(2)}, []impl.Part{put("x"), keep(2), drop("b")}), nil), "ya", "yab"},
		{"two to undo", past("ab", changesOf([]impl.Part{keep(1), drop("x"), keep(1)}, []impl.Part{keep(1), put("x"), keep(1)}), nil), []impl.Part{put("y"), keep(1), put("z"), keep(1)}, past("yazb", changesOf([]impl.Part{keep(2), drop("x"), keep(2)}, []impl.Part{keep(2), put("x"), keep(2)}), nil), "yazb", "yazb"},
		{"two to undo, the last drops where the other puts", past("ab", changesOf([]impl.Part{put("ab")}, []impl.Part{drop("ab")}), nil), []impl.Part{keep(1), put("y"), keep(1)}, past("ayb", changesOf([]impl.Part{put("ab"), keep(1)}, []impl.Part{drop("a"), keep(1), drop("b")}), nil), "aby", "ayb"},
		{"two to do again", past("a", nil, changesOf([]impl.Part{keep(2), put("w")}, []impl.Part{put("x"), keep(1)})), []impl.Part{put("y"), keep(1)}, past("ya", nil, changesOf([]impl.Part{keep(3), put("w")}, []impl.Part{put("x"), keep(2)})), "ya", "xyaw"},
		{"changes that are not normal", past("ab", changesOf([]impl.Part{drop("a"), put("x"), drop("b"), put("x")}), nil), []impl.Part{keep(1), put("y"), put("z"), keep(1)}, past("ayzb", changesOf([]impl.Part{put("x"), drop("a"), keep(2), put("x"), drop("b")}), nil), "xyzx", "ayzb"},
	} {
		checkOther(t, x.h, x.op)
		got, ok := impl.OtherChange(x.h, x.op)
		if !sameHistory(got, x.want) || !ok {
			t.Errorf("%s: %v, %v, not %v", x.name, got, ok, x.want)
		}
		if all, n, ok := impl.UndoAll(got); all.Text != x.undone || n != len(x.h.Undo) || !ok {
			t.Errorf("%s: all is undone to %q, %d, %v, not %q, %d", x.name, all.Text, n, ok, x.undone, len(x.h.Undo))
		}
		for range x.h.Redo {
			got, _ = impl.RedoChange(got)
		}
		if got.Text != x.redone || len(got.Redo) != 0 {
			t.Errorf("%s: all is done again to %v, not %q", x.name, got, x.redone)
		}
	}
}

// The nil list and the empty list are the same value, of changes and of parts.
func TestEmptyListsOfHistories(t *testing.T) {
	for _, none := range [][]impl.Change{nil, {}, make([]impl.Change, 0, 5)} {
		for _, op := range [][]impl.Part{nil, {}, make([]impl.Part, 0, 5)} {
			for _, h := range []impl.History{past("", none, none), past("", changesOf(op), none), past("", none, changesOf(op, op)), past("", changesOf(op, op), changesOf(op))} {
				if !checkHistory(t, h) || !checkDone(t, h, op) || !checkOther(t, h, op) {
					t.Errorf("%v is not good", h)
				}
				if got, ok := impl.DoChange(h, op); len(got.Undo) != len(h.Undo)+1 || got.Text != "" || !ok {
					t.Errorf("DoChange(%v, %v) = %v, %v", h, op, got, ok)
				}
				zeroOfDone(t, past("a", none, none), op)
			}
		}
		if h, ok := impl.UndoChange(past("a", none, none)); !isZeroHistory(h) || ok {
			t.Errorf("UndoChange = %v, %v", h, ok)
		}
		if h, ok := impl.RedoChange(past("a", none, none)); !isZeroHistory(h) || ok {
			t.Errorf("RedoChange = %v, %v", h, ok)
		}
		if h, n, ok := impl.UndoAll(past("a", none, none)); !sameHistory(h, past("a", nil, nil)) || n != 0 || !ok {
			t.Errorf("UndoAll = %v, %d, %v", h, n, ok)
		}
	}
	// A change that keeps all, or has no parts, is one that was done.
	h := begun(t, "ab", []impl.Part{keep(2)}, []impl.Part{keep(1), keep(1)}, []impl.Part{drop("ab"), put("ab")})
	if want := past("ab", changesOf([]impl.Part{keep(2)}, []impl.Part{keep(2)}, []impl.Part{put("ab"), drop("ab")}), nil); !sameHistory(h, want) {
		t.Errorf("%v, not %v", h, want)
	}
	if all, n, ok := impl.UndoAll(h); all.Text != "ab" || n != 3 || !ok {
		t.Errorf("UndoAll(%v) = %v, %d, %v", h, all, n, ok)
	}
}

func TestTextsOfNewHistories(t *testing.T) {
	for _, s := range append([]string{"", "a", "/", "A", "/A", allBytes, longText(impl.MaxDoc)}, notTexts()...) {
		h, ok := impl.NewHistory(s)
		if ok != textIsGood(s) || len(h.Undo)+len(h.Redo) > 0 || ok && h.Text != s || !ok && h.Text != "" {
			t.Errorf("NewHistory(%.40q) = %s, %v", s, outset(h), ok)
		}
		if ok != impl.GoodHistory(impl.History{Text: s}) {
			t.Errorf("GoodHistory of %.40q alone is not %v", s, ok)
		}
		if ok {
			checkHistory(t, h)
			checkDone(t, h, []impl.Part{put("a"), drop(s)})
		}
	}
	for c := range 256 {
		s := string([]byte{byte(c)})
		if h, ok := impl.NewHistory(s); ok != textIsGood(s) || ok == isZeroHistory(h) {
			t.Errorf("NewHistory(%q) = %v, %v", s, h, ok)
		}
	}
}

// Chapter 14: MaxUndo changes, and one more: the first goes.
func TestMostChangesToUndo(t *testing.T) {
	h := begun(t, "")
	for k := range 2*impl.MaxUndo + 3 {
		op := []impl.Part{keep(k), put(plainBytes[k%len(plainBytes):][:1])}
		if k == 0 {
			op = op[1:]
		}
		if !checkDone(t, h, op) {
			t.Fatalf("%v is not done", op)
		}
		h, _ = impl.DoChange(h, op)
		many := min(k+1, impl.MaxUndo)
		if len(h.Undo) != many || len(h.Text) != k+1 {
			t.Fatalf("%d changes are done, %d can be undone: %s", k+1, len(h.Undo), outset(h))
		}
		all, n, ok := impl.UndoAll(h)
		if all.Text != h.Text[:k+1-many] || n != many || !ok || len(all.Undo) != 0 || len(all.Redo) != many {
			t.Fatalf("UndoAll of %d changes = %s, %d, %v", k+1, outset(all), n, ok)
		}
		checkHistory(t, h)
		checkHistory(t, all)
		if !checkOther(t, h, []impl.Part{put("y"), keep(k + 1)}) {
			t.Fatalf("another's change is not heard of behind %d", k+1)
		}
	}
}

// keepers are n changes that keep all of a text.
func keepers(s string, n int) []impl.Change {
	all, _ := impl.KeepAll(len(s))
	return changesOf(slices.Repeat([][]impl.Part{all}, n)...)
}

// Chapter 14: where a list is full nothing can be put behind it but by DoChange.
func TestFullLists(t *testing.T) {
	const most = impl.MaxUndo
	for _, s := range []string{"", "ab", longText(impl.MaxDoc)} {
		for _, x := range []struct {
			undo, redo           int
			good, undoes, redoes bool
			all                  int
		}{
			{most, 0, true, true, false, most}, {most, 1, true, true, false, most - 1}, {most - 1, 1, true, true, true, most - 1}, {most - 1, 2, true, true, true, most - 2}, {1, most - 1, true, true, true, 1}, {2, most - 1, true, true, true, 1}, {1, most, true, false, true, 0}, {0, most, true, false, true, 0}, {most, most, true, false, false, 0},
			{most + 1, 0, false, false, false, 0}, {0, most + 1, false, false, false, 0}, {most + 1, 1, false, false, false, 0}, {1, most + 1, false, false, false, 0}, {most + 1, most + 1, false, false, false, 0}, {300000, 0, false, false, false, 0}, {0, 300000, false, false, false, 0},
		} {
			h := past(s, keepers(s, x.undo), keepers(s, x.redo))
			if checkHistory(t, h) != x.good {
				t.Errorf("%d and %d changes: it is not %v", x.undo, x.redo, x.good)
			}
			if got, ok := impl.UndoChange(h); ok != x.undoes || ok && (len(got.Undo) != x.undo-1 || len(got.Redo) != x.redo+1) {
				t.Errorf("UndoChange of %d and %d changes: %d and %d, %v", x.undo, x.redo, len(got.Undo), len(got.Redo), ok)
			}
			if got, ok := impl.RedoChange(h); ok != x.redoes || ok && (len(got.Undo) != x.undo+1 || len(got.Redo) != x.redo-1) {
				t.Errorf("RedoChange of %d and %d changes: %d and %d, %v", x.undo, x.redo, len(got.Undo), len(got.Redo), ok)
			}
			if got, n, ok := impl.UndoAll(h); n != x.all || ok != x.good || ok && (got.Text != s || len(got.Undo) != x.undo-n || len(got.Redo) != x.redo+n) {
				t.Errorf("UndoAll of %d and %d changes: %d and %d, %d, %v", x.undo, x.redo, len(got.Undo), len(got.Redo), n, ok)
			}
			all, _ := impl.KeepAll(len(s))
			if checkDone(t, h, all) != x.good || checkOther(t, h, all) != x.good {
				t.Errorf("%d and %d changes: what is done or heard of is not %v", x.undo, x.redo, x.good)
			}
		}
	}
}

// Chapter 14: another's change with which one's own goes beyond a limit.
func TestLimitsOfOthers(t *testing.T) {
	full, half := longText(impl.MaxDoc), longText(impl.MaxDoc/2)
	wide := fence(impl.MaxParts, drop("aa"), keep(1))
	less := fence(impl.MaxParts-2, drop("aa"), keep(1))
	for _, x := range []struct {
		name string
		s    string
		mine []impl.Part
		op   []impl.Part
		ok   bool
	}{
		{"MaxParts parts, and as many behind the change", longText(90), wide, []impl.Part{keep(90)}, true},
		{"one more part is kept at the front", longText(90), wide, []impl.Part{put("y"), keep(90)}, false},
		{"two more parts within what is dropped", longText(90), wide, []impl.Part{keep(1), put("y"), keep(89)}, false},
		{"MaxParts parts behind the change", longText(87), less, []impl.Part{keep(1), put("y"), keep(86)}, true},
		{"one more than these", longText(87), less, []impl.Part{put("y"), keep(1), put("y"), keep(86)}, false},
		{"MaxParts parts in both", longText(60), fence(impl.MaxParts, keep(2), put("x")), fence(impl.MaxParts, keep(2), put("y")), false},
		{"MaxDoc bytes together", "", []impl.Part{put(half)}, []impl.Part{put(half)}, true},
		{"one more", "", []impl.Part{put(half)}, []impl.Part{put(half + "a")}, false},
		{"MaxDoc bytes put by the other", "", nil, []impl.Part{put(full)}, true},
		{"MaxDoc bytes put by both", "", []impl.Part{put(full)}, []impl.Part{put(full)}, false},
		{"MaxDoc bytes kept by one, dropped by the other", full, []impl.Part{keep(impl.MaxDoc)}, []impl.Part{drop(full)}, true},
		{"MaxDoc bytes dropped by both", full, []impl.Part{drop(full)}, []impl.Part{drop(full)}, true},
		{"MaxDoc bytes turned by one", full, []impl.Part{put(full), drop(full)}, []impl.Part{keep(impl.MaxDoc)}, true},
		{"MaxDoc bytes turned by one, a byte by the other", full, []impl.Part{put(full), drop(full)}, []impl.Part{put("y"), drop("a"), keep(impl.MaxDoc - 1)}, false},
		{"MaxDoc bytes dropped by one, turned by the other", full, []impl.Part{drop(full)}, []impl.Part{put(full), drop(full)}, true},
	} {
		none := keepers(x.s, 2)
		for _, h := range []impl.History{past(x.s, changesOf(x.mine), nil), past(x.s, nil, changesOf(x.mine)), past(x.s, changesOf(x.mine), none), past(x.s, none, changesOf(x.mine)), past(x.s, append(changesOf(x.mine), none...), none), past(x.s, none, append(changesOf(x.mine), none...)), past(x.s, changesOf(x.mine), changesOf(x.mine))} {
			if !checkHistory(t, h) {
				t.Fatalf("%s: %s is not good", x.name, outset(h))
			}
			if got, ok := impl.OtherChange(h, x.op); ok != x.ok || !ok && !isZeroHistory(got) {
				t.Errorf("%s: OtherChange(%s) = %s, %v", x.name, outset(h), outset(got), ok)
			}
			checkOther(t, h, x.op)
			checkDone(t, h, x.op)
		}
	}
}

// What was undone may be too much to be told behind a change that is heard of
// later, though what was to be undone is not.
func TestOthersRefusedForWhatWasUndone(t *testing.T) {
	full := longText(impl.MaxDoc)
	h := past(full, changesOf([]impl.Part{drop(full)}), nil)
	heard, ok := impl.OtherChange(h, []impl.Part{put(full), drop(full)})
	if want := past(full, changesOf([]impl.Part{keep(impl.MaxDoc)}), nil); !sameHistory(heard, want) || !ok {
		t.Errorf("%s, %v", outset(heard), ok)
	}
	back := undone(t, h, 1)
	if got, ok := impl.OtherChange(back, []impl.Part{put(full)}); !isZeroHistory(got) || ok {
		t.Errorf("%s, %v", outset(got), ok)
	}
	checkOther(t, back, []impl.Part{put(full)})
}

// Texts at both ends of what may be, and all changes at the limits.
func TestHistoriesAtTheLimits(t *testing.T) {
	for _, mine := range edgeOps() {
		s := madeText(mine, "aF/")
		if !textIsGood(s) {
			continue
		}
		for _, h := range []impl.History{past(s, changesOf(mine), nil), past(s, nil, changesOf(mine)), past(s, changesOf(mine), changesOf(mine))} {
			if !checkHistory(t, h) || !checkDone(t, h, mine) {
				t.Errorf("%s is not good", outset(h))
			}
			for _, op := range edgeOps() {
				checkDone(t, h, op)
				checkOther(t, h, op)
			}
		}
	}
	c := &chooser{143}
	full := c.text(impl.MaxDoc)
	for k := range 100 {
		h := begun(t, full, c.opOn(full, 1+k%impl.MaxParts))
		checkHistory(t, h)
		checkDone(t, h, c.opOn(h.Text, impl.MaxParts))
		checkOther(t, h, c.opOn(h.Text, impl.MaxParts))
	}
}

func zeroOfDone(t *testing.T, h impl.History, op []impl.Part) {
	t.Helper()
	if got, ok := impl.DoChange(h, op); !isZeroHistory(got) || ok {
		t.Errorf("DoChange(%s, %s) = %s, %v", outset(h), outset(op), outset(got), ok)
	}
	if got, ok := impl.OtherChange(h, op); !isZeroHistory(got) || ok {
		t.Errorf("OtherChange(%s, %s) = %s, %v", outset(h), outset(op), outset(got), ok)
	}
}

// zeroOfHistory is of a history that is not good.
func zeroOfHistory(t *testing.T, name string, h impl.History) {
	t.Helper()
	if impl.GoodHistory(h) || historyIsGood(h) {
		t.Errorf("%s: it is good", name)
	}
	if got, ok := impl.UndoChange(h); !isZeroHistory(got) || ok {
		t.Errorf("%s: UndoChange = %s, %v", name, outset(got), ok)
	}
	if got, ok := impl.RedoChange(h); !isZeroHistory(got) || ok {
		t.Errorf("%s: RedoChange = %s, %v", name, outset(got), ok)
	}
	if got, n, ok := impl.UndoAll(h); !isZeroHistory(got) || n != 0 || ok {
		t.Errorf("%s: UndoAll = %s, %d, %v", name, outset(got), n, ok)
	}
	all, _ := impl.KeepAll(min(len(h.Text), impl.MaxDoc))
	for _, op := range [][]impl.Part{nil, all, {put("a")}, {drop(h.Text)}, {put("a"), drop(h.Text)}} {
		zeroOfDone(t, h, op)
	}
}

// wrongHistories are not good, each in one way that the document names.
func wrongHistories() map[string]impl.History {
	good, other := []impl.Part{keep(1), drop("b")}, []impl.Part{drop("a"), keep(1)}
	behind := []impl.Part{drop("a")}
	out := map[string]impl.History{
		"the last does not fit: another byte":       past("ab", changesOf([]impl.Part{keep(1), drop("a")}), nil),
		"the last does not fit: too few bytes":      past("ab", changesOf([]impl.Part{keep(1)}), nil),
		"the last does not fit: too many bytes":     past("ab", changesOf([]impl.Part{keep(3)}), nil),
		"the last does not fit: no parts":           past("ab", changesOf(nil), nil),
		"the one ahead does not fit what is made":   past("ab", changesOf(good, good), nil),
		"the one ahead fits the text alone":         past("ab", changesOf(other, good), nil),
		"in the wrong order":                        past("ab", changesOf(good, behind), nil),
		"the first of three does not fit":           past("ab", changesOf([]impl.Part{keep(1)}, behind, good), nil),
		"Undo fits what Redo makes":                 past("ab", changesOf(behind), changesOf(good)),
		"Redo fits what Undo makes":                 past("ab", changesOf(good), changesOf(behind)),
		"a change that would make too much":         past(longText(299), changesOf([]impl.Part{keep(299), put("aa")}), nil),
		"a change that would make too much, later":  past(longText(299), changesOf([]impl.Part{keep(300), put("a")}, []impl.Part{keep(299), put("a")}), nil),
		"one that takes too much":                   past(longText(300), changesOf([]impl.Part{keep(300), drop("a")}), nil),
		"very many that fit":                        past("ab", keepers("ab", 300000), nil),
		"a text beyond all measure":                 {Text: longText(3000000)},
		"a text of one byte too many with changes":  past(longText(301), changesOf([]impl.Part{drop(longText(300)), drop("a")}), nil),
		"a text that is not good where all is gone": past("-", changesOf([]impl.Part{drop("-")}), nil),
		"a text that is not good which is kept":     past("-", changesOf([]impl.Part{keep(1)}), changesOf([]impl.Part{keep(1)})),
		"the first is not good, the last is":        past("", changesOf([]impl.Part{{}}, nil), nil),
	}
	turned := map[string]impl.History{}
	for name, h := range out {
		turned[name+" (the other way round)"] = past(h.Text, h.Redo, h.Undo)
	}
	maps.Copy(out, turned)
	return out
}

// Promise 20: histories that are not good have the zero answer of each function.
func TestWrongHistoriesHaveTheZeroAnswer(t *testing.T) {
	for name, h := range wrongHistories() {
		before := cloneOfHistory(h)
		zeroOfHistory(t, name, h)
		if !sameHistory(h, before) {
			t.Errorf("%s: it was changed", name)
		}
	}
	for _, s := range notTexts() {
		for _, h := range []impl.History{past(s, nil, nil), past(s, changesOf([]impl.Part{keep(min(len(s), impl.MaxDoc))}), nil), past(s, nil, changesOf([]impl.Part{drop(s)}))} {
			zeroOfHistory(t, outset(h), h)
		}
	}
}

// Promise 20: a change that is not good, at each place of a history, and handed in.
func TestWrongChangesOfHistoriesHaveTheZeroAnswer(t *testing.T) {
	for number, op := range notOps() {
		name := fmt.Sprintf("the change %d", number)
		s := ""
		if len(op) <= impl.MaxParts {
			for _, p := range op {
				s += p.Drop + longText(min(max(p.Keep, 0), impl.MaxDoc))
			}
		}
		if !textIsGood(s) {
			s = "ab"
		}
		none := keepers(s, 1)
		for _, h := range []impl.History{past(s, changesOf(op), nil), past(s, nil, changesOf(op)), past(s, append(changesOf(op), none...), nil), past(s, append(slices.Clone(none), changesOf(op)...), none), past(s, none, append(changesOf(op), none...)), past(s, changesOf(op), changesOf(op))} {
			zeroOfHistory(t, name, h)
		}
		for _, h := range []impl.History{past(s, nil, nil), past(s, none, none), past(s, keepers(s, impl.MaxUndo), keepers(s, impl.MaxUndo))} {
			zeroOfDone(t, h, op)
		}
	}
}

// Promise 20: a good change that does not fit is neither done nor heard of.
func TestChangesThatDoNotFitHistories(t *testing.T) {
	for _, x := range []struct {
		s  string
		op []impl.Part
	}{
		{"", []impl.Part{keep(1)}}, {"", []impl.Part{drop("a")}}, {"a", nil}, {"a", []impl.Part{put("a")}}, {"a", []impl.Part{keep(2)}}, {"ab", []impl.Part{keep(1)}}, {"ab", []impl.Part{drop("ba")}}, {"ab", []impl.Part{drop("b"), keep(1)}}, {"ab", []impl.Part{keep(1), drop("a")}}, {"ab", []impl.Part{keep(1), drop("bc")}}, {"ab", []impl.Part{drop("ab"), keep(1)}}, {longText(300), []impl.Part{keep(299)}}, {longText(300), []impl.Part{drop(longText(299)), drop("b")}}, {longText(299), []impl.Part{keep(300)}},
	} {
		none := keepers(x.s, 1)
		for _, h := range []impl.History{past(x.s, nil, nil), past(x.s, none, nil), past(x.s, nil, none), past(x.s, none, none), past(x.s, keepers(x.s, impl.MaxUndo), nil)} {
			if !checkHistory(t, h) {
				t.Fatalf("%s is not good", outset(h))
			}
			zeroOfDone(t, h, x.op)
		}
	}
}

// Promise 20: all pairs and threes of small changes, in both lists.
func TestAllShortListsOfChanges(t *testing.T) {
	ops := opsOf(2, keep(1), keep(2), put("a"), drop("a"), drop("ab"), impl.Part{})
	good, not := 0, 0
	see := func(h impl.History) {
		want := historyIsGood(h)
		if impl.GoodHistory(h) != want {
			t.Fatalf("GoodHistory(%v) is not %v", h, want)
		}
		if !want {
			not++
			return
		}
		checkHistory(t, h)
		good++
	}
	for _, s := range []string{"", "a", "ab"} {
		for _, a := range ops {
			for _, b := range ops {
				see(past(s, changesOf(a, b), nil))
				see(past(s, nil, changesOf(a, b)))
				see(past(s, changesOf(a), changesOf(b)))
				see(past(s, changesOf(b, a, a), changesOf(b, a)))
			}
		}
	}
	if good < 300 || not < 5000 {
		t.Errorf("%d are good, %d not", good, not)
	}
}

// stretch is memory, from its first byte to the one behind its last.
type stretch struct{ from, to uintptr }

func (x stretch) meets(y stretch) bool { return x.from < y.to && y.from < x.to }

// stretchOf is of all memory that a list has, also behind its length.
func stretchOf[T any](l []T) stretch {
	var one T
	from := uintptr(unsafe.Pointer(unsafe.SliceData(l)))
	return stretch{from, from + uintptr(cap(l))*unsafe.Sizeof(one)}
}

func stretchOfText(s string) stretch {
	from := uintptr(unsafe.Pointer(unsafe.StringData(s)))
	return stretch{from, from + uintptr(len(s))}
}

func stretchesOfOp(op []impl.Part) []stretch {
	out := []stretch{stretchOf(op)}
	for _, p := range op {
		out = append(out, stretchOfText(p.Put), stretchOfText(p.Drop))
	}
	return out
}

// stretchesOf is all memory of a history, without such as has no byte.
func stretchesOf(h impl.History) []stretch {
	out := []stretch{stretchOfText(h.Text), stretchOf(h.Undo), stretchOf(h.Redo)}
	for _, c := range slices.Concat(h.Undo, h.Redo) {
		out = append(out, stretchesOfOp(c.Op)...)
	}
	return slices.DeleteFunc(out, func(x stretch) bool { return x.from == x.to })
}

func anyMeet(a, b []stretch) bool {
	return slices.ContainsFunc(a, func(x stretch) bool { return slices.ContainsFunc(b, x.meets) })
}

// answersOfHistory are all histories that are answered of one and a change.
func answersOfHistory(h impl.History, op []impl.Part) []impl.History {
	first, _ := impl.NewHistory(h.Text)
	done, _ := impl.DoChange(h, op)
	back, _ := impl.UndoChange(h)
	again, _ := impl.RedoChange(h)
	other, _ := impl.OtherChange(h, op)
	all, _, _ := impl.UndoAll(h)
	return []impl.History{first, done, back, again, other, all}
}

// longHistories are such as have texts of two bytes or more alone: a text of one
// byte may lie in memory that all such texts share. Each comes with a change that
// fits.
func longHistories(t *testing.T, f func(h impl.History, op []impl.Part)) {
	t.Helper()
	ops := [][]impl.Part{{keep(20), put("xyxyxy"), keep(40)}, {drop("ababab"), keep(60)}, {put("zwzwzw"), keep(20), drop("abab"), keep(36)}, {keep(62)}, {keep(30), put("vvvv"), drop("abab"), keep(28)}}
	for n := range len(ops) + 1 {
		h := begun(t, strings.Repeat("ab", 30), ops[:n]...)
		for k := range n + 1 {
			x := undone(t, h, k)
			size := len(x.Text)
			for _, op := range [][]impl.Part{{keep(size)}, {keep(10), put("uuuu"), keep(size - 10)}, {drop(x.Text), put("tttt")}, {drop(x.Text[:9])}} {
				if takes, _, _ := impl.SizesOf(op); takes < size {
					op = append(op, keep(size-takes))
				}
				f(x, op)
			}
		}
		f(past(h.Text, keepers(h.Text, impl.MaxUndo), nil), []impl.Part{keep(len(h.Text)), put("ssss")})
		f(past(h.Text, nil, keepers(h.Text, impl.MaxUndo)), []impl.Part{keep(len(h.Text)), put("ssss")})
		f(past(h.Text, keepers(h.Text, impl.MaxUndo), keepers(h.Text, impl.MaxUndo)), []impl.Part{put("ssss"), drop(h.Text)})
	}
}

// Promise 20: the answers share no memory with what was handed in, nor with one
// another, and no two lists or texts of one answer share any.
func TestHistoriesAreNewMemory(t *testing.T) {
	many := 0
	longHistories(t, func(h impl.History, op []impl.Part) {
		given := append(stretchesOf(h), stretchesOfOp(op)...)
		var ahead []stretch
		for i, a := range answersOfHistory(h, op) {
			l := stretchesOf(a)
			if anyMeet(l, given) {
				t.Fatalf("the answer %d of %s lies in the memory of what was handed in", i, outset(h))
			}
			if anyMeet(l, ahead) {
				t.Fatalf("the answer %d of %s lies in the memory of another one", i, outset(h))
			}
			for k, x := range l {
				if slices.ContainsFunc(l[:k], x.meets) {
					t.Fatalf("two lists or texts of the answer %d of %s lie in one memory: %s", i, outset(h), outset(a))
				}
			}
			ahead = append(ahead, l...)
			many += len(l)
		}
	})
	if many < 3000 {
		t.Errorf("only %d lists and texts were looked at", many)
	}
}

// withRoom has things behind the length of each list, which must stay there.
func withRoom(h impl.History) impl.History {
	room := func(l []impl.Change) []impl.Change {
		var out []impl.Change
		for _, c := range l {
			op := append(slices.Clone(c.Op), keep(1), put("behind"))
			out = append(out, impl.Change{Op: op[:len(c.Op)]})
		}
		out = append(out, changesOf([]impl.Part{keep(7)}, []impl.Part{put("behind")})...)
		return out[:len(l)]
	}
	return impl.History{Text: h.Text, Undo: room(h.Undo), Redo: room(h.Redo)}
}

// wholly is a history with all that lies behind the length of each list.
func wholly(h impl.History) impl.History {
	all := func(l []impl.Change) []impl.Change {
		var out []impl.Change
		for _, c := range l[:cap(l)] {
			out = append(out, impl.Change{Op: slices.Clone(c.Op[:cap(c.Op)])})
		}
		return out
	}
	return impl.History{Text: h.Text, Undo: all(h.Undo), Redo: all(h.Redo)}
}

// wipe writes into all memory of a history that can be written.
func wipe(h impl.History) {
	for _, l := range [][]impl.Change{h.Undo, h.Redo} {
		for _, c := range l {
			clear(c.Op[:cap(c.Op)])
		}
		clear(l[:cap(l)])
	}
}

// hasBehind tells whether anything lies behind the length of a list.
func hasBehind(h impl.History) bool {
	for _, l := range [][]impl.Change{h.Undo, h.Redo} {
		for _, c := range l[len(l):cap(l)] {
			if c.Op != nil {
				return true
			}
		}
		for _, c := range l {
			if slices.ContainsFunc(c.Op[len(c.Op):cap(c.Op)], func(p impl.Part) bool { return p != impl.Part{} }) {
				return true
			}
		}
	}
	return false
}

// Promise 20: nothing is written into a history or a change, nor behind a length,
// nor read or handed out from there.
func TestHistoriesStayAsTheyWere(t *testing.T) {
	see := func(h impl.History, op []impl.Part) {
		t.Helper()
		given := withRoom(h)
		before := wholly(given)
		changed := append(slices.Clone(op), keep(1), put("behind"))
		was := slices.Clone(changed)
		if impl.GoodHistory(given) != historyIsGood(h) {
			t.Fatalf("GoodHistory(%s) is not %v: what lies behind is read", outset(h), historyIsGood(h))
		}
		want := answersOfHistory(h, op)
		for i, a := range answersOfHistory(given, changed[:len(op)]) {
			if !sameHistory(a, want[i]) {
				t.Fatalf("the answer %d of %s is %s: what lies behind is read", i, outset(h), outset(a))
			}
			if hasBehind(a) {
				t.Fatalf("the answer %d of %s is %s, and something lies behind", i, outset(h), outset(a))
			}
			wipe(a)
		}
		if !sameHistory(wholly(given), before) || !slices.Equal(changed, was) {
			t.Fatalf("%s or %s was changed", outset(h), outset(op))
		}
	}
	longHistories(t, see)
	for _, h := range wrongHistories() {
		if len(h.Undo) < 100 && len(h.Redo) < 100 && len(h.Text) <= impl.MaxDoc {
			see(h, []impl.Part{put("a"), drop(h.Text)})
			see(h, nil)
		}
	}
	eachHistory(t, []string{"", "ab"}, 2, func(h impl.History) {
		for _, op := range fewOps(h.Text, "y") {
			see(h, op)
		}
	})
}

// An answer is the same, whatever was asked and refused ahead of it.
func TestHistoriesAreToldAnew(t *testing.T) {
	for range 3 {
		h := begun(t, "ab", []impl.Part{keep(1), put("x"), keep(1)}, []impl.Part{drop("ax"), keep(1)})
		if want := past("b", changesOf([]impl.Part{keep(1), drop("x"), keep(1)}, []impl.Part{put("ax"), keep(1)}), nil); !sameHistory(h, want) {
			t.Fatalf("%v, not %v", h, want)
		}
		zeroOfDone(t, h, []impl.Part{keep(2)})
		back, _ := impl.UndoChange(h)
		wipe(h)
		zeroOfHistory(t, "what was wiped", past("ab", h.Undo, nil))
		if want := past("axb", changesOf([]impl.Part{keep(1), drop("x"), keep(1)}), changesOf([]impl.Part{drop("ax"), keep(1)})); !sameHistory(back, want) {
			t.Fatalf("%v, not %v", back, want)
		}
	}
}

// Histories of as many changes as there may be, each of as many parts, are
// answered in a moment, and such of very many more are refused in one.
func TestGreatestHistoriesInAMoment(t *testing.T) {
	full := longText(impl.MaxDoc)
	wide := fence(impl.MaxParts, keep(5), keep(5))
	most := changesOf(slices.Repeat([][]impl.Part{wide}, impl.MaxUndo)...)
	broad := changesOf(fence(300000, keep(1), put("x")))
	for _, h := range []impl.History{past(full, most, nil), past(full, nil, most), past(full, most, most), past(full, keepers(full, 300000), nil), past(full, nil, broad), past(longText(3000000), most, most)} {
		start := time.Now()
		for range 20 {
			impl.GoodHistory(h)
			answersOfHistory(h, wide)
			answersOfHistory(h, broad[0].Op)
		}
		if took := time.Since(start); took > 5*time.Second {
			t.Errorf("%d and %d changes took %v", len(h.Undo), len(h.Redo), took)
		}
	}
}

// FuzzHistories: no argument makes one of the seven functions panic, or tell another thing than the document says.
func FuzzHistories(f *testing.F) {
	f.Add("ab", uint32(1), 1, "", "", 0, "x", "", 0, "", "b")
	f.Add(longText(300), uint32(9), 300, "", "", 0, longText(300), "", 0, "", longText(300))
	f.Add("", uint32(3), -1, "a", "b", 1<<62, "", "", 0, "\xff", "-")
	f.Fuzz(func(t *testing.T, s string, seed uint32, k1 int, p1, d1 string, k2 int, p2, d2 string, k3 int, p3, d3 string) {
		if h, ok := impl.NewHistory(s); ok != textIsGood(s) || !ok && !isZeroHistory(h) {
			t.Fatalf("NewHistory(%q) = %v, %v", s, h, ok)
		}
		ops := opsOf(2, impl.Part{Keep: k1, Put: p1, Drop: d1}, impl.Part{Keep: k2, Put: p2, Drop: d2}, impl.Part{Keep: k3, Put: p3, Drop: d3})
		for i, a := range ops {
			for k, b := range ops {
				h := past(s, changesOf(a, b), changesOf(ops[(i+k)%len(ops)]))
				checkHistory(t, h)
				checkDone(t, h, a)
				checkOther(t, h, a)
				checkDone(t, past(s, changesOf(a), nil), b)
				checkOther(t, past(s, changesOf(a), changesOf(b)), b)
			}
		}
		if !textIsGood(s) {
			return
		}
		c := &chooser{seed}
		x := wandering{h: begun(t, s)}
		for range 20 {
			x.step(t, c, 1+int(seed%impl.MaxParts))
		}
	})
}
