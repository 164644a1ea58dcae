package tests

import (
	"fmt"
	"math"
	"slices"
	"strings"
	"testing"

	"loop.example/g00253/impl"
)

const mostCommands = 40
const mostPartsOfCommands = 5

var anything = rulesOf("-", ".*", "A", ".*", "B", ".*", "C", ".*", "D", ".*", "E", ".*", "F", ".*")

func insert(at int, text string) impl.Command {
	return impl.Command{Kind: impl.CmdInsert, At: at, Text: text}
}
func remove(at, to int) impl.Command { return impl.Command{Kind: impl.CmdRemove, At: at, To: to} }
func wrap(at, to int, name string) impl.Command {
	return impl.Command{Kind: impl.CmdWrap, At: at, To: to, Text: name}
}
func unwrap(at int) impl.Command   { return impl.Command{Kind: impl.CmdUnwrap, At: at} }
func split(at int) impl.Command    { return impl.Command{Kind: impl.CmdSplit, At: at} }
func join(at int) impl.Command     { return impl.Command{Kind: impl.CmdJoin, At: at} }
func move(at, to int) impl.Command { return impl.Command{Kind: impl.CmdMove, At: at, To: to} }
func rename(at int, name string) impl.Command {
	return impl.Command{Kind: impl.CmdName, At: at, Text: name}
}

// brief tells commands so that they can be read, however long their texts are.
func brief(cs ...impl.Command) string {
	out := ""
	for _, c := range cs {
		out += fmt.Sprintf("{%d %d %d %.40q}", c.Kind, c.At, c.To, c.Text)
	}
	return out
}

func nameIsGood(name string) bool {
	return len(name) == 1 && strings.Contains(namesOfElements, name)
}

// sheet is a document with what a command does to it: what is put ahead of each
// place, and which bytes go.
type sheet struct {
	puts [impl.MaxDoc + 1]string
	gone [impl.MaxDoc]bool
}

func (x *sheet) drop(from, to int) {
	for at := from; at < to; at++ {
		x.gone[at] = true
	}
}

func (x *sheet) text(s string) string {
	out := ""
	for at := range len(s) {
		out += x.puts[at]
		if !x.gone[at] {
			out += s[at : at+1]
		}
	}
	return out + x.puts[len(s)]
}

// change is normal, but need not be good.
func (x *sheet) change(s string) []impl.Part {
	var out []impl.Part
	for at := range len(s) + 1 {
		if x.puts[at] != "" {
			out = append(out, put(x.puts[at]))
		}
		if at < len(s) && x.gone[at] {
			out = append(out, drop(s[at:at+1]))
		} else if at < len(s) {
			out = append(out, keep(1))
		}
	}
	return normalByHand(out)
}

// elementAt is the element that begins at a place.
func elementAt(l []span, at int) (span, bool) {
	k := slices.IndexFunc(l, func(e span) bool { return e.begin == at })
	if k < 0 {
		return span{}, false
	}
	return l[k], true
}

// elementAround is the shortest of the elements around a place.
func elementAround(l []span, at int) (span, bool) {
	out, found := span{}, false
	for _, e := range l {
		if e.begin < at && at <= e.end && (!found || e.end-e.begin < out.end-out.begin) {
			out, found = e, true
		}
	}
	return out, found
}

// isWhole tells whether no element lies in a stretch with but one of its ends.
func isWhole(l []span, from, to int) bool {
	return from <= to && !slices.ContainsFunc(l, func(e span) bool {
		return (from <= e.begin && e.begin < to) != (from <= e.end && e.end < to)
	})
}

// sheetOf asks for what chapter 8 says of each command, one by one.
func sheetOf(s string, l []span, c impl.Command) (*sheet, bool) {
	x := &sheet{}
	e, begins := elementAt(l, c.At)
	switch c.Kind {
	case impl.CmdInsert:
		x.puts[c.At] = c.Text
		return x, c.Text != "" && textIsGood(c.Text)
	case impl.CmdRemove:
		x.drop(c.At, c.To)
		return x, c.At < c.To && isWhole(l, c.At, c.To)
	case impl.CmdWrap:
		x.puts[c.At] = c.Text
		x.puts[c.To] += "/"
		return x, isWhole(l, c.At, c.To) && nameIsGood(c.Text)
	case impl.CmdUnwrap:
		x.drop(e.begin, e.begin+1)
		x.drop(e.end, e.end+1)
		return x, begins
	case impl.CmdSplit:
		outer, ok := elementAround(l, c.At)
		if ok {
			x.puts[c.At] = "/" + s[outer.begin:outer.begin+1]
		}
		return x, ok
	case impl.CmdJoin:
		k := slices.IndexFunc(l, func(e span) bool { return e.end == c.At-1 })
		if k < 0 || !begins || s[l[k].begin] != s[c.At] {
			return x, false
		}
		x.drop(c.At-1, c.At+1)
		return x, true
	case impl.CmdMove:
		if !begins || e.begin <= c.To && c.To <= e.end+1 {
			return x, false
		}
		x.drop(e.begin, e.end+1)
		x.puts[c.To] = s[e.begin : e.end+1]
		return x, true
	case impl.CmdName:
		x.puts[c.At] = c.Text
		x.drop(c.At, c.At+1)
		return x, begins && nameIsGood(c.Text) && s[c.At:c.At+1] != c.Text
	}
	return x, false
}

func doneByHand(s string, c impl.Command) (*sheet, string, bool) {
	l, ok := spansOf(s)
	if !ok || min(c.At, c.To) < 0 || max(c.At, c.To) > len(s) {
		return nil, "", false
	}
	x, ok := sheetOf(s, l, c)
	if !ok {
		return nil, "", false
	}
	text := x.text(s)
	if _, isDoc := spansOf(text); !isDoc {
		return nil, "", false
	}
	return x, text, true
}

// reachByHand tries the longest beginning first, then the longest end.
func reachByHand(a, b string) (int, int) {
	begin := min(len(a), len(b))
	for a[:begin] != b[:begin] {
		begin--
	}
	end := min(len(a), len(b)) - begin
	for a[len(a)-end:] != b[len(b)-end:] {
		end--
	}
	return begin, end
}

func isRightByHand(m matchers, l []impl.Rule, s string) bool {
	code, _ := checkByHand(m, l, s)
	return code == impl.SchemaOk
}

func legalByHand(m matchers, l []impl.Rule, s string, c impl.Command) (bool, bool) {
	if !isRightByHand(m, l, s) {
		return false, false
	}
	_, text, ok := doneByHand(s, c)
	return ok && isRightByHand(m, l, text), true
}

func playByHand(m matchers, l []impl.Rule, s string, cs []impl.Command) (string, int, bool) {
	if len(cs) > mostCommands || !isRightByHand(m, l, s) {
		return "", 0, false
	}
	n := 0
	for _, c := range cs {
		if legal, _ := legalByHand(m, l, s, c); legal {
			_, s, _ = doneByHand(s, c)
			n++
		}
	}
	return s, n, true
}

// checkCommand holds the three functions that know no schema against what is
// done by hand.
func checkCommand(t *testing.T, s string, c impl.Command) bool {
	t.Helper()
	x, want, can := doneByHand(s, c)
	if got, ok := impl.DoCommand(s, c); got != want || ok != can {
		t.Fatalf("DoCommand(%.400q, %s) = %q, %v, not %q, %v", s, brief(c), got, ok, want, can)
	}
	op, ok := impl.CompileCommand(s, c)
	begin, end, told := impl.ReachOf(s, c)
	if !can {
		if op != nil || ok || begin != 0 || end != 0 || told {
			t.Fatalf("CompileCommand and ReachOf of %.400q, %s: %v, %v; %d, %d, %v", s, brief(c), op, ok, begin, end, told)
		}
		return false
	}
	change := x.change(s)
	if !slices.Equal(op, change) || !ok || !opIsGood(op) || !isNormal(op) {
		t.Fatalf("CompileCommand(%q, %s) = %v, %v, not %v", s, brief(c), op, ok, change)
	}
	if got, fits := impl.ApplyOp(op, s); got != want || !fits {
		t.Fatalf("CompileCommand(%q, %s) = %v, which makes %q, %v, not %q", s, brief(c), op, got, fits, want)
	}
	if b, e := reachByHand(s, want); begin != b || end != e || !told {
		t.Fatalf("ReachOf(%q, %s) = %d, %d, %v, not %d, %d", s, brief(c), begin, end, told, b, e)
	}
	return true
}

func checkLegal(t *testing.T, m matchers, l []impl.Rule, s string, c impl.Command) bool {
	t.Helper()
	want, told := legalByHand(m, l, s, c)
	got, ok := impl.LegalCommand(l, s, c)
	if got != want || ok != told {
		t.Fatalf("LegalCommand(%.400q, %.400q, %s) = %v, %v, not %v, %v", l, s, brief(c), got, ok, want, told)
	}
	return got
}

func checkPlay(t *testing.T, m matchers, l []impl.Rule, s string, cs []impl.Command) int {
	t.Helper()
	want, many, told := playByHand(m, l, s, cs)
	got, n, ok := impl.PlayCommands(l, s, cs)
	if got != want || n != many || ok != told {
		t.Fatalf("PlayCommands(%.400q, %.400q, %s) = %q, %d, %v, not %q, %d, %v", l, s, brief(cs...), got, n, ok, want, many, told)
	}
	if code, at := impl.CheckDoc(l, got); ok && code != impl.SchemaOk {
		t.Fatalf("PlayCommands(%q, %q, %s) = %q, which is not right: %d, %d", l, s, brief(cs...), got, code, at)
	}
	return n
}

// eachCommand has all commands at all places of a document, and one place
// beyond; what a kind does not ask for is filled in by turns.
func eachCommand(s string, texts []string, f func(c impl.Command)) {
	turn := 0
	filled := func() string {
		turn++
		return texts[turn%len(texts)]
	}
	for at := -1; at <= len(s)+1; at++ {
		for to := -1; to <= len(s)+1; to++ {
			for _, kind := range []int{impl.CmdRemove, impl.CmdMove} {
				f(impl.Command{Kind: kind, At: at, To: to, Text: filled()})
			}
			for _, text := range texts {
				f(wrap(at, to, text))
			}
			for _, kind := range []int{0, impl.CmdUnwrap, impl.CmdSplit, impl.CmdJoin, 9} {
				f(impl.Command{Kind: kind, At: at, To: to, Text: filled()})
			}
		}
		for _, text := range texts {
			f(insert(at, text))
			f(rename(at, text))
		}
	}
}

// commandOn is a command that can be done most often.
func (c *chooser) commandOn(s string) impl.Command {
	name := namesOfElements[c.next(6):][:1]
	at, to := c.next(len(s)+1), c.next(len(s)+1)
	kind := 1 + c.next(8)
	begins := beginsByHand(s)
	if len(begins) > 0 && kind != impl.CmdInsert && c.next(4) > 0 {
		at = begins[c.next(len(begins))]
	}
	switch kind {
	case impl.CmdInsert:
		return insert(at, []string{"a", "x y", name + "/", name + "b/", "/" + name, "a/" + name + "b"}[c.next(6)])
	case impl.CmdRemove, impl.CmdWrap:
		l, _ := spansOf(s)
		if e, ok := elementAt(l, at); ok && c.next(2) == 0 {
			to = e.end + 1
		} else if c.next(2) == 0 {
			to = min(at+c.next(4), len(s))
		}
	case impl.CmdSplit:
		at = min(at+c.next(3), len(s))
	}
	return impl.Command{Kind: kind, At: at, To: to, Text: name}
}

func smallDocs(alphabet string, n int) []string {
	return slices.DeleteFunc(allTexts(alphabet, n), func(s string) bool {
		_, ok := spansOf(s)
		return !ok
	})
}

// Promise 8: of all commands at all places of small documents each does what
// is said of it, and its change does the same.
func TestCommandsAsSaid(t *testing.T) {
	texts := []string{"", "A", "B", "a", "/A", "A/", "AB", "G"}
	var can, not [10]int
	for _, s := range smallDocs("AB/a", 5) {
		eachCommand(s, texts, func(c impl.Command) {
			if checkCommand(t, s, c) {
				can[c.Kind]++
			} else {
				not[c.Kind]++
			}
		})
	}
	if slices.Min(can[1:9]) < 10 || can[0]+can[9] > 0 || slices.Min(not[:]) < 100 {
		t.Errorf("can be done: %v, not: %v", can, not)
	}
}

func TestCommandsOfLongDocuments(t *testing.T) {
	c := &chooser{81}
	var can [9]int
	most := 0
	for _, s := range append(someDocs(), edgeDocs()...) {
		for range 150 {
			x := c.commandOn(s)
			if checkCommand(t, s, x) {
				can[x.Kind]++
				op, _ := impl.CompileCommand(s, x)
				most = max(most, len(op))
			}
		}
	}
	if slices.Min(can[1:]) < 20 {
		t.Errorf("can be done: %v", can)
	}
	// No command needs so many parts that its change could not be good for them.
	if most != mostPartsOfCommands || most > impl.MaxParts {
		t.Errorf("the longest change has %d parts", most)
	}
}

func TestCommandsOneByOne(t *testing.T) {
	for _, x := range []struct {
		s    string
		c    impl.Command
		want string
	}{
		{"Aabcd/e", split(3), "Aab/Acd/e"}, {"Aabcd/e", wrap(1, 3, "B"), "ABab/cd/e"}, {"Aabcd/e", move(0, 7), "eAabcd/"}, {"Aabcd/e", unwrap(0), "abcde"}, {"Aabcd/e", rename(0, "C"), "Cabcd/e"}, {"Aab/Acd/e", join(4), "Aabcd/e"},
		{"", insert(0, "a"), "a"}, {"", insert(0, "A/"), "A/"}, {"", insert(0, "A"), "no"}, {"", insert(0, "/A"), "no"}, {"", insert(0, ""), "no"}, {"Aa/", insert(1, "x"), "Axa/"}, {"Aa/", insert(3, "x"), "Aa/x"}, {"Aa/", insert(0, "x"), "xAa/"},
		// What is put need be no document by itself.
		{"Aab/", insert(2, "/A"), "Aa/Ab/"}, {"Aab/", insert(2, "/B"), "Aa/Bb/"}, {"Aab/", insert(2, "/"), "no"}, {"Aab/", insert(2, "B"), "no"}, {"Aab/", insert(0, "/A"), "no"}, {"Aab/", insert(4, "/A"), "no"},
		{"abc", remove(0, 3), ""}, {"abc", remove(1, 2), "ac"}, {"abc", remove(1, 1), "no"}, {"abc", remove(2, 1), "no"}, {"Aab/c", remove(0, 4), "c"}, {"Aab/c", remove(1, 3), "A/c"}, {"Aab/c", remove(0, 5), ""}, {"aA/B/c", remove(1, 5), "ac"}, {"aA/B/c", remove(3, 6), "aA/"},
		// A beginning without its end, an end without its beginning, an end and the beginning behind it.
		{"Aab/", remove(0, 1), "no"}, {"Aab/", remove(0, 3), "no"}, {"Aab/", remove(2, 4), "no"}, {"Aab/", remove(3, 4), "no"}, {"Aa/Bb/", remove(2, 4), "no"}, {"Aa/Ab/", remove(2, 4), "no"}, {"ABa//", remove(0, 4), "no"}, {"ABa//", remove(1, 5), "no"},
		{"abc", wrap(0, 3, "F"), "Fabc/"}, {"abc", wrap(1, 2, "A"), "aAb/c"}, {"abc", wrap(2, 1, "A"), "no"}, {"Aab/c", wrap(0, 4, "A"), "AAab//c"}, {"Aab/c", wrap(2, 4, "B"), "no"}, {"Aab/c", wrap(0, 3, "B"), "no"}, {"Aa/Bb/", wrap(2, 4, "C"), "no"}, {"Aa/Bb/", wrap(0, 6, "C"), "CAa/Bb//"}, {"abc", wrap(0, 1, ""), "no"}, {"abc", wrap(0, 1, "a"), "no"}, {"abc", wrap(0, 1, "AB"), "no"}, {"abc", wrap(0, 1, "A/B"), "no"}, {"abc", wrap(0, 1, "G"), "no"}, {"abc", wrap(0, 1, "/"), "no"}, {"abc", wrap(0, 1, "A/"), "no"},
		// A wrap of nothing.
		{"", wrap(0, 0, "A"), "A/"}, {"abc", wrap(0, 0, "B"), "B/abc"}, {"abc", wrap(3, 3, "B"), "abcB/"}, {"Aab/", wrap(1, 1, "A"), "AA/ab/"}, {"Aab/", wrap(3, 3, "A"), "AabA//"}, {"A/", wrap(1, 1, "F"), "AF//"},
		{"A/", unwrap(0), ""}, {"AB//", unwrap(0), "B/"}, {"AB//", unwrap(1), "A/"}, {"AB//", unwrap(2), "no"}, {"AB//", unwrap(3), "no"}, {"AB//", unwrap(4), "no"}, {"aA/", unwrap(0), "no"}, {"", unwrap(0), "no"},
		{"A/", rename(0, "B"), "B/"}, {"A/", rename(0, "A"), "no"}, {"AB//", rename(1, "A"), "AA//"}, {"AB//", rename(1, "B"), "no"}, {"A/", rename(1, "B"), "no"}, {"A/", rename(2, "B"), "no"}, {"aA/", rename(0, "B"), "no"}, {"A/", rename(0, ""), "no"}, {"A/", rename(0, "a"), "no"}, {"A/", rename(0, "/"), "no"}, {"A/", rename(0, "G"), "no"}, {"A/", rename(0, "BC"), "no"}, {"A/", rename(0, "B/C"), "no"}, {"A/", rename(0, "Bx"), "no"},
		// A split at the very beginning and end, and of the innermost one.
		{"Aab/", split(1), "A/Aab/"}, {"Aab/", split(3), "Aab/A/"}, {"Aab/", split(0), "no"}, {"Aab/", split(4), "no"}, {"A/", split(1), "A/A/"}, {"ABc/d/", split(2), "AB/Bc/d/"}, {"ABc/d/", split(3), "ABc/B/d/"}, {"ABc/d/", split(4), "ABc//Ad/"}, {"ABc/d/", split(5), "ABc/d/A/"}, {"ABc/d/", split(1), "A/ABc/d/"}, {"A/a", split(2), "no"}, {"A/a", split(3), "no"}, {"A/aB/", split(3), "no"}, {"ABC/D/E/x//", split(9), "ABC/D/E/x/B//"}, {"ABC/D/E/x//", split(10), "ABC/D/E/x//A/"}, {"", split(0), "no"},
		{"A/A/", join(2), "A/"}, {"A/B/", join(2), "no"}, {"A/A/", join(0), "no"}, {"A/A/", join(1), "no"}, {"A/A/", join(3), "no"}, {"A/A/", join(4), "no"}, {"A/aA/", join(2), "no"}, {"A/aA/", join(3), "no"}, {"AA//", join(1), "no"}, {"AA//", join(2), "no"}, {"AA//", join(3), "no"}, {"AA//", join(4), "no"}, {"ABa/Bb//", join(4), "ABab//"}, {"AB//Ba/", join(4), "no"}, {"AB//Aa/", join(4), "AB/a/"}, {"BA//Aa/", join(4), "no"}, {"BA//Ba/", join(4), "BA/a/"}, {"A/A/A/", join(4), "A/A/"}, {"", join(0), "no"}, {"aaa", join(1), "no"}, {"A/", join(2), "no"},
		{"A/b", move(0, 3), "bA/"}, {"bA/", move(1, 0), "A/b"}, {"bcA/", move(2, 1), "bA/c"}, {"A/bc", move(0, 3), "bA/c"}, {"Ax/B/", move(0, 4), "BAx//"}, {"B/Ax/", move(2, 1), "BAx//"}, {"BAx/y/", move(1, 0), "Ax/By/"}, {"BAx/y/", move(1, 6), "By/Ax/"}, {"BAx/y/", move(1, 5), "ByAx//"}, {"A/A/", move(0, 4), "A/A/"}, {"A/A/", move(0, 3), "AA//"},
		// A move to just ahead of the element, to just behind it, to within it.
		{"xAab/y", move(1, 1), "no"}, {"xAab/y", move(1, 2), "no"}, {"xAab/y", move(1, 3), "no"}, {"xAab/y", move(1, 4), "no"}, {"xAab/y", move(1, 5), "no"}, {"xAab/y", move(1, 6), "xyAab/"}, {"xAab/y", move(1, 0), "Aab/xy"}, {"xAab/y", move(0, 5), "no"}, {"xAab/y", move(4, 0), "no"}, {"xAab/y", move(6, 0), "no"}, {"A/", move(0, 0), "no"}, {"A/", move(0, 2), "no"}, {"ABx//", move(0, 2), "no"}, {"ABx//", move(1, 1), "no"}, {"ABx//", move(1, 4), "no"}, {"ABx//", move(1, 5), "A/Bx/"},
	} {
		want, can := x.want, true
		if x.want == "no" {
			want, can = "", false
		}
		if got, ok := impl.DoCommand(x.s, x.c); got != want || ok != can {
			t.Errorf("DoCommand(%q, %s) = %q, %v, not %q, %v", x.s, brief(x.c), got, ok, want, can)
		}
		checkCommand(t, x.s, x.c)
	}
}

// Promise 8: a change drops and puts just what is told, also where less would do.
func TestChangesOfCommandsOneByOne(t *testing.T) {
	for _, x := range []struct {
		s  string
		c  impl.Command
		op []impl.Part
	}{
		{"", insert(0, "a"), []impl.Part{put("a")}}, {"aaa", insert(2, "aa"), []impl.Part{keep(2), put("aa"), keep(1)}}, {"aaa", insert(0, "a"), []impl.Part{put("a"), keep(3)}}, {"aaa", insert(3, "a"), []impl.Part{keep(3), put("a")}},
		{"aaa", remove(1, 2), []impl.Part{keep(1), drop("a"), keep(1)}}, {"aaa", remove(0, 3), []impl.Part{drop("aaa")}}, {"A/A/", remove(2, 4), []impl.Part{keep(2), drop("A/")}},
		{"abc", wrap(1, 2, "B"), []impl.Part{keep(1), put("B"), keep(1), put("/"), keep(1)}}, {"abc", wrap(0, 3, "B"), []impl.Part{put("B"), keep(3), put("/")}}, {"abc", wrap(1, 1, "B"), []impl.Part{keep(1), put("B/"), keep(2)}}, {"", wrap(0, 0, "B"), []impl.Part{put("B/")}}, {"A/", wrap(0, 2, "A"), []impl.Part{put("A"), keep(2), put("/")}},
		{"aAb/c", unwrap(1), []impl.Part{keep(1), drop("A"), keep(1), drop("/"), keep(1)}}, {"aA/c", unwrap(1), []impl.Part{keep(1), drop("A/"), keep(1)}}, {"AA//", unwrap(0), []impl.Part{drop("A"), keep(2), drop("/")}},
		{"aA/c", rename(1, "B"), []impl.Part{keep(1), put("B"), drop("A"), keep(2)}}, {"A/", rename(0, "F"), []impl.Part{put("F"), drop("A"), keep(1)}},
		{"Aab/", split(2), []impl.Part{keep(2), put("/A"), keep(2)}}, {"A/", split(1), []impl.Part{keep(1), put("/A"), keep(1)}}, {"A/A/", split(3), []impl.Part{keep(3), put("/A"), keep(1)}},
		{"Aa/Ab/", join(3), []impl.Part{keep(2), drop("/A"), keep(2)}}, {"A/A/A/", join(2), []impl.Part{keep(1), drop("/A"), keep(3)}},
		{"Ab/c", move(0, 4), []impl.Part{drop("Ab/"), keep(1), put("Ab/")}}, {"cAb/", move(1, 0), []impl.Part{put("Ab/"), keep(1), drop("Ab/")}}, {"xAb/yz", move(1, 5), []impl.Part{keep(1), drop("Ab/"), keep(1), put("Ab/"), keep(1)}}, {"xyAb/z", move(2, 1), []impl.Part{keep(1), put("Ab/"), keep(1), drop("Ab/"), keep(1)}}, {"A/A/", move(0, 4), []impl.Part{drop("A/"), keep(2), put("A/")}}, {"A/A/", move(2, 0), []impl.Part{put("A/"), keep(2), drop("A/")}},
	} {
		if got, ok := impl.CompileCommand(x.s, x.c); !slices.Equal(got, x.op) || !ok {
			t.Errorf("CompileCommand(%q, %s) = %v, %v, not %v", x.s, brief(x.c), got, ok, x.op)
		}
		checkCommand(t, x.s, x.c)
	}
}

func TestReachesOneByOne(t *testing.T) {
	for _, x := range []struct {
		s          string
		c          impl.Command
		begin, end int
	}{
		{"", insert(0, "a"), 0, 0}, {"abc", insert(1, "x"), 1, 2}, {"abc", insert(0, "x"), 0, 3}, {"abc", insert(3, "x"), 3, 0}, {"abcd", remove(1, 3), 1, 1}, {"ab", remove(0, 2), 0, 0},
		// Bytes that are alike move the place on, and none counts at both ends.
		{"aaa", insert(1, "a"), 3, 0}, {"aab", insert(0, "a"), 2, 1}, {"aaa", remove(0, 1), 2, 0}, {"abab", insert(2, "ab"), 4, 0}, {"abab", insert(1, "ba"), 4, 0}, {"abc", insert(1, "cab"), 1, 2},
		{"A/A/", remove(0, 2), 2, 0}, {"Aab/", split(2), 2, 2}, {"A/", split(1), 2, 0}, {"AB//", split(2), 3, 1}, {"Aab/Acd/e", join(4), 3, 4}, {"A/A/", join(2), 2, 0}, {"aAb/c", unwrap(1), 1, 1}, {"aAb/c", rename(1, "B"), 1, 3}, {"abc", wrap(1, 2, "B"), 1, 1}, {"Aa/", wrap(0, 3, "A"), 1, 1}, {"Aabcd/e", move(0, 7), 0, 0}, {"xAb/yz", move(1, 5), 1, 1},
		// A move after which the text is as it was.
		{"A/A/", move(0, 4), 4, 0}, {"xA/A/y", move(3, 1), 6, 0},
	} {
		if begin, end, ok := impl.ReachOf(x.s, x.c); begin != x.begin || end != x.end || !ok {
			t.Errorf("ReachOf(%q, %s) = %d, %d, %v, not %d, %d", x.s, brief(x.c), begin, end, ok, x.begin, x.end)
		}
		checkCommand(t, x.s, x.c)
	}
}

// backOf is the command that takes another one back, in the text that it made.
func backOf(s string, c impl.Command) impl.Command {
	l, _ := spansOf(s)
	e, _ := elementAt(l, c.At)
	size := e.end + 1 - e.begin
	switch c.Kind {
	case impl.CmdInsert:
		return remove(c.At, c.At+len(c.Text))
	case impl.CmdRemove:
		return insert(c.At, s[c.At:c.To])
	case impl.CmdWrap:
		return unwrap(c.At)
	case impl.CmdUnwrap:
		return wrap(c.At, e.end-1, s[c.At:c.At+1])
	case impl.CmdSplit:
		return join(c.At + 1)
	case impl.CmdJoin:
		return split(c.At - 1)
	case impl.CmdName:
		return rename(c.At, s[c.At:c.At+1])
	}
	if c.To < c.At {
		return move(c.To, c.At+size)
	}
	return move(c.To-size, c.At)
}

// checkBack tells whether what a command did can be taken back; of what is put
// that is so only where it is a document.
func checkBack(t *testing.T, s string, c impl.Command) bool {
	t.Helper()
	text, ok := impl.DoCommand(s, c)
	if !ok {
		return false
	}
	_, isDoc := spansOf(c.Text)
	want, can := s, true
	if c.Kind == impl.CmdInsert && !isDoc {
		want, can = "", false
	}
	x := backOf(s, c)
	if got, ok := impl.DoCommand(text, x); got != want || ok != can {
		t.Fatalf("DoCommand(%q, %s) = %q, %v, not %q, %v as ahead of %s", text, brief(x), got, ok, want, can, brief(c))
	}
	op, _ := impl.CompileCommand(s, c)
	inverse, _ := impl.InvertOp(op)
	if again, ok := impl.CompileCommand(text, x); ok && !slices.Equal(again, inverse) {
		t.Fatalf("CompileCommand(%q, %s) = %v, not the inverse of %v", text, brief(x), again, op)
	}
	return can
}

// Promise 8: what is split is joined again, what is wrapped is unwrapped, what
// is named otherwise is named back, what is put is removed; and the other way round.
func TestCommandsAreTakenBack(t *testing.T) {
	var back [9]int
	texts := []string{"A", "B", "a", "/A", "Ab/", "C"}
	for _, s := range smallDocs("AB/a", 5) {
		eachCommand(s, texts, func(c impl.Command) {
			if checkBack(t, s, c) {
				back[c.Kind]++
			}
		})
	}
	c := &chooser{82}
	for _, s := range append(someDocs(), edgeDocs()...) {
		for range 100 {
			x := c.commandOn(s)
			if checkBack(t, s, x) {
				back[x.Kind]++
			}
		}
	}
	if slices.Min(back[1:]) < 100 {
		t.Errorf("taken back: %v", back)
	}
}

// rightDoc is a right document of a schema, where one is found.
func (c *chooser) rightDoc(m matchers, l []impl.Rule) (string, bool) {
	for range 4 {
		if s := c.docFrom(l, "-", 0); isRightByHand(m, l, s) {
			return s, true
		}
	}
	s, ok := impl.LeastDoc(l, "-")
	return s, ok
}

// Promise 8: legal is just what makes a right document of a right one.
func TestLegalCommandsAsSaid(t *testing.T) {
	legal, not := 0, 0
	count := func(is bool) {
		if is {
			legal++
		} else {
			not++
		}
	}
	docs := smallDocs("A/a", 4)
	turn := 0
	smallSchemas(func(l []impl.Rule) {
		m := matchers{}
		for _, s := range docs {
			if !isRightByHand(m, l, s) {
				checkLegal(t, m, l, s, insert(0, "a"))
				continue
			}
			eachCommand(s, []string{"A", "a", "A/"}, func(c impl.Command) {
				if turn++; turn%41 == 0 {
					count(checkLegal(t, m, l, s, c))
				}
			})
		}
	})
	c := &chooser{83}
	for k := range 300 {
		l, m := c.schema(namesOfRules, 1+k%30), matchers{}
		if s, ok := c.rightDoc(m, l); ok {
			for range 10 {
				count(checkLegal(t, m, l, s, c.commandOn(s)))
			}
		}
	}
	if legal < 500 || not < 500 {
		t.Errorf("%d were legal, %d not", legal, not)
	}
}

func TestLegalCommandsOneByOne(t *testing.T) {
	l := rulesOf("-", "A*", "A", "t|B*", "B", "-")
	for _, x := range []struct {
		l         []impl.Rule
		s         string
		c         impl.Command
		legal, ok bool
	}{
		{l, "", insert(0, "A/"), true, true}, {l, "", insert(0, "a"), false, true}, {l, "", insert(0, "B/"), false, true}, {l, "Aab/", split(2), true, true}, {l, "Aab/Acd/", join(4), true, true}, {l, "Aab/AB//", join(4), false, true}, {l, "AB//", unwrap(1), true, true}, {l, "AB//", unwrap(0), false, true}, {l, "AB//", split(2), true, true}, {l, "AB//", rename(1, "C"), false, true}, {l, "AB//", rename(1, "A"), false, true}, {l, "A/", wrap(1, 1, "B"), true, true}, {l, "A/", wrap(1, 1, "A"), false, true}, {l, "AB//Ax/", move(0, 7), true, true}, {l, "AB//Ax/", move(1, 5), false, true}, {l, "AB//A/", move(1, 5), true, true}, {l, "Ax/", remove(1, 2), true, true}, {l, "Ax/", remove(0, 3), true, true},
		// What can't be done is not legal.
		{l, "Ax/", remove(0, 1), false, true}, {l, "Ax/", move(0, 0), false, true}, {l, "Ax/", insert(1, ""), false, true}, {l, "Ax/", insert(4, "x"), false, true}, {l, "Ax/", impl.Command{}, false, true}, {l, "Ax/", impl.Command{Kind: 9}, false, true},
		// A document that is not right is no good argument, though it would be right then.
		{l, "x", remove(0, 1), false, false}, {l, "B/", rename(0, "A"), false, false}, {l, "A", insert(1, "/"), false, false}, {l, "G", insert(0, "A/"), false, false}, {l, "AC//", remove(1, 3), false, false},
		{nil, "", insert(0, "A/"), false, false}, {rulesOf("A", "-"), "", insert(0, "A/"), false, false}, {rulesOf("-", "|"), "", insert(0, "A/"), false, false}, {rulesOf("-", "A|"), "", insert(0, "A/"), false, false}, {rulesOf("B", ".*", "-", ".*"), "", insert(0, "B/"), false, false},
		{rulesOf("-", "A?", "A", "-"), "", insert(0, "A/"), true, true}, {rulesOf("-", "A?", "A", "-"), "A/", insert(0, "A/"), false, true}, {rulesOf("-", "A?"), "", insert(0, "A/"), false, true},
		// A row of as many symbols as a word may have, and one more.
		{anything, strings.Repeat("A/", impl.MaxWord-1), insert(0, "A/"), true, true}, {anything, strings.Repeat("A/", impl.MaxWord), insert(0, "A/"), false, true}, {anything, strings.Repeat("A/", impl.MaxWord), insert(1, "A/"), true, true}, {anything, strings.Repeat("A/", impl.MaxWord+1), remove(0, 2), false, false},
	} {
		if legal, ok := impl.LegalCommand(x.l, x.s, x.c); legal != x.legal || ok != x.ok {
			t.Errorf("LegalCommand(%q, %q, %s) = %v, %v, not %v, %v", x.l, x.s, brief(x.c), legal, ok, x.legal, x.ok)
		}
		checkLegal(t, matchers{}, x.l, x.s, x.c)
	}
}

// commandsFor are commands of which many can be done one behind the other.
func (c *chooser) commandsFor(m matchers, l []impl.Rule, s string, n int) []impl.Command {
	var out []impl.Command
	for range n {
		x := c.commandOn(s)
		for range 8 {
			if legal, _ := legalByHand(m, l, s, x); legal {
				break
			}
			x = c.commandOn(s)
		}
		out = append(out, x)
		if legal, _ := legalByHand(m, l, s, x); legal {
			_, s, _ = doneByHand(s, x)
		}
	}
	return out
}

// Promise 8: what is played in a right document stays right; each command that
// is legal is done, in order.
func TestPlayedCommandsAsSaid(t *testing.T) {
	c := &chooser{84}
	all, done, most := 0, 0, 0
	for k := range 120 {
		l, m := c.schema(namesOfRules, 1+k%20), matchers{}
		if k%3 == 0 {
			l = anything
		}
		s, ok := c.rightDoc(m, l)
		if !ok {
			continue
		}
		cs := c.commandsFor(m, l, s, c.next(mostCommands+1))
		n := checkPlay(t, m, l, s, cs)
		all, done, most = all+len(cs), done+n, max(most, n)
		reversed := slices.Clone(cs)
		slices.Reverse(reversed)
		checkPlay(t, m, l, s, reversed)
	}
	if done < 300 || all-done < 300 || most < mostCommands/2 {
		t.Errorf("%d of %d commands were done, at most %d at once", done, all, most)
	}
}

// Promise 8: what is played is LegalCommand and DoCommand in turn.
func TestPlayedCommandsAreLegalOnes(t *testing.T) {
	c := &chooser{85}
	for k := range 60 {
		l, m := c.schema("-ABC", 1+k%12), matchers{}
		s, ok := c.rightDoc(m, l)
		if !ok {
			continue
		}
		cs := c.commandsFor(m, l, s, 15)
		want, many := s, 0
		for i, x := range cs {
			if legal, _ := impl.LegalCommand(l, want, x); legal {
				want, _ = impl.DoCommand(want, x)
				many++
			}
			if got, n, ok := impl.PlayCommands(l, s, cs[:i+1]); got != want || n != many || !ok {
				t.Fatalf("PlayCommands(%q, %q, %s) = %q, %d, %v, not %q, %d", l, s, brief(cs[:i+1]...), got, n, ok, want, many)
			}
		}
	}
}

func TestPlayedCommandsOneByOne(t *testing.T) {
	l := rulesOf("-", "A*", "A", "t|B*", "B", "-")
	for _, x := range []struct {
		s    string
		cs   []impl.Command
		text string
		n    int
	}{
		{"", nil, "", 0}, {"", []impl.Command{}, "", 0}, {"Axy/", nil, "Axy/", 0}, {"", []impl.Command{insert(0, "A/"), insert(1, "xy"), split(2)}, "Ax/Ay/", 3},
		// What is not legal is left out, and what follows is done to what was.
		{"", []impl.Command{insert(1, "xy"), insert(0, "A/"), insert(1, "xy")}, "Axy/", 2}, {"Axy/", []impl.Command{unwrap(0), rename(0, "B"), insert(2, "z")}, "Axzy/", 1}, {"Axy/", []impl.Command{{}, {Kind: 9}, {Kind: -1}}, "Axy/", 0}, {"AB//", []impl.Command{insert(1, "x"), remove(1, 3), insert(1, "x")}, "Ax/", 2}, {"Ax/", []impl.Command{split(2), join(3), split(2), join(3)}, "Ax/", 4}, {"Ax/", []impl.Command{split(2), join(2), join(3), join(3)}, "Ax/", 2},
	} {
		if text, n, ok := impl.PlayCommands(l, x.s, x.cs); text != x.text || n != x.n || !ok {
			t.Errorf("PlayCommands(%q, %s) = %q, %d, %v, not %q, %d", x.s, brief(x.cs...), text, n, ok, x.text, x.n)
		}
		checkPlay(t, matchers{}, l, x.s, x.cs)
	}
}

// Chapter 8: the limits of documents, met and gone beyond by each command.
func TestLimitsOfCommands(t *testing.T) {
	full := strings.Repeat("a", impl.MaxDoc)
	deep := strings.Repeat("A", impl.MaxDeep) + strings.Repeat("/", impl.MaxDeep)
	lessDeep := deep[1 : len(deep)-1]
	long := "A" + full[:impl.MaxDoc-4] + "/"
	for _, x := range []struct {
		s   string
		c   impl.Command
		can bool
	}{
		{full, insert(0, "a"), false}, {full[1:], insert(0, "a"), true}, {full[1:], insert(impl.MaxDoc-1, "a"), true}, {full[1:], insert(7, "aa"), false}, {"", insert(0, full), true}, {"", insert(0, full+"a"), false}, {"a", insert(1, full), false}, {full, remove(0, impl.MaxDoc), true}, {full, remove(impl.MaxDoc-1, impl.MaxDoc), true},
		{full, wrap(0, impl.MaxDoc, "A"), false}, {full[1:], wrap(0, 0, "A"), false}, {full[2:], wrap(0, impl.MaxDoc-2, "A"), true}, {full[2:], wrap(5, 5, "A"), true},
		{long, split(100), true}, {long + "a", split(100), false}, {long + "aa", split(100), false}, {long + "aa", unwrap(0), true}, {long + "aa", rename(0, "F"), true}, {long + "aa", move(0, impl.MaxDoc), true}, {"aa" + long, move(2, 0), true}, {strings.Repeat("A/", impl.MaxDoc/2), join(impl.MaxDoc - 2), true}, {strings.Repeat("A/", impl.MaxDoc/2), move(0, impl.MaxDoc), true},
		{deep, wrap(0, len(deep), "A"), false}, {deep, wrap(0, 0, "A"), true}, {lessDeep, wrap(0, len(lessDeep), "F"), true}, {deep, wrap(12, 12, "A"), false}, {deep, wrap(11, 11, "A"), true}, {deep, wrap(11, 13, "A"), false}, {deep, insert(12, "A/"), false}, {deep, insert(11, "A/"), true}, {deep, insert(12, "a"), true}, {deep, split(12), true}, {deep, unwrap(11), true}, {deep, rename(11, "B"), true},
		{"B/" + deep, move(0, 14), false}, {"B/" + deep, move(0, 13), true}, {deep + "B/", move(0, 25), false}, {lessDeep + "B/", move(0, 23), true}, {deep + "AB//", join(24), true},
		// What goes into what was just within the limit, from without and from within.
		{"AB/" + lessDeep + "/", move(3, 2), false}, {"AB/" + lessDeep[1:len(lessDeep)-1] + "/", move(3, 2), true},
	} {
		if _, ok := impl.DoCommand(x.s, x.c); ok != x.can {
			t.Errorf("DoCommand(%q, %s) is %v", x.s, brief(x.c), ok)
		}
		checkCommand(t, x.s, x.c)
	}
}

func TestLimitOfPlayedCommands(t *testing.T) {
	for _, c := range []impl.Command{insert(0, "a"), {}} {
		cs := slices.Repeat([]impl.Command{c}, mostCommands)
		many := mostCommands * c.Kind
		if text, n, ok := impl.PlayCommands(anything, "", cs); text != strings.Repeat("a", many) || n != many || !ok {
			t.Errorf("%d commands: %q, %d, %v", len(cs), text, n, ok)
		}
		checkPlay(t, matchers{}, anything, "", cs)
		cs = append(cs, c)
		if text, n, ok := impl.PlayCommands(anything, "", cs); text != "" || n != 0 || ok {
			t.Errorf("%d commands: %q, %d, %v", len(cs), text, n, ok)
		}
		if text, n, ok := impl.PlayCommands(anything, "ab", slices.Repeat(cs, 3000)); text != "" || n != 0 || ok {
			t.Errorf("many commands: %q, %d, %v", text, n, ok)
		}
	}
}

func zeroOfCommand(t *testing.T, s string, c impl.Command) {
	t.Helper()
	if text, ok := impl.DoCommand(s, c); text != "" || ok {
		t.Errorf("DoCommand(%.40q, %s) = %q, %v", s, brief(c), text, ok)
	}
	if op, ok := impl.CompileCommand(s, c); op != nil || ok {
		t.Errorf("CompileCommand(%.40q, %s) = %v, %v", s, brief(c), op, ok)
	}
	if begin, end, ok := impl.ReachOf(s, c); begin != 0 || end != 0 || ok {
		t.Errorf("ReachOf(%.40q, %s) = %d, %d, %v", s, brief(c), begin, end, ok)
	}
}

// zeroOfSchema is for schemas and documents that no command can be asked of.
func zeroOfSchema(t *testing.T, l []impl.Rule, s string, c impl.Command) {
	t.Helper()
	if legal, ok := impl.LegalCommand(l, s, c); legal || ok {
		t.Errorf("LegalCommand of %d rules, %.40q, %s: %v, %v", len(l), s, brief(c), legal, ok)
	}
	for _, cs := range [][]impl.Command{nil, {}, {c}} {
		if text, n, ok := impl.PlayCommands(l, s, cs); text != "" || n != 0 || ok {
			t.Errorf("PlayCommands of %d rules, %.40q, %s: %.40q, %d, %v", len(l), s, brief(cs...), text, n, ok)
		}
	}
}

// oneOfEach has one command of each kind, all of which can be done in oneDoc.
const oneDoc = "Aab/Acd/Be/"

func oneOfEach() []impl.Command {
	return []impl.Command{insert(2, "x"), remove(1, 3), wrap(0, 4, "C"), unwrap(0), split(2), join(4), move(0, 8), rename(8, "F")}
}

// checkNotDone is for commands that can't be done, though the document is right.
func checkNotDone(t *testing.T, s string, c impl.Command) {
	t.Helper()
	zeroOfCommand(t, s, c)
	checkCommand(t, s, c)
	if legal, ok := impl.LegalCommand(anything, s, c); legal || !ok {
		t.Errorf("LegalCommand(%q, %s) = %v, %v", s, brief(c), legal, ok)
	}
	if text, n, ok := impl.PlayCommands(anything, s, []impl.Command{c, c}); text != s || n != 0 || !ok {
		t.Errorf("PlayCommands(%q, %s) = %q, %d, %v", s, brief(c), text, n, ok)
	}
}

// Promise 20: kinds and places that are none.
func TestWrongCommandsHaveTheZeroAnswer(t *testing.T) {
	for _, c := range oneOfEach() {
		if !checkCommand(t, oneDoc, c) {
			t.Errorf("%s can't be done", brief(c))
		}
		for _, kind := range []int{math.MinInt, -8, -1, 0, 9, 10, 16, 257, math.MaxInt} {
			x := c
			x.Kind = kind
			checkNotDone(t, oneDoc, x)
		}
		for _, at := range oddPlaces(oneDoc) {
			x, y := c, c
			x.At, y.To = at, at
			checkNotDone(t, oneDoc, x)
			checkNotDone(t, oneDoc, y)
			for _, to := range oddPlaces(oneDoc) {
				x.To = to
				checkNotDone(t, oneDoc, x)
			}
		}
	}
	eachDoc(func(s string, _ []span) {
		for kind := range 10 {
			for _, at := range []int{-1, len(s) + 1} {
				zeroOfCommand(t, s, impl.Command{Kind: kind, At: at, Text: "A"})
				zeroOfCommand(t, s, impl.Command{Kind: kind, To: at, Text: "A"})
			}
		}
		for _, at := range []int{0, len(s)} {
			zeroOfCommand(t, s, remove(at, at))
			zeroOfCommand(t, s, insert(at, ""))
			zeroOfCommand(t, s, split(at))
			zeroOfCommand(t, s, unwrap(len(s)))
			zeroOfCommand(t, s, rename(len(s), "A"))
			zeroOfCommand(t, s, move(len(s), at))
			zeroOfCommand(t, s, join(at))
		}
	})
}

// Promise 20: texts that are no good texts, that are empty, that are no names.
func TestWrongTextsOfCommandsHaveTheZeroAnswer(t *testing.T) {
	for _, text := range append(notTexts(), "") {
		for at := range len(oneDoc) + 1 {
			checkNotDone(t, oneDoc, insert(at, text))
		}
	}
	names := append(notTexts(), "", "AA", "AB", "A/", "/A", "A/B", "A ", " A", "Aa", "aA", "/", "a", " ", ".", "0", strings.Repeat("A", impl.MaxDoc))
	for _, name := range names {
		for at := range len(oneDoc) + 1 {
			checkNotDone(t, oneDoc, rename(at, name))
			checkNotDone(t, oneDoc, wrap(at, at, name))
		}
		checkNotDone(t, oneDoc, wrap(0, 4, name))
		checkNotDone(t, oneDoc, wrap(1, 3, name))
	}
	for at := range oneDoc {
		checkNotDone(t, oneDoc, rename(at, oneDoc[at:at+1]))
	}
}

// What a kind does not ask for is not looked at, but its places are places.
func TestCommandsLeaveOutWhatIsNotAsked(t *testing.T) {
	for _, c := range oneOfEach() {
		want, ok := impl.DoCommand(oneDoc, c)
		if !ok {
			t.Fatalf("%s can't be done", brief(c))
		}
		x := c
		switch c.Kind {
		case impl.CmdInsert, impl.CmdName:
			x.To = len(oneDoc)
		case impl.CmdRemove, impl.CmdMove:
			x.Text = "\xff"
		case impl.CmdUnwrap, impl.CmdSplit, impl.CmdJoin:
			x.To, x.Text = 1, strings.Repeat("-", 1000000)
		}
		if got, ok := impl.DoCommand(oneDoc, x); got != want || !ok {
			t.Errorf("DoCommand(%s) = %q, %v, not %q", brief(x), got, ok, want)
		}
	}
}

// Promise 20: documents that are none, schemas that are not good, documents that are not right.
func TestWrongDocumentsOfCommandsHaveTheZeroAnswer(t *testing.T) {
	for _, s := range append(notDocs(), notTexts()...) {
		for _, c := range append(oneOfEach(), insert(0, "/"), insert(len(s), "/"), remove(0, 1), remove(0, len(s)), unwrap(0), split(1), wrap(0, 0, "A"), impl.Command{}) {
			zeroOfCommand(t, s, c)
			zeroOfSchema(t, anything, s, c)
		}
	}
	for _, l := range notSchemas() {
		for _, s := range []string{"", oneDoc, "A"} {
			zeroOfSchema(t, l, s, insert(0, "a"))
		}
	}
	for _, l := range [][]impl.Rule{nil, rulesOf("A", ".*", "B", ".*"), rulesOf("-", "A*", "A", "t", "B", "t"), rulesOf("-", ".*", "A", "t"), rulesOf("-", ".*", "A", "t", "B", "-"), rulesOf("-", "!", "A", "t", "B", "t")} {
		for _, c := range append(oneOfEach(), remove(8, 11), remove(9, 10), unwrap(8), impl.Command{}) {
			zeroOfSchema(t, l, oneDoc, c)
			checkLegal(t, matchers{}, l, oneDoc, c)
		}
	}
}

// Promise 20: the answers share no memory with what was handed in.
func TestCommandsAreNewMemory(t *testing.T) {
	long := strings.Repeat("ab", 30)
	inner := "A" + long + "/"
	for _, x := range []struct {
		s string
		c impl.Command
	}{
		{"", insert(0, long)}, {long, insert(60, long)}, {long, insert(0, "c")}, {long + "c", remove(60, 61)}, {"c" + long, remove(0, 1)}, {long + long, remove(0, 60)}, {long, wrap(0, 60, "A")}, {"", wrap(0, 0, "A")}, {inner, unwrap(0)}, {inner, split(1)}, {inner, split(61)}, {inner + inner, join(62)}, {inner + "c", move(0, 63)}, {"c" + inner, move(1, 0)}, {inner, rename(0, "B")},
	} {
		given, c := strings.Clone(x.s), x.c
		c.Text = strings.Clone(c.Text)
		text, ok := impl.DoCommand(given, c)
		op, _ := impl.CompileCommand(given, c)
		played, n, _ := impl.PlayCommands(anything, given, []impl.Command{c})
		if !ok || n != 1 || played != text {
			t.Fatalf("%s can't be done to %q", brief(c), given)
		}
		told := []string{text, played}
		for _, p := range op {
			told = append(told, p.Put, p.Drop)
		}
		for i, a := range told {
			if len(a) > 1 && (shareText(a, given) || shareText(a, c.Text)) {
				t.Errorf("%q, the answer %d of %q, %s, lies in the memory of what was handed in", a, i, given, brief(c))
			}
		}
	}
	for _, cs := range [][]impl.Command{nil, {}, {{}}, {rename(0, "A")}} {
		given := strings.Clone(inner)
		if text, n, ok := impl.PlayCommands(anything, given, cs); text != given || n != 0 || !ok || shareText(text, given) {
			t.Errorf("PlayCommands(%q, %s) = %q, %d, %v", given, brief(cs...), text, n, ok)
		}
	}
}

// Promise 20: nothing is written into rules and commands, nor behind their length, nor read there.
func TestCommandsStayAsTheyWere(t *testing.T) {
	l := append(slices.Clone(anything), rule("no", "|"))
	cs := append(oneOfEach(), impl.Command{}, insert(-1, "x"), insert(0, "behind"), insert(0, "behind"))
	rulesBefore, before := slices.Clone(l), slices.Clone(cs)
	for n := range len(cs) - 1 {
		checkPlay(t, matchers{}, l[:len(l)-1], oneDoc, cs[:n])
		checkPlay(t, matchers{}, l, oneDoc, cs[:n])
		checkPlay(t, matchers{}, l[:1], oneDoc, cs[:n])
		checkLegal(t, matchers{}, l[:len(l)-1], oneDoc, cs[n])
		checkLegal(t, matchers{}, l, oneDoc, cs[n])
	}
	if !slices.Equal(l, rulesBefore) || !slices.Equal(cs, before) {
		t.Errorf("what was handed in was changed: %q, %s", l, brief(cs...))
	}
}

// An answer is the same, whatever was done to the one ahead of it.
func TestCommandsAreToldAnew(t *testing.T) {
	for _, c := range oneOfEach() {
		first, _ := impl.CompileCommand(oneDoc, c)
		second, _ := impl.CompileCommand(oneDoc, c)
		size := len(second)
		clear(first[:cap(first)])
		third, ok := impl.CompileCommand(oneDoc, c)
		if !ok || size == 0 || !slices.Equal(second, third) {
			t.Errorf("CompileCommand(%s), asked again, = %v, %v, not %v", brief(c), third, ok, second)
		}
	}
}

// FuzzCommands: no argument makes one of the five functions panic, or tell another thing than the document says.
func FuzzCommands(f *testing.F) {
	f.Add("-=.*;A=.*;", "Aabcd/e", 1, 2, 3, "A", 5)
	f.Add("-=A*;A=t|B;B=-;", "Ax/AB//", 7, 0, 7, "/A", 1)
	f.Add("A=;=", "A", math.MinInt, math.MaxInt, -1, "\xff", 8)
	f.Fuzz(func(t *testing.T, rules, s string, kind, at, to int, text string, other int) {
		l, _ := impl.ReadSchema(rules)
		m := matchers{}
		var cs []impl.Command
		for _, k := range []int{kind, other, 1, 2, 3, 4, 5, 6, 7, 8} {
			c := impl.Command{Kind: k, At: at, To: to, Text: text}
			cs = append(cs, c)
			checkCommand(t, s, c)
			checkBack(t, s, c)
			for _, schema := range [][]impl.Rule{l, anything} {
				checkLegal(t, m, schema, s, c)
			}
		}
		checkPlay(t, m, l, s, cs)
		checkPlay(t, m, anything, s, cs)
	})
}
