package tests

import (
	"fmt"
	"regexp"
	"runtime"
	"slices"
	"strconv"
	"strings"
	"testing"
	"time"

	"loop.example/g00253/impl"
)

const numberForm = "(0|[1-9][0-9]{0,8})"
const anyForm = "(.*)"
const wordForm = "([^ ]*)"

func formOf(words ...string) *regexp.Regexp {
	return regexp.MustCompile("(?s)^(" + words[0] + ")" + strings.Join(append([]string{""}, words[1:]...), " ") + "$")
}

var lineForms = []*regexp.Regexp{
	formOf("settle|server|log"),
	formOf("push|pull|again|text", numberForm),
	formOf("split|join|unwrap|lines|diff", numberForm, numberForm),
	formOf("move", numberForm, numberForm, numberForm),
	formOf("find", numberForm, anyForm),
	formOf("name", numberForm, numberForm, anyForm),
	formOf("edit|wrap", numberForm, numberForm, numberForm, anyForm),
	formOf("match", wordForm, wordForm),
}

// asked is a line in its words: the first one, three numbers, and all words behind
// the first as they stand there.
type asked struct {
	first   string
	numbers [3]int
	words   []string
}

func askedByHand(line string) (asked, bool) {
	for _, form := range lineForms {
		words := form.FindStringSubmatch(line)
		if words == nil {
			continue
		}
		out := asked{first: words[1], words: words[2:]}
		for i, word := range out.words {
			if n, err := strconv.Atoi(word); err == nil && n >= 0 && i < 3 {
				out.numbers[i] = n
			}
		}
		return out, true
	}
	return asked{}, false
}

func (x asked) last() string {
	if len(x.words) == 0 {
		return ""
	}
	return x.words[len(x.words)-1]
}

// lineStepOf is the step that a line stands for.
func lineStepOf(x asked) (impl.MeetStep, bool) {
	client, from, to := x.numbers[0], x.numbers[1], x.numbers[2]
	switch x.first {
	case "edit":
		return typed(client, from, to, x.last()), true
	case "push":
		return pushed(client), true
	case "pull":
		return pulled(client), true
	case "again":
		return handedAgain(client), true
	}
	return impl.MeetStep{}, false
}

// lineCommandOf is the command that a line stands for.
func lineCommandOf(x asked) (impl.Command, bool) {
	at, to := x.numbers[1], x.numbers[2]
	switch x.first {
	case "split":
		return split(at), true
	case "join":
		return join(at), true
	case "wrap":
		return wrap(at, to, x.last()), true
	case "unwrap":
		return unwrap(at), true
	case "move":
		return move(at, to), true
	case "name":
		return rename(at, x.last()), true
	}
	return impl.Command{}, false
}

func commandedByHand(m impl.Meeting, client int, c impl.Command) (impl.Meeting, bool) {
	if client >= len(m.Clients) {
		return m, false
	}
	x, _, can := doneByHand(m.Clients[client].Text, c)
	if !can {
		return m, false
	}
	out := cloneOfMeeting(m)
	after, ok := editByHand(m.Clients[client], x.change(m.Clients[client].Text))
	out.Clients[client] = after
	return out, ok
}

func numberedByHand(word string, numbers []int) string {
	for _, n := range numbers {
		word += fmt.Sprint(" ", n)
	}
	return word
}

func logShownByHand(s impl.Server) string {
	out := "log"
	for _, e := range s.Log {
		out += fmt.Sprintf(" %d.%d", e.Client, e.Seq)
	}
	return out
}

func costShownByHand(s string, width int) (string, bool) {
	words, ok := wordsByHand(s)
	if !ok || !breaksAreGood(words, width) {
		return "", false
	}
	return numberedByHand("cost", []int{bestByNumbers(words, width).cost(width)}), true
}

func matchShownByHand(expr, word string) (string, bool) {
	if !exprIsGood(expr) || !wordIsGood(word) {
		return "", false
	}
	if matcherOf(expr).MatchString(word) {
		return "yes", true
	}
	return "not", true
}

// shownOfLine is the answer to a line that changes nothing.
func shownOfLine(m impl.Meeting, x asked) (string, bool) {
	var texts [2]string
	for i := range texts {
		if n := x.numbers[i]; n < len(m.Clients) {
			texts[i] = m.Clients[n].Text
		}
	}
	there, thereToo := x.numbers[0] < len(m.Clients), x.numbers[1] < len(m.Clients)
	switch x.first {
	case "text":
		return "text " + texts[0], there
	case "server":
		return "text " + m.Server.Text, true
	case "log":
		return logShownByHand(m.Server), true
	case "find":
		return numberedByHand("at", foundByHand(x.last(), texts[0])), there && x.last() != "" && textIsGood(x.last())
	case "lines":
		out, ok := costShownByHand(texts[0], x.numbers[1])
		return out, ok && there
	case "diff":
		return numberedByHand("apart", []int{distanceByHand(texts[0], texts[1])}), there && thereToo
	}
	return matchShownByHand(x.words[0], x.words[1])
}

// answeredByHand takes a good meeting; its answer to a line comes with the meeting
// behind it.
func answeredByHand(m impl.Meeting, line string) (impl.Meeting, string) {
	x, is := askedByHand(line)
	if !is {
		return m, "what"
	}
	next, ok, changes := m, false, true
	if step, can := lineStepOf(x); can {
		next, ok = stepByHand(m, step)
	} else if c, can := lineCommandOf(x); can {
		next, ok = commandedByHand(m, x.numbers[0], c)
	} else if x.first == "settle" {
		next, ok = settleByHand(m)
	} else {
		changes = false
	}
	switch {
	case changes && ok:
		return next, "ok"
	case changes:
		return m, "no"
	}
	if out, ok := shownOfLine(m, x); ok {
		return m, out
	}
	return m, "no"
}

func newMeet() impl.Meeting {
	return impl.Meeting{Server: served("", ""), Clients: []impl.Client{quiet(0, "", 0, 0), quiet(1, "", 0, 0)}}
}

func linesOfScript(s string) ([]string, bool) {
	if len(s) > impl.MaxScript {
		return nil, false
	}
	lines := strings.Split(s, "\n")
	last := len(lines) - 1
	return lines[:last], lines[last] == "" && last <= impl.MaxLines
}

func scriptByHand(s string) (impl.Meeting, []string, bool) {
	lines, is := linesOfScript(s)
	if !is {
		return impl.Meeting{}, nil, false
	}
	m, answers := newMeet(), make([]string, len(lines))
	for i, line := range lines {
		m, answers[i] = answeredByHand(m, line)
	}
	return m, answers, true
}

// script has a byte 10 behind each line.
func script(lines ...string) string {
	out := ""
	for _, line := range lines {
		out += line + "\n"
	}
	return out
}

// checkScript holds both functions against what is reckoned by hand, whatever the
// text is, and has the answers, where it is a script.
func checkScript(t *testing.T, s string) ([]string, bool) {
	t.Helper()
	want, answers, is := scriptByHand(s)
	if got := impl.RunWriters(s); got != script(answers...) {
		t.Fatalf("RunWriters(%.3000q) = %.3000q, not %.3000q", s, got, script(answers...))
	}
	if got, ok := impl.WritersOf(s); !sameMeeting(got, want) || ok != is {
		t.Fatalf("WritersOf(%.3000q) = %s, %v, not %s, %v", s, outset(got), ok, outset(want), is)
	}
	if is && !meetingIsGood(want) {
		t.Fatalf("%.3000q leads to %s, which is not good", s, outset(want))
	}
	return answers, is
}

// checkAnswers has pairs: a line and its answer.
func checkAnswers(t *testing.T, pairs ...string) impl.Meeting {
	t.Helper()
	var lines, want []string
	for i := 0; i < len(pairs); i += 2 {
		lines, want = append(lines, pairs[i]), append(want, pairs[i+1])
	}
	s := script(lines...)
	got, is := checkScript(t, s)
	for i := range got {
		if got[i] != want[i] {
			t.Errorf("%q: the answer to %q is %q, not %q", s, lines[i], got[i], want[i])
		}
	}
	if !is || len(got) != len(want) {
		t.Fatalf("%q has the answers %q", s, got)
	}
	m, _ := impl.WritersOf(s)
	return m
}

// The document's words, one by one: each kind of line with each of its answers.
func TestKindsOfLines(t *testing.T) {
	for name, pairs := range map[string][]string{
		"edit":   {"edit 0 0 0 ab", "ok", "text 0", "text ab", "edit 0 1 2 x y", "ok", "text 0", "text ax y", "edit 0 0 4 ", "ok", "text 0", "text ", "edit 0 1 1 a", "no", "edit 2 0 0 a", "no", "edit 0 1 0 a", "no", "edit 1 0 0 A", "ok", "text 1", "text A", "edit 1 0 1 A", "ok", "text 1", "text A"},
		"push":   {"push 0", "no", "edit 0 0 0 ab", "ok", "server", "text ", "push 0", "ok", "server", "text ab", "push 0", "no", "push 1", "no", "push 2", "no", "log", "log 0.1"},
		"pull":   {"pull 1", "no", "edit 0 0 0 ab", "ok", "pull 1", "no", "push 0", "ok", "pull 1", "ok", "text 1", "text ab", "pull 1", "no", "pull 0", "ok", "pull 0", "no", "pull 2", "no"},
		"again":  {"again 0", "no", "edit 0 0 0 ab", "ok", "again 0", "no", "push 0", "ok", "again 0", "ok", "again 0", "ok", "log", "log 0.1", "pull 0", "ok", "again 0", "no", "again 2", "no"},
		"settle": {"settle", "ok", "edit 0 0 0 ab", "ok", "edit 1 0 0 cd", "ok", "edit 1 2 2 e", "ok", "settle", "ok", "text 0", "text cdeab", "text 1", "text cdeab", "server", "text cdeab", "log", "log 0.1 1.1 1.2", "settle", "ok"},
		"text":   {"text 0", "text ", "text 1", "text ", "edit 1 0 0 A b.,/", "ok", "text 1", "text A b.,/", "text 0", "text ", "text 2", "no", "text 999999999", "no"},
		"server": {"server", "text ", "edit 0 0 0 a b/", "ok", "server", "text ", "push 0", "ok", "server", "text a b/"},
		"log":    {"log", "log", "edit 1 0 0 a", "ok", "log", "log", "push 1", "ok", "log", "log 1.1", "edit 0 0 0 b", "ok", "push 0", "ok", "log", "log 1.1 0.1", "pull 1", "ok", "edit 1 0 1 ", "ok", "push 1", "ok", "log", "log 1.1 0.1 1.2"},
		"split":  {"split 0 0", "no", "edit 0 0 0 Aab/", "ok", "split 0 2", "ok", "text 0", "text Aa/Ab/", "split 0 0", "no", "split 0 3", "no", "split 0 9", "no", "split 1 0", "no", "split 2 0", "no", "edit 1 0 0 Aab", "ok", "split 1 2", "no", "text 1", "text Aab"},
		"join":   {"edit 0 0 0 Aa/Ab/B/", "ok", "join 0 3", "ok", "text 0", "text Aab/B/", "join 0 4", "no", "join 0 0", "no", "join 0 6", "no", "join 1 0", "no", "join 2 3", "no"},
		"wrap":   {"wrap 0 0 0 B", "ok", "text 0", "text B/", "wrap 0 1 1 A", "ok", "text 0", "text BA//", "wrap 0 0 1 A", "no", "wrap 0 0 4 F", "ok", "text 0", "text FBA///", "wrap 0 0 0 G", "no", "wrap 0 0 0 a", "no", "wrap 0 0 0 AB", "no", "wrap 0 0 0 ", "no", "wrap 0 0 0 A ", "no", "wrap 0 1 0 A", "no", "wrap 0 0 7 A", "no", "wrap 2 0 0 A", "no"},
		"unwrap": {"edit 0 0 0 AaB//", "ok", "unwrap 0 1", "no", "unwrap 0 0", "ok", "text 0", "text aB/", "unwrap 0 2", "no", "unwrap 0 3", "no", "unwrap 0 1", "ok", "text 0", "text a", "unwrap 1 0", "no", "unwrap 2 0", "no"},
		"move":   {"edit 0 0 0 aAb/c", "ok", "move 0 1 0", "ok", "text 0", "text Ab/ac", "move 0 0 5", "ok", "text 0", "text acAb/", "move 0 2 2", "no", "move 0 2 3", "no", "move 0 2 5", "no", "move 0 0 1", "no", "move 0 2 6", "no", "move 1 0 0", "no", "move 2 0 0", "no"},
		"name":   {"edit 0 0 0 aAb/", "ok", "name 0 1 B", "ok", "text 0", "text aBb/", "name 0 1 B", "no", "name 0 0 A", "no", "name 0 3 A", "no", "name 0 1 ", "no", "name 0 1 b", "no", "name 0 1 G", "no", "name 0 1 AA", "no", "name 0 1  A", "no", "name 0 9 A", "no", "name 1 0 A", "no", "name 2 1 A", "no"},
		"find":   {"find 0 a", "at", "edit 0 0 0 aAa a a/", "ok", "find 0 a", "at 0 2 4 6", "find 0 a a", "at 2 4", "find 0 /", "at 7", "find 0 A", "at 1", "find 0 b", "at", "find 0  ", "at 3 5", "find 0 ", "no", "find 0 G", "no", "find 0 a-", "no", "find 1 a", "at", "find 2 a", "no"},
		"lines":  {"lines 0 1", "cost 0", "lines 0 80", "cost 0", "lines 0 0", "no", "lines 0 81", "no", "edit 0 0 0 Aaaa bb/  cc ddddd", "ok", "lines 0 6", "cost 10", "lines 0 5", "cost 4", "lines 0 4", "no", "lines 0 80", "cost 0", "lines 1 6", "cost 0", "lines 2 6", "no", "lines 0 999999999", "no"},
		"diff":   {"diff 0 0", "apart 0", "diff 0 1", "apart 0", "edit 0 0 0 kitten", "ok", "diff 0 1", "apart 6", "diff 1 0", "apart 6", "edit 1 0 0 sitting", "ok", "diff 0 1", "apart 5", "diff 1 1", "apart 0", "diff 0 2", "no", "diff 2 0", "no", "diff 2 2", "no"},
		"match":  {"match A*t AAt", "yes", "match A*t AAA", "not", "match . F", "yes", "match - A", "not", "match - ", "yes", "match A ", "not", "match  A", "no", "match  ", "no", "match a A", "no", "match A a", "no", "match (A A", "no", "match !* ", "yes", "match A|t t", "yes", "match .", "what", "match A B C", "what"},
		"what":   {"fly", "what", "", "what", " ", "what", "what", "what", "ok", "what", "no", "what", "insert 0 0 a", "what", "remove 0 0 0", "what", "Edit 0 0 0 a", "what", "EDIT 0 0 0 a", "what", "edit", "what", "text", "what", "edit 0 0 0", "what"},
	} {
		t.Run(name, func(t *testing.T) { checkAnswers(t, pairs...) })
	}
}

// What is refused and what is not known changes nothing.
func TestWrongLinesChangeNothing(t *testing.T) {
	begin := []string{"edit 0 0 0 Aab/Acd/ e", "settle", "edit 0 2 2 x", "edit 1 0 0 y", "edit 1 1 1 B/", "push 1"}
	want, _ := impl.WritersOf(script(begin...))
	if !want.Clients[0].Waits || !want.Clients[1].Dirty || len(want.Server.Log) != 2 {
		t.Fatalf("%s", outset(want))
	}
	refused := []string{
		"edit 0 9 8 a", "edit 0 0 99 a", "edit 0 0 999999999 a", "edit 0 999999999 999999999 a", "edit 2 0 0 a", "edit 999999999 0 0 a", "edit 0 0 0 G", "edit 0 0 0 a\r", "edit 0 0 0 a\tb", "edit 0 0 0 \x00", "edit 0 0 0 \xff", "edit 0 0 0 \u00e4", "edit 0 0 0 a-b", "edit 0 0 0 " + longText(300),
		"push 1", "push 2", "push 9", "push 999999999", "pull 2", "pull 999999999", "again 0", "again 2", "again 999999999",
		"text 2", "text 3", "text 999999999", "find 0 ", "find 0 G", "find 0 \xff", "find 2 a", "find 999999999 a", "find 0 " + longText(301),
		"split 0 0", "split 0 5", "split 0 99", "split 0 999999999", "split 2 1", "split 999999999 1", "join 0 0", "join 0 3", "join 0 99", "join 0 999999999", "join 2 5",
		"wrap 0 0 2 A", "wrap 0 2 1 A", "wrap 0 0 99 A", "wrap 0 0 0 G", "wrap 0 0 0 ", "wrap 0 0 0 A/", "wrap 0 0 0 AB", "wrap 0 0 0 \xff", "wrap 2 0 0 A", "wrap 0 999999999 999999999 A",
		"unwrap 0 1", "unwrap 0 4", "unwrap 0 99", "unwrap 0 999999999", "unwrap 2 0", "move 0 0 0", "move 0 0 4", "move 0 0 5", "move 0 1 0", "move 0 0 99", "move 0 99 0", "move 2 0 9", "move 0 999999999 0", "move 0 0 999999999",
		"name 0 0 A", "name 0 1 A", "name 0 0 ", "name 0 0 G", "name 0 0 a", "name 0 0 BB", "name 0 99 B", "name 0 999999999 B", "name 2 0 B",
		"lines 0 0", "lines 0 2", "lines 0 81", "lines 0 999999999", "lines 2 9", "diff 0 2", "diff 2 0", "diff 2 2", "diff 0 999999999",
		"match a A", "match A a", "match  A", "match G A", "match ( A", "match A* G", "match A* A-", "match A \xff", "match \xff A", "match " + rowOfA(61) + " A", "match A " + rowOfA(61),
	}
	for _, line := range refused {
		checkLineAlone(t, begin, line, "no", want)
	}
	for _, line := range unknownLines() {
		checkLineAlone(t, begin, line, "what", want)
	}
}

func checkLineAlone(t *testing.T, begin []string, line, answer string, want impl.Meeting) {
	t.Helper()
	s := script(append(slices.Clone(begin), line)...)
	got, is := checkScript(t, s)
	if !is || got[len(got)-1] != answer {
		t.Errorf("the answer to %q is %q, not %q", line, got, answer)
	}
	if m, ok := impl.WritersOf(s); !ok || !sameMeeting(m, want) {
		t.Errorf("%q has changed the meeting: %s", line, outset(m))
	}
}

// rightLines are lines that can be done behind the beginning of
// TestWrongLinesChangeNothing, one of each kind.
func rightLines() []string {
	return []string{"edit 0 0 0 a", "push 0", "pull 0", "again 1", "settle", "text 0", "server", "log", "split 0 2", "join 0 5", "wrap 0 0 0 C", "unwrap 0 0", "move 0 0 9", "name 0 0 B", "find 0 a", "lines 0 80", "diff 0 1", "match A A"}
}

// unknownLines are of no form.
func unknownLines() []string {
	out := []string{
		"", " ", "  ", "\t", "\r", "\x00", "\xff", "fly", "edi", "editt", "Edit 0 0 0 a", "settled", "set tle", "logs", "servers", "texts 0", "what", "ok", "no",
		"edit", "edit ", "edit 0", "edit 0 0", "edit 0 0 0", "edit 0 0 a", "edit a 0 0 a", "edit 0 a 0 a", "edit  0 0 0 a", "edit 0  0 0 a", "edit 0 0  0 a", "edit\t0 0 0 a",
		"push", "push ", "push 0 ", "push 0 1", "push  0", "push a", "pull", "pull ", "pull 0 0", "again", "again ", "again 0 0", "settle ", "settle 0", " settle", "server ", "server 0", "log ", "log 0", "log\r", "text", "text ", "text 0 ", "text 0 0",
		"split", "split 0", "split 0 ", "split 0 1 ", "split 0 1 1", "join", "join 0", "join 0 ", "join 0 5 5", "wrap 0 0 0", "wrap 0 0 A", "wrap 0 0", "unwrap 0", "unwrap 0 0 0", "move 0 0", "move 0 0 9 ", "move 0 0 9 9", "name 0 0", "name 0 B", "name 0",
		"find", "find 0", "find a", "find a 0", "lines 0", "lines 0 ", "lines 0 9 9", "lines", "diff 0", "diff 0 ", "diff 0 1 1", "diff", "match", "match ", "match A", "match A A ", "match A A A", "match A  A", "match  A A",
	}
	for _, line := range rightLines() {
		out = append(out, " "+line, "x"+line, strings.ToUpper(line), strings.Replace(line, " ", "\t", 1)+"\t", line[1:])
	}
	return slices.DeleteFunc(out, func(line string) bool { _, is := askedByHand(line); return is })
}

// Numbers have nine digits at most, no needless noughts, and digits alone.
func TestNumbersInLines(t *testing.T) {
	begin := []string{"edit 0 0 0 Aab/Acd/ e", "settle", "edit 0 2 2 x", "edit 1 0 0 y", "edit 1 1 1 B/", "push 1"}
	want, _ := impl.WritersOf(script(begin...))
	wrong := []string{"", "00", "01", "010", "000000001", "-0", "-1", "+0", "+1", "0x0", "1e0", "1.", ".1", "0.0", "1_0", "0a", "a", "A", "1000000000", "9999999999", "4294967296", "18446744073709551616", "18446744073709551617", "99999999999999999999", strings.Repeat("9", 500), strings.Repeat("0", 500), "0\x00", "\xff", "\u0661", "0\r", "0/", "0:", "/", ":"}
	many := 0
	for _, line := range rightLines() {
		words := strings.Split(line, " ")
		for i, word := range words {
			if _, err := strconv.Atoi(word); err != nil {
				continue
			}
			for _, n := range wrong {
				turned := slices.Clone(words)
				turned[i] = n
				checkLineAlone(t, begin, strings.Join(turned, " "), "what", want)
				many++
			}
			for _, n := range []string{"999999999", "100000000", "123456789", "99999999", "301"} {
				turned := slices.Clone(words)
				turned[i] = n
				checkLineAlone(t, begin, strings.Join(turned, " "), "no", want)
			}
		}
	}
	if many != 26*len(wrong) {
		t.Errorf("%d numbers were looked at", many)
	}
}

// A script's beginning: two clients, the empty text, and nothing on its way.
func TestScriptsBegin(t *testing.T) {
	if got := impl.RunWriters(""); got != "" {
		t.Errorf("%q", got)
	}
	m, ok := impl.WritersOf("")
	want, _ := impl.NewMeeting(2, "")
	if !ok || !sameMeeting(m, want) || !sameMeeting(m, newMeet()) {
		t.Errorf("%s, %v", outset(m), ok)
	}
	checkAnswers(t, "text 0", "text ", "text 1", "text ", "text 2", "no", "server", "text ", "log", "log", "push 0", "no", "pull 0", "no", "again 0", "no", "settle", "ok", "find 0 a", "at", "lines 0 1", "cost 0", "diff 0 1", "apart 0")
}

// What is no script has the zero answer; the limits may be met exactly.
func TestLimitsOfScripts(t *testing.T) {
	line := "edit 0 0 0 " + longText(10)
	lines := func(n int) string { return strings.Repeat("log\n", n) }
	full := func(n int) string {
		s := script(line)
		return s + strings.Repeat("a", n-len(s)-1) + "\n"
	}
	for s, is := range map[string]bool{
		"":                               true,
		"\n":                             true,
		"log\n":                          true,
		"\n\n":                           true,
		"log":                            false,
		"\nlog":                          false,
		"log\n ":                         false,
		"log\n\x00":                      false,
		"log\r":                          false,
		" ":                              false,
		lines(impl.MaxLines):             true,
		lines(impl.MaxLines + 1):         false,
		lines(impl.MaxLines) + "\n":      false,
		lines(impl.MaxLines-1) + "\n":    true,
		lines(impl.MaxLines) + "log":     false,
		lines(impl.MaxLines - 1)[1:]:     true,
		lines(impl.MaxLines - 1)[:316-1]: false,
		strings.Repeat("\n", 80):         true,
		strings.Repeat("\n", 81):         false,
		full(impl.MaxScript):             true,
		full(impl.MaxScript - 1):         true,
		full(impl.MaxScript + 1):         false,
		full(impl.MaxScript) + "\n":      false,
		full(impl.MaxScript + 1)[:2500]:  false,
		full(impl.MaxScript + 1)[1:]:     true,
		strings.Repeat("a", 2499) + "\n": true,
		strings.Repeat("a", 2500) + "\n": false,
		strings.Repeat("a", 2500):        false,
		strings.Repeat("\n", 2500):       false,
		strings.Repeat("\n", 2501):       false,
		strings.Repeat("log\n", 1000000): false,
	} {
		if _, told := checkScript(t, s); told != is {
			t.Errorf("%.60q (%d bytes) is told a script: %v", s, len(s), told)
		}
		if m, ok := impl.WritersOf(s); ok != is || !is && !isZeroMeeting(m) || is && len(m.Clients) != 2 {
			t.Errorf("WritersOf(%.60q) (%d bytes) = %s, %v", s, len(s), outset(m), ok)
		}
		if got := impl.RunWriters(s); !is && got != "" || strings.Count(got, "\n") != strings.Count(s, "\n") && is {
			t.Errorf("RunWriters(%.60q) (%d bytes) = %.300q", s, len(s), got)
		}
	}
	if impl.MaxScript != 2500 || impl.MaxLines != 80 {
		t.Error(impl.MaxScript, impl.MaxLines)
	}
}

// manyScripts are of every kind of line.
func manyScripts(f func(lines []string)) {
	f(nil)
	f(strings.Split("edit 0 0 0 Ahello/|push 0|pull 1|edit 1 6 6  you|split 0 3|settle|server|text 1|find 0 l|diff 0 1|log|match A*t AAt|fly", "|"))
	for seed := range uint32(60) {
		c := &chooser{1900 + seed}
		m := newMeet()
		var lines []string
		size := 0
		for range impl.MaxLines {
			line := c.scriptLine(m)
			if size += len(line) + 1; size > impl.MaxScript {
				break
			}
			lines = append(lines, line)
			m, _ = answeredByHand(m, line)
		}
		f(lines)
	}
}

// scriptLine is a line that can mostly be done; some are of no form.
func (c *chooser) scriptLine(m impl.Meeting) string {
	i := c.next(2)
	s := m.Clients[i].Text
	n := len(s)
	at := c.next(n + 1)
	switch c.next(16) {
	case 0, 1:
		return []string{"push ", "pull ", "again "}[c.next(3)] + strconv.Itoa(i)
	case 2:
		return "settle"
	case 3:
		return []string{"server", "log", "text 0", "text 1", "text 2"}[c.next(5)]
	case 4:
		return fmt.Sprintf("find %d %s", i, s[at:min(n, at+c.next(3))])
	case 5:
		return fmt.Sprintf("lines %d %d", i, c.next(20))
	case 6:
		return fmt.Sprintf("diff %d %d", i, c.next(2))
	case 7:
		return "match " + c.expr(1+c.next(9)) + " " + c.word(c.next(5))
	case 8:
		line := c.scriptLine(m)
		return line[:c.next(len(line)+1)] + []string{"", " ", "0", "a", "\xff"}[c.next(5)]
	case 9, 10:
		return fmt.Sprintf("edit %d %d %d %s", i, at, min(n, at+c.next(4)), c.docPiece())
	}
	return c.commandLine(i, c.commandOn(s))
}

// docPiece keeps a document a document where it is put in at any place of one.
func (c *chooser) docPiece() string {
	return []string{"", "a b", "A/", "Bxy z/", "CD//", "A a b/Bb/", "c", "F,./"}[c.next(8)]
}

// commandLine has an edit for the two kinds that no line stands for.
func (c *chooser) commandLine(client int, x impl.Command) string {
	switch x.Kind {
	case impl.CmdInsert:
		return fmt.Sprintf("edit %d %d %d %s", client, x.At, x.At, x.Text)
	case impl.CmdRemove:
		return fmt.Sprintf("edit %d %d %d %s", client, x.At, x.To, "")
	case impl.CmdWrap:
		return fmt.Sprintf("wrap %d %d %d %s", client, x.At, x.To, x.Text)
	case impl.CmdUnwrap:
		return fmt.Sprintf("unwrap %d %d", client, x.At)
	case impl.CmdSplit:
		return fmt.Sprintf("split %d %d", client, x.At)
	case impl.CmdJoin:
		return fmt.Sprintf("join %d %d", client, x.At)
	case impl.CmdMove:
		return fmt.Sprintf("move %d %d %d", client, x.At, x.To)
	}
	return fmt.Sprintf("name %d %d %s", client, x.At, x.Text)
}

// Long scripts are answered as it is reckoned by hand; each kind of line is met
// with each of its answers.
func TestLongScripts(t *testing.T) {
	met := map[string]int{}
	manyScripts(func(lines []string) {
		answers, is := checkScript(t, script(lines...))
		if !is || len(answers) != len(lines) {
			t.Fatalf("%q is no script", lines)
		}
		for i, line := range lines {
			first, _, _ := strings.Cut(line, " ")
			answer, _, _ := strings.Cut(answers[i], " ")
			if answer == "what" {
				first = ""
			}
			met[first+" "+answer]++
		}
	})
	for _, line := range rightLines() {
		first, _, _ := strings.Cut(line, " ")
		answers := map[string]string{"text": "text no", "server": "text", "log": "log", "find": "at no", "lines": "cost no", "diff": "apart", "match": "yes not", "settle": "ok"}[first]
		if answers == "" {
			answers = "ok no"
		}
		for _, answer := range strings.Split(answers, " ") {
			if met[first+" "+answer] < 3 {
				t.Errorf("the lines of %s had the answer %s %d times", first, answer, met[first+" "+answer])
			}
		}
	}
	if met[" what"] < 50 {
		t.Errorf("only %d lines were not known", met[" what"])
	}
}

// Promise 19: the answers of a script's lines are the same whatever lines follow,
// and the meeting that they lead to is the one from which the others go on.
func TestAnswersDoNotHangOnWhatFollows(t *testing.T) {
	behind := [][]string{{}, {""}, {"fly"}, rightLines(), {"settle"}, {"edit 0 0 0 z", "edit 1 0 0 z", "settle", "settle", "log"}, {"\xff"}, slices.Repeat([]string{"log"}, impl.MaxLines)}
	many := 0
	manyScripts(func(lines []string) {
		want := impl.RunWriters(script(lines...))
		for k := range len(lines) + 1 {
			ahead := script(lines[:k]...)
			answers := impl.RunWriters(ahead)
			if !strings.HasPrefix(want, answers) || strings.Count(answers, "\n") != k {
				t.Fatalf("%q has the answers %q, and with more lines behind %q", ahead, answers, want)
			}
			for i, l := range behind {
				l = l[:min(len(l), impl.MaxLines-k)]
				s := ahead + script(l...)
				if len(s) > impl.MaxScript || (i+k)%4 > 0 {
					continue
				}
				got := impl.RunWriters(s)
				if !strings.HasPrefix(got, answers) || strings.Count(got, "\n") != k+len(l) {
					t.Fatalf("%q has the answers %q, and with %q behind %q", ahead, answers, l, got)
				}
				many++
			}
		}
	})
	if many < 5000 {
		t.Errorf("only %d scripts were held against their beginnings", many)
	}
}

// WritersOf of each beginning is the meeting from which the next line is answered.
func TestWritersGoOn(t *testing.T) {
	many := 0
	manyScripts(func(lines []string) {
		m := newMeet()
		for k, line := range lines {
			m, _ = answeredByHand(m, line)
			got, ok := impl.WritersOf(script(lines[:k+1]...))
			if !ok || !sameMeeting(got, m) {
				t.Fatalf("WritersOf(%q) = %s, %v, not %s", lines[:k+1], outset(got), ok, outset(m))
			}
			if !impl.GoodMeeting(got) {
				t.Fatalf("WritersOf(%q) = %s is not good", lines[:k+1], outset(got))
			}
			many++
		}
	})
	if many < 3000 {
		t.Errorf("only %d beginnings", many)
	}
}

// Each single line behind each of many beginnings.
func TestEachLineBehindEachBeginning(t *testing.T) {
	begins := [][]string{
		{},
		{"edit 0 0 0 Aab/Acd/ e"},
		{"edit 0 0 0 Aab/Acd/ e", "settle"},
		{"edit 0 0 0 Aab/Acd/ e", "settle", "edit 0 2 2 x", "edit 1 0 0 y", "edit 1 1 1 B/", "push 1"},
		{"edit 0 0 0 AB//", "push 0", "pull 1", "name 1 0 C", "push 1", "edit 0 1 1 a"},
	}
	for _, begin := range begins {
		for _, word := range []string{"push", "pull", "again", "text"} {
			for i := range 4 {
				checkScript(t, script(append(slices.Clone(begin), fmt.Sprintf("%s %d", word, i), "settle")...))
			}
		}
		for _, word := range []string{"split", "join", "unwrap", "lines", "diff", "move", "name", "wrap", "edit", "find"} {
			for i := range 3 {
				for at := range 14 {
					for _, rest := range []string{"", " ", " A", " B", " a", " 0", " 3", " 9", " 2 A", " 11 C", " 4 D", " 3 b ", " 9 "} {
						checkScript(t, script(append(slices.Clone(begin), fmt.Sprintf("%s %d %d%s", word, i, at, rest), "text 0")...))
					}
				}
			}
		}
	}
}

// Promise 20: all short texts, most of which are no scripts.
func TestShortTextsAsScripts(t *testing.T) {
	scripts := 0
	check := func(s string) {
		if _, is := checkScript(t, s); is {
			scripts++
		}
	}
	for _, s := range allTexts("log \n", 5) {
		check(s)
	}
	for _, s := range allTexts("01 \n", 5) {
		check("text" + s)
		check("text" + s + "\n")
		check("diff " + s + "\n")
	}
	for _, s := range allTexts("At !\n", 4) {
		check("match" + s + "\n")
		check("match A" + s + "\n")
	}
	for _, s := range allTexts("0aA/ \n", 4) {
		check("edit 0 0 0" + s + "\ntext 0\n")
		check("edit 0 0 0 A/\nname 0 0" + s + "\n")
	}
	if scripts < 5000 {
		t.Errorf("only %d scripts", scripts)
	}
}

// Promise 20: right lines with a byte more, another or one less at each place.
func TestTurnedLinesOfScripts(t *testing.T) {
	begin := script("edit 0 0 0 Aab/Acd/ e", "settle", "edit 0 2 2 x", "edit 1 0 0 y", "edit 1 1 1 B/", "push 1")
	for _, line := range rightLines() {
		for _, turned := range turnedTexts(line+"\n", " 01A/a\n\t-\x00\xff") {
			checkScript(t, begin+turned)
			checkScript(t, turned+line+"\n")
		}
	}
	for _, line := range rightLines() {
		for k := range 256 {
			c := string([]byte{byte(k)})
			checkScript(t, begin+line+c+"\n")
			checkScript(t, begin+c+line+"\n")
			checkScript(t, begin+line[:len(line)-1]+c+"\n")
			checkScript(t, begin+line+"\n"+c)
		}
	}
}

// A command changes its client as an edit by hand does, and is on its way then.
func TestCommandsInScriptsAreEdits(t *testing.T) {
	for _, x := range []struct{ text, command, edit string }{
		{"Aab/", "split 0 2", "edit 0 2 2 /A"},
		{"Aa/Ab/", "join 0 3", "edit 0 2 4 "},
		{"", "wrap 0 0 0 B", "edit 0 0 0 B/"},
		{"aAb/", "name 0 1 F", "edit 0 1 2 F"},
		{"aAb/c", "wrap 0 2 2 D", "edit 0 2 2 D/"},
		{"aA/c", "unwrap 0 1", "edit 0 1 3 "},
		{"A/bc", "move 0 0 4", ""},
		{"aAb/c", "wrap 0 0 5 E", ""},
		{"aAb/c", "unwrap 0 1", ""},
	} {
		for _, ways := range [][]string{
			{"edit 0 0 0 " + x.text, "settle", "%", "text 0", "push 0", "pull 1", "pull 0", "server", "text 1", "log"},
			{"edit 0 0 0 " + x.text, "settle", "edit 1 0 0 z", "push 1", "%", "push 0", "again 0", "settle", "server", "text 0", "log"},
			{"edit 0 0 0 " + x.text, "%", "push 0", "settle", "text 1", "log"},
			{"edit 0 0 0 " + x.text, "settle", "edit 0 0 0 y", "edit 0 0 1 ", "%", "settle", "text 1", "log"},
		} {
			checkCommandIsEdit(t, ways, x.command, x.edit)
		}
	}
}

// checkCommandIsEdit puts both into the lines where % stands. What is on its way is
// looked at just behind it.
func checkCommandIsEdit(t *testing.T, ways []string, command, edit string) {
	t.Helper()
	with := func(line string, n int) string {
		return strings.Replace(script(ways[:n]...), "%", line, 1)
	}
	at := slices.Index(ways, "%")
	for n := at + 1; n <= len(ways); n++ {
		answers, _ := checkScript(t, with(command, n))
		if answers[at] != "ok" {
			t.Fatalf("%q: %q is answered %q", ways, command, answers[at])
		}
		if edit == "" {
			continue
		}
		a, _ := impl.WritersOf(with(command, n))
		b, _ := impl.WritersOf(with(edit, n))
		if !sameMeeting(a, b) || impl.RunWriters(with(command, n)) != impl.RunWriters(with(edit, n)) {
			t.Fatalf("%q leads to %s, %q to %s", with(command, n), outset(a), with(edit, n), outset(b))
		}
	}
	before, _ := impl.WritersOf(script(ways[:at]...))
	m, _ := impl.WritersOf(with(command, at+1))
	c, was := m.Clients[0], before.Clients[0]
	if !c.Waits || was.Waits != c.Dirty || c.Text == was.Text || c.Seq == 0 {
		t.Errorf("%q: behind %q the client is %s", ways, command, outset(c))
	}
	settled, ok := impl.SettleMeeting(m)
	if !ok || !strings.HasSuffix(impl.RunWriters(with(command, at+1)+"settle\nserver\n"), "ok\ntext "+settled.Server.Text+"\n") {
		t.Errorf("%q: %q does not come to the server", ways, command)
	}
}

// A script of steps alone leads to the meeting that PlayMeeting makes of them.
func TestScriptsPlayMeetings(t *testing.T) {
	for seed := range uint32(30) {
		c := &chooser{seed}
		m := newMeet()
		var steps []impl.MeetStep
		var lines []string
		for range impl.MaxLines {
			x := c.meetStep(m, 3)
			steps = append(steps, x)
			lines = append(lines, []string{"", fmt.Sprintf("edit %d %d %d %s", x.Client, x.From, x.To, x.Put), fmt.Sprint("push ", x.Client), fmt.Sprint("pull ", x.Client), fmt.Sprint("again ", x.Client)}[x.Kind])
			if next, ok := stepByHand(m, x); ok {
				m = next
			}
		}
		s := script(lines...)
		want, did, _ := impl.PlayMeeting(2, "", steps)
		got, ok := impl.WritersOf(s)
		if !ok || !sameMeeting(got, want) {
			t.Fatalf("WritersOf(%q) = %s, not %s", s, outset(got), outset(want))
		}
		answers, _ := checkScript(t, s)
		for i, answer := range answers {
			if (answer == "ok") != did[i] {
				t.Fatalf("%q: the answer to %q is %q", s, lines[i], answer)
			}
		}
	}
}

// A meeting that can't be settled stays as it was: the log is full, or what came of
// all changes would be too long.
func TestScriptsThatCannotBeSettled(t *testing.T) {
	var lines []string
	for range impl.MaxEntries / 4 {
		lines = append(lines, "edit 0 0 0 a", "edit 0 0 0 b", "edit 1 0 0 c", "edit 1 0 0 d", "settle")
	}
	ids := "log"
	m, _ := impl.WritersOf(script(lines...))
	for _, e := range m.Server.Log {
		ids += fmt.Sprintf(" %d.%d", e.Client, e.Seq)
	}
	if len(m.Server.Log) != impl.MaxEntries || strings.Count(ids, " ") != impl.MaxEntries || !strings.HasSuffix(ids, "0.30") && !strings.HasSuffix(ids, "1.30") {
		t.Fatalf("%s", outset(m))
	}
	answers, _ := checkScript(t, script(append(lines, "log", "settle", "edit 0 0 1 ", "settle", "push 0")...))
	if got := answers[len(lines):]; !slices.Equal(got, []string{ids, "ok", "ok", "no", "no"}) {
		t.Errorf("%q", got)
	}
	waits, _ := impl.WritersOf(script(append(lines, "edit 0 0 1 ", "settle")...))
	if !waits.Clients[0].Waits || len(waits.Clients[0].Text) != 59 || len(waits.Server.Text) != 60 {
		t.Errorf("%s", outset(waits))
	}
	half := longText(impl.MaxDoc / 2)
	checkAnswers(t, "edit 0 0 0 "+half, "ok", "edit 1 0 0 "+half, "ok", "settle", "ok", "edit 0 0 0 a", "no", "edit 0 0 1 b", "ok")
	m = checkAnswers(t, "edit 0 0 0 "+half, "ok", "edit 1 0 0 "+half+"b", "ok", "settle", "no", "text 0", "text "+half, "log", "log", "push 0", "ok", "push 1", "no", "pull 1", "no", "settle", "no", "server", "text "+half)
	if !m.Clients[0].Waits || !m.Clients[1].Waits || len(m.Server.Log) != 1 || m.Clients[0].Version != 0 {
		t.Errorf("%s", outset(m))
	}
}

// What a client has done since its change went on its way has at most MaxParts parts:
// a line that would need more is refused, and the client stays as it was.
func TestScriptsThatFillABuffer(t *testing.T) {
	for _, form := range []string{"edit 0 %d %d x", "wrap 0 %d %d A"} {
		pairs := []string{"edit 0 0 0 " + longText(200), "ok", "settle", "ok", "edit 0 0 1 b", "ok"}
		for k := range impl.MaxParts/2 - 1 {
			pairs = append(pairs, fmt.Sprintf(form, 190-3*k, 190-3*k), "ok")
		}
		m := checkAnswers(t, pairs...)
		if c := m.Clients[0]; len(c.Buffer) != impl.MaxParts-1 {
			t.Errorf("%s", outset(c))
		}
		refused := append(slices.Clone(pairs), fmt.Sprintf(form, 50, 50), "no", "push 0", "ok", "text 1", "text "+longText(200))
		if c := checkAnswers(t, refused...).Clients[0]; !sameClient(c, m.Clients[0]) {
			t.Errorf("%s, not %s", outset(c), outset(m.Clients[0]))
		}
		end := len(m.Clients[0].Text)
		full := checkAnswers(t, append(pairs, fmt.Sprintf(form, end, end), "ok", fmt.Sprintf(form, 50, 50), "no", "settle", "ok")...)
		if full.Clients[1].Text != full.Server.Text || len(full.Server.Text) <= end {
			t.Errorf("%s", outset(full))
		}
	}
}

// Limits of other chapters, met exactly and gone beyond by one.
func TestLimitsWithinLines(t *testing.T) {
	full := longText(impl.MaxDoc)
	checkAnswers(t, "edit 0 0 0 "+full, "ok", "text 0", "text "+full, "wrap 0 0 300 A", "no", "edit 0 0 0 a", "no", "edit 0 0 1 b", "ok", "find 0 "+full, "at", "find 1 a", "at", "diff 0 1", "apart 300", "lines 0 80", "no")
	checkAnswers(t, "edit 0 0 0 "+full+"a", "no", "text 0", "text ", "find 0 "+full, "at", "find 0 "+full+"a", "no")
	checkAnswers(t, "edit 0 0 0 "+full[:298], "ok", "wrap 0 0 298 A", "ok", "wrap 0 0 300 A", "no", "edit 1 0 0 "+full[:299], "ok", "wrap 1 0 299 A", "no")
	word := longText(impl.MaxWidth)
	checkAnswers(t, "edit 0 0 0 "+word, "ok", "lines 0 80", "cost 0", "lines 0 79", "no", "edit 0 0 0 a", "ok", "lines 0 80", "no", "edit 0 1 1  ", "ok", "lines 0 80", "cost 6241")
	most := strings.Repeat("a ", impl.MaxWords)
	checkAnswers(t, "edit 0 0 0 "+most, "ok", "lines 0 1", "cost 0", "lines 0 3", "cost 0", "edit 0 0 0 b ", "ok", "lines 0 1", "no")
	checkAnswers(t, "match "+rowOfA(impl.MaxExpr)+" "+rowOfA(impl.MaxWord), "yes", "match A* "+rowOfA(impl.MaxWord), "yes", "match A* "+rowOfA(impl.MaxWord+1), "no", "match "+rowOfA(impl.MaxExpr+1)+" A", "no", "match "+deepExpr(mostNested)+" A", "yes", "match "+deepExpr(mostNested+1)+" A", "no")
	deep := strings.Repeat("A", impl.MaxDeep) + strings.Repeat("/", impl.MaxDeep)
	checkAnswers(t, "edit 0 0 0 "+deep, "ok", "wrap 0 12 12 B", "no", "wrap 0 0 24 B", "no", "wrap 0 0 0 B", "ok", "split 0 13", "ok", "unwrap 0 2", "ok", "wrap 0 2 2 C", "ok")
	checkAnswers(t, "edit 0 0 0 A"+full[:296]+"/", "ok", "split 0 9", "ok", "split 0 9", "no", "join 0 10", "ok")
}

// Promise 20: all 256 bytes at each place where a line has a text.
func TestEachByteInLines(t *testing.T) {
	for k := range 256 {
		c := string([]byte{byte(k)})
		for _, line := range []string{"edit 0 0 0 %", "edit 0 0 0 a%b", "find 0 %", "find 0 a%", "wrap 0 0 0 %", "name 0 0 %", "match % A", "match A %", "match A%B B", "%", "log%", "push %", "edit % 0 0 a", "text 0%"} {
			checkScript(t, "edit 0 0 0 Aab/\n"+strings.ReplaceAll(line, "%", c)+"\ntext 0\n")
			checkScript(t, "edit 0 0 0 Aab/\n"+strings.ReplaceAll(line, "%", c+c)+"\ntext 0\n")
		}
	}
	for _, s := range slices.Concat(notTexts(), notExprs(), notWords()) {
		if len(s) > 2*impl.MaxScript {
			s = s[:2*impl.MaxScript]
		}
		for _, line := range []string{"edit 0 0 0 ", "find 0 ", "wrap 0 0 0 ", "name 0 0 ", "match A* ", "match ", "match A", ""} {
			checkScript(t, line+s)
			checkScript(t, line+s+"\n")
			checkScript(t, line+s+" A\n")
		}
	}
}

// isOneByte tells of texts that may lie in memory that all such texts share.
func isOneByte(x stretch) bool { return x.to-x.from == 1 }

// Promise 20: what is answered shares no memory with the text, nor with another
// answer, and no two lists or texts of one meeting share any.
func TestScriptsAreNewMemory(t *testing.T) {
	many := 0
	manyScripts(func(lines []string) {
		s := script(lines...)
		given := stretchOfText(s)
		answers := impl.RunWriters(s)
		m, _ := impl.WritersOf(s)
		n, _ := impl.WritersOf(s)
		l, others := slices.DeleteFunc(stretchesOfMeeting(m), isOneByte), slices.DeleteFunc(stretchesOfMeeting(n), isOneByte)
		if stretchOfText(answers).meets(given) || anyMeet(l, []stretch{given, stretchOfText(answers)}) {
			t.Fatalf("an answer lies in the memory of the script %q", s)
		}
		if anyMeet(l, others) {
			t.Fatalf("%q: two answers lie in one memory", s)
		}
		for k, x := range l {
			if slices.ContainsFunc(l[:k], x.meets) {
				t.Fatalf("%q: two lists or texts of %s lie in one memory", s, outset(m))
			}
		}
		many += len(l)
		runtime.KeepAlive([]any{s, answers, m, n})
	})
	if many < 500 {
		t.Errorf("only %d lists and texts were looked at", many)
	}
}

// Promise 20: a script is as it was behind its answers, and so is a meeting that was
// answered when another answer is written into.
func TestScriptsAreToldAnew(t *testing.T) {
	manyScripts(func(lines []string) {
		s := script(lines...)
		held := strings.Clone(s)
		want, _ := impl.WritersOf(s)
		answers := strings.Clone(impl.RunWriters(s))
		m, _ := impl.WritersOf(s)
		wipeMeeting(m)
		impl.RunWriters("edit 0 0 0 zz\nsettle\nwrap 0 0 2 F\n")
		impl.WritersOf("log")
		again, ok := impl.WritersOf(s)
		if !ok || s != held || !sameMeeting(again, want) || impl.RunWriters(s) != answers {
			t.Fatalf("%q is told another way", held)
		}
	})
}

// The greatest scripts are answered in a moment, and such as go far beyond all
// limits are refused in one.
func TestGreatestScriptsInAMoment(t *testing.T) {
	full := "edit 0 0 0 " + longText(299)
	words := "edit 0 0 0 " + strings.Repeat("aaa ", 59)
	for k, s := range []string{
		script(append([]string{full, "edit 1 0 0 b", "settle"}, slices.Repeat([]string{"diff 0 1", "find 0 " + longText(9)}, 38)...)...),
		script(append([]string{words, "settle"}, slices.Repeat([]string{"lines 0 80", "lines 1 9"}, 39)...)...),
		script(append([]string{full, "settle"}, slices.Repeat([]string{"edit 0 0 1 a", "edit 1 9 9 ", "settle"}, 26)...)...),
		script(slices.Repeat([]string{"match (((A+)+)+)+B AAAAAAAAAAC"}, 80)...),
		script(slices.Repeat([]string{"wrap 0 0 0 A"}, 80)...),
		strings.Repeat("\n", 3000000),
		strings.Repeat("a", 3000000),
		strings.Repeat("edit 0 0 0 a\n", 300000),
		strings.Repeat("match "+strings.Repeat("(", 60)+" A\n", 37),
		"push " + strings.Repeat("9", 2490) + "\n",
		strings.Repeat(" ", impl.MaxScript-1) + "\n",
	} {
		start := time.Now()
		for range 3 {
			impl.RunWriters(s)
			impl.WritersOf(s)
		}
		if took := time.Since(start); took > 5*time.Second {
			t.Errorf("the script %d took %v", k, took)
		}
	}
}

// FuzzScripts: no text makes one of the two functions panic, or tell another thing than the document says.
func FuzzScripts(f *testing.F) {
	f.Add("edit 0 0 0 Ahello/\npush 0\npull 1\nedit 1 6 6  you\nsplit 0 3\nsettle\nserver\ntext 1\nfind 0 l\ndiff 0 1\nlog\nmatch A*t AAt\nfly\n", uint32(1))
	f.Add(script(rightLines()...), uint32(2))
	f.Add("match - \nname 0 0 \nedit 0 0 0 \nlines 1 80\nwrap 0 0 0 A\njoin 0 2\nmove 0 0 2\nagain 1\nunwrap 0 0\n", uint32(3))
	f.Add("push 00\n\n edit 0 0 0 a\nlog", uint32(4))
	f.Fuzz(func(t *testing.T, s string, seed uint32) {
		checkScript(t, s)
		c := &chooser{seed}
		m := newMeet()
		var lines []string
		for range 12 {
			line := c.scriptLine(m)
			lines = append(lines, line)
			m, _ = answeredByHand(m, line)
		}
		checkScript(t, script(lines...)+s)
		checkScript(t, s+"\n"+script(lines...))
	})
}
