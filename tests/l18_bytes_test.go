package tests

import (
	"fmt"
	"hash/adler32"
	"math"
	"regexp"
	"runtime"
	"slices"
	"strconv"
	"strings"
	"testing"
	"time"

	"loop.example/g00253/impl"
)

var textOfParts = regexp.MustCompile(`^(=[0-9]+;|[+-][^;]*;)*$`)
var textOfEntry = regexp.MustCompile(`(?s)^([0-9]+) ([0-9]+) (.*) [0-9]+\n$`)
var textOfStart = regexp.MustCompile(`(?s)^start (.*) [0-9]+\n$`)

func sumByHand(s string) int { return int(adler32.Checksum([]byte(s))) }

func opTextByHand(op []impl.Part) (string, bool) {
	out := ""
	if !opIsGood(op) {
		return "", false
	}
	for _, p := range op {
		switch {
		case p.Put != "":
			out += fmt.Sprintf("+%s;", p.Put)
		case p.Drop != "":
			out += fmt.Sprintf("-%s;", p.Drop)
		default:
			out += fmt.Sprintf("=%d;", p.Keep)
		}
	}
	return out, true
}

// readOpByHand reads in a free way, and then asks whether the text is that of what
// was read.
func readOpByHand(s string) ([]impl.Part, bool) {
	if !textOfParts.MatchString(s) {
		return nil, false
	}
	var op []impl.Part
	for _, word := range strings.Split(s, ";") {
		switch {
		case word == "":
		case word[0] == '=':
			n, _ := strconv.Atoi(word[1:])
			op = append(op, keep(n))
		case word[0] == '+':
			op = append(op, put(word[1:]))
		default:
			op = append(op, drop(word[1:]))
		}
	}
	if text, good := opTextByHand(op); !good || text != s {
		return nil, false
	}
	return op, true
}

// sealedByHand is a line with its sum and its end.
func sealedByHand(head string) string { return fmt.Sprintf("%s %d\n", head, sumByHand(head)) }

// lineOf is the line of an entry, also of one that is not good but for its change.
func lineOf(e impl.Entry) string {
	text, _ := opTextByHand(e.Op)
	return sealedByHand(fmt.Sprintf("%d %d %s", e.Client, e.Seq, text))
}

func readEntryByHand(s string) (impl.Entry, bool) {
	words := textOfEntry.FindStringSubmatch(s)
	if words == nil {
		return impl.Entry{}, false
	}
	client, _ := strconv.Atoi(words[1])
	seq, _ := strconv.Atoi(words[2])
	op, ok := readOpByHand(words[3])
	e := entry(client, seq, op...)
	if !ok || !entryIsGood(e) || lineOf(e) != s {
		return impl.Entry{}, false
	}
	return e, true
}

// linesOf are the lines of a log, without asking whether the server is good.
func linesOf(start string, log ...impl.Entry) []string {
	out := []string{sealedByHand("start " + start)}
	for _, e := range log {
		out = append(out, lineOf(e))
	}
	return out
}

func logOf(start string, log ...impl.Entry) string { return strings.Join(linesOf(start, log...), "") }

func logTextByHand(s impl.Server) (string, bool) {
	if !serverIsGood(s) {
		return "", false
	}
	out := logOf(s.Start, s.Log...)
	if len(out) > impl.MaxLog {
		return "", false
	}
	return out, true
}

func openLogByHand(s string) (impl.Server, int, bool) {
	lines := strings.SplitAfter(s, "\n")
	words := textOfStart.FindStringSubmatch(lines[0])
	if len(s) > impl.MaxLog || words == nil || !textIsGood(words[1]) || sealedByHand("start "+words[1]) != lines[0] {
		return impl.Server{}, 0, false
	}
	out, taken := served(words[1], words[1]), len(lines[0])
	for _, line := range lines[1:] {
		e, is := readEntryByHand(line)
		text, _ := applyByHand(e.Op, out.Text)
		more := served(out.Start, text, append(cloneOfEntries(out.Log), e)...)
		if !is || !serverIsGood(more) {
			break
		}
		out, taken = more, taken+len(line)
	}
	return out, taken, true
}

// checkOpText asks for promise 18 of a change, whatever it is, and tells whether it
// has a text.
func checkOpText(t *testing.T, op []impl.Part) bool {
	t.Helper()
	want, good := opTextByHand(op)
	s, ok := impl.OpText(op)
	if s != want || ok != good {
		t.Fatalf("OpText(%s) = %.300q, %v, not %.300q, %v", outset(op), s, ok, want, good)
	}
	if !good {
		return false
	}
	if back, is := impl.ReadOp(s); !slices.Equal(back, op) || !is {
		t.Fatalf("%s has the text %q, of which is read: %s, %v", outset(op), s, outset(back), is)
	}
	return true
}

// checkReadOp asks for promise 18 of a text, whatever it is, and tells whether it
// is that of a change.
func checkReadOp(t *testing.T, s string) bool {
	t.Helper()
	want, is := readOpByHand(s)
	op, ok := impl.ReadOp(s)
	if !slices.Equal(op, want) || ok != is {
		t.Fatalf("ReadOp(%.300q) = %s, %v, not %s, %v", s, outset(op), ok, outset(want), is)
	}
	if !ok {
		return false
	}
	if back, good := impl.OpText(op); back != s || !good {
		t.Fatalf("of %q is read %s, which has the text %q, %v", s, outset(op), back, good)
	}
	return true
}

// checkEntryLine asks for promise 18 of an entry, whatever it is.
func checkEntryLine(t *testing.T, e impl.Entry) bool {
	t.Helper()
	want, good := "", entryIsGood(e)
	if good {
		want = lineOf(e)
	}
	line, ok := impl.EntryLine(e)
	if line != want || ok != good {
		t.Fatalf("EntryLine(%s) = %.300q, %v, not %.300q, %v", outset(e), line, ok, want, good)
	}
	if !good {
		return false
	}
	if back, is := impl.ReadEntry(line); !sameEntry(back, e) || !is {
		t.Fatalf("%s has the line %q, of which is read: %s, %v", outset(e), line, outset(back), is)
	}
	return true
}

// checkReadEntry asks for promise 18 of a line, whatever it is.
func checkReadEntry(t *testing.T, s string) bool {
	t.Helper()
	want, is := readEntryByHand(s)
	e, ok := impl.ReadEntry(s)
	if !sameEntry(e, want) || ok != is {
		t.Fatalf("ReadEntry(%.300q) = %s, %v, not %s, %v", s, outset(e), ok, outset(want), is)
	}
	if !ok {
		return false
	}
	if back, good := impl.EntryLine(e); back != s || !good {
		t.Fatalf("of %q is read %s, which has the line %q, %v", s, outset(e), back, good)
	}
	return true
}

// checkLogText asks for promise 18 of a server, whatever it is, and tells whether
// it has a text.
func checkLogText(t *testing.T, s impl.Server) bool {
	t.Helper()
	want, good := logTextByHand(s)
	text, ok := impl.LogText(s)
	if text != want || ok != good {
		t.Fatalf("LogText(%s) = %.300q, %v, not %.300q, %v", outset(s), text, ok, want, good)
	}
	if !good {
		return false
	}
	if back, n, is := impl.OpenLog(text); !sameServer(back, s) || n != len(text) || !is {
		t.Fatalf("%s has the text %q, which opens as %s, %d, %v", outset(s), text, outset(back), n, is)
	}
	return true
}

// checkOpenLog asks for promise 18 of a text, whatever it is, and tells how many
// bytes were taken.
func checkOpenLog(t *testing.T, s string) int {
	t.Helper()
	want, number, is := openLogByHand(s)
	got, n, ok := impl.OpenLog(s)
	if !sameServer(got, want) || n != number || ok != is {
		t.Fatalf("OpenLog(%.300q) = %s, %d, %v, not %s, %d, %v", s, outset(got), n, ok, outset(want), number, is)
	}
	if !ok {
		return 0
	}
	if text, good := impl.LogText(got); text != s[:n] || !good {
		t.Fatalf("%.300q opens as %s, which has the text %.300q, %v", s, outset(got), text, good)
	}
	return n
}

// checkLogCuts asks for the other half of promise 18: of a log that is cut at any
// place the server comes back that was when the last whole line was written.
func checkLogCuts(t *testing.T, s impl.Server) {
	t.Helper()
	text, ok := impl.LogText(s)
	if !ok {
		t.Fatalf("%s has no text", outset(s))
	}
	lines := linesOf(s.Start, s.Log...)
	texts, _ := textsByHand(s.Start, s.Log)
	end, whole := 0, 0
	for n := range len(text) + 1 {
		if whole < len(lines) && n == end+len(lines[whole]) {
			end, whole = n, whole+1
		}
		want := impl.Server{}
		if whole > 0 {
			want = served(s.Start, texts[whole-1], s.Log[:whole-1]...)
		}
		if got, taken, is := impl.OpenLog(text[:n]); !sameServer(got, want) || taken != end || is != (whole > 0) {
			t.Fatalf("of %q opens %s, %d, %v, not %s, %d", text[:n], outset(got), taken, is, outset(want), end)
		}
	}
	if whole != len(lines) || end != len(text) {
		t.Fatalf("%q has %d lines, not %d", text, whole, len(lines))
	}
}

// turnedTexts are all texts that come of one by changing a byte, putting one in or
// leaving one out.
func turnedTexts(s string, with string) []string {
	var out []string
	for at := range len(s) + 1 {
		for i := range len(with) {
			out = append(out, s[:at]+with[i:i+1]+s[at:])
			if at < len(s) && s[at] != with[i] {
				out = append(out, s[:at]+with[i:i+1]+s[at+1:])
			}
		}
		if at < len(s) {
			out = append(out, s[:at]+s[at+1:])
		}
	}
	return out
}

// everyByte is all 256 bytes.
func everyByte() string {
	var out []byte
	for c := range 256 {
		out = append(out, byte(c))
	}
	return string(out)
}

// The document's words, one by one.
func TestTextsOfChangesOneByOne(t *testing.T) {
	for _, x := range []struct {
		s  string
		op []impl.Part
	}{
		{"", nil},
		{"=1;", []impl.Part{keep(1)}},
		{"=10;", []impl.Part{keep(10)}},
		{"=300;", []impl.Part{keep(300)}},
		{"+a;", []impl.Part{put("a")}},
		{"-a;", []impl.Part{drop("a")}},
		{"=2;+a b;-/;", []impl.Part{keep(2), put("a b"), drop("/")}},
		{"=1;=1;", []impl.Part{keep(1), keep(1)}},
		{"+a;+a;", []impl.Part{put("a"), put("a")}},
		{"-a;+b;", []impl.Part{drop("a"), put("b")}},
		{"+ ;- ;", []impl.Part{put(" "), drop(" ")}},
		{"+1;-20;=3;", []impl.Part{put("1"), drop("20"), keep(3)}},
		{"+0;-007;", []impl.Part{put("0"), drop("007")}},
		{"+ 1 2 ;", []impl.Part{put(" 1 2 ")}},
		{"+/.,;-Aa/;", []impl.Part{put("/.,"), drop("Aa/")}},
		{"+ABCDEF/;", []impl.Part{put("ABCDEF/")}},
	} {
		if s, ok := impl.OpText(x.op); s != x.s || !ok {
			t.Errorf("OpText(%v) = %q, %v, not %q", x.op, s, ok, x.s)
		}
		if op, ok := impl.ReadOp(x.s); !slices.Equal(op, x.op) || !ok {
			t.Errorf("ReadOp(%q) = %v, %v, not %v", x.s, op, ok, x.op)
		}
		checkOpText(t, x.op)
		checkReadOp(t, x.s)
	}
}

// Promise 18: all small changes, such as are at the limits, and such as are not
// good.
func TestChangesComeBackFromTheirTexts(t *testing.T) {
	some, not := 0, 0
	for _, op := range append(append(smallOps(4), edgeOps()...), notOps()...) {
		if checkOpText(t, op) {
			some++
		} else {
			not++
		}
	}
	c := &chooser{18}
	for k := range 400 {
		op := c.opOn(c.text(c.next(impl.MaxDoc+1)), 1+k%impl.MaxParts)
		if !checkOpText(t, op) {
			t.Fatalf("%v has no text", op)
		}
	}
	if some < 2000 || not < 100 {
		t.Errorf("%d changes have a text, %d none", some, not)
	}
}

// Promise 18: all short texts.
func TestShortTextsOfChanges(t *testing.T) {
	for _, x := range []struct {
		alphabet string
		n        int
		least    int
	}{
		{"=+-;01a", 6, 250},
		{"=+-;0123456789 .,/azAFGä\n\x00", 4, 500},
		{"=;130", 8, 60},
	} {
		some := 0
		for _, s := range allTexts(x.alphabet, x.n) {
			if checkReadOp(t, s) {
				some++
			}
		}
		if some < x.least {
			t.Errorf("only %d texts of %q are changes", some, x.alphabet)
		}
	}
	for _, s := range allTexts(everyByte(), 1) {
		for _, around := range []string{"%s", "%s;", "=%s;", "+%s;", "-%s;", "=1%s;", "+a%s;", "-%sa;", "=1;%s", "%s=1;", "%s+a;", "=1;%s+a;", "+a;-b%s"} {
			checkReadOp(t, fmt.Sprintf(around, s))
		}
	}
}

// Promise 18: the texts of longer changes with a byte changed, put in or left out.
func TestTurnedTextsOfChanges(t *testing.T) {
	c := &chooser{181}
	some, not := 0, 0
	see := func(s string) {
		if checkReadOp(t, s) {
			some++
		} else {
			not++
		}
	}
	for k := range 40 {
		s, ok := impl.OpText(c.opOn(c.text(c.next(12)), 1+k%6))
		if !ok {
			t.Fatal("a change has no text")
		}
		for _, turned := range turnedTexts(s, "=+-;012 /aA\n\xff") {
			see(turned)
		}
	}
	for _, turned := range turnedTexts("=12;+a0;-/;", everyByte()) {
		see(turned)
	}
	for range 300 {
		s, _ := impl.OpText(c.opOn(c.text(c.next(impl.MaxDoc+1)), impl.MaxParts))
		at := c.next(len(s) + 1)
		see(s[:at])
		see(s[at:])
		see(s[:at] + string("=+-;0129aA \n"[c.next(12)]) + s[at:])
	}
	if some < 2000 || not < 5000 {
		t.Errorf("%d texts are changes, %d not", some, not)
	}
}

// Wrong texts of changes, one by one: none is read.
func TestWrongTextsOfChanges(t *testing.T) {
	over := longText(impl.MaxDoc + 1)
	for _, s := range []string{
		";", ";;", "=1;;", ";=1;", "=1;;=1;", // a part that is empty
		"1;", "a;", "*a;", " =1;", "= 1;", "=1 ;", "=1; ", "=1;\n", "\n=1;", "=1\n;", "==1;", // one with no kind, or something beside it
		"=1", "+a", "-a", "=1;+a", "=1;=", "=1;+", "=1;-", "=", "+", "-", // one without its end
		"=;", "+;", "-;", "=1;+;", "=1;-;", "=;=1;", // one with nothing
		"=1+a;", "+a-b;", "+a+b;", "-a=1;", "+=1;", "-+a;", "=1,+a;", "+a=;", "+-;", // one with two kinds
		"=0;", "=00;", "=01;", "=001;", "=0300;", "=010;", // needless noughts, and none
		"=+1;", "=-1;", "=-0;", "=+0;", "=--1;", // signs
		"=301;", "=999;", "=1000;", "=3000;", "=9223372036854775807;", "=9223372036854775808;", "=18446744073709551617;", "=4294967297;", "=" + strings.Repeat("1", 100) + ";", "=" + strings.Repeat("0", 100) + "1;", // out of its range
		"=1.0;", "=1e1;", "=0x1;", "=1_0;", "=a;", "=\uff11;", "=\u0661;", "=1\x00;", "=\x001;", // no digits
		"=300;=1;", "=1;=300;", "=300;+a;", "=300;-a;", "=150;+" + longText(151) + ";", "=150;-" + longText(151) + ";", // beyond MaxDoc in all
		"+" + over + ";", "-" + over + ";", "+" + longText(150) + ";+" + longText(151) + ";", "-" + longText(150) + ";-" + longText(151) + ";",
		strings.Repeat("=1;", impl.MaxParts+1), strings.Repeat("+a;", impl.MaxParts+1), strings.Repeat("-a;", impl.MaxParts+1), strings.Repeat("+a;-a;", impl.MaxParts/2) + "+a;", strings.Repeat("=1;", impl.MaxParts) + "=1", strings.Repeat("=1;", impl.MaxParts) + ";", // beyond MaxParts
		"=1\u037e", "+\u00e4;", "+a\xff;", "-\xff\xfe;", "+a\xc3;b", "+\u013b;", "\xff=1;", // other bytes
	} {
		if op, ok := impl.ReadOp(s); len(op) != 0 || ok {
			t.Errorf("ReadOp(%.100q) = %s, %v", s, outset(op), ok)
		}
		checkReadOp(t, s)
	}
	for _, s := range notTexts() {
		if strings.Contains(s, ";") {
			continue
		}
		for _, text := range []string{"+" + s + ";", "-" + s + ";", "=1;+" + s + ";", "+a;-" + s + ";=1;"} {
			if op, ok := impl.ReadOp(text); len(op) != 0 || ok {
				t.Errorf("ReadOp(%.100q) = %s, %v", text, outset(op), ok)
			}
		}
	}
}

// Chapter 18: MaxParts parts and MaxDoc bytes are met exactly.
func TestLimitsOfTextsOfChanges(t *testing.T) {
	full := longText(impl.MaxDoc)
	for _, s := range []string{
		strings.Repeat("=1;", impl.MaxParts), strings.Repeat("=5;", impl.MaxParts), strings.Repeat("+abcde;", impl.MaxParts), strings.Repeat("-abcde;", impl.MaxParts), strings.Repeat("+a;=1;", impl.MaxParts/2), strings.Repeat("+a;-a;", impl.MaxParts/2), strings.Repeat("-abcdefghij;+abcdefghij;", impl.MaxParts/2),
		"=300;", "=299;+a;-a;", "=299;=1;", "+" + full + ";-" + full + ";", "-" + full + ";+" + full + ";", "=150;+" + longText(150) + ";-" + longText(150) + ";",
	} {
		if _, ok := impl.ReadOp(s); !ok || !checkReadOp(t, s) {
			t.Errorf("%q is not read", s)
		}
	}
	for _, n := range []int{1, 9, 10, 99, 100, 101, 299, 300} {
		if s, ok := impl.OpText([]impl.Part{keep(n)}); s != "="+strconv.Itoa(n)+";" || !ok {
			t.Errorf("Keep %d has the text %q, %v", n, s, ok)
		}
	}
	for n := range 1200 {
		for _, form := range []string{"=%d;", "=0%d;", "=+%d;", "=-%d;", "=%03d;", "=%4d;"} {
			s := fmt.Sprintf(form, n)
			op, ok := impl.ReadOp(s)
			if good := 1 <= n && n <= impl.MaxDoc && s == fmt.Sprintf("=%d;", n); ok != good || good && !slices.Equal(op, []impl.Part{keep(n)}) {
				t.Errorf("ReadOp(%q) = %v, %v", s, op, ok)
			}
		}
	}
}

// Chapter 18: Adler's sum, one by one.
func TestSumsOneByOne(t *testing.T) {
	for _, x := range []struct {
		s    string
		want int
	}{
		{"", 1},
		{"\x00", 1<<16 + 1},
		{"\x01", 2<<16 + 2},
		{"a", 98<<16 + 98},
		{"ab", (98+196)<<16 + 196},
		{"ba", (99+196)<<16 + 196},
		{"abc", 38600999},
		{"Wikipedia", 0x11e60398},
		{"\xff", 256<<16 + 256},
		{"\xff\xff", (256+511)<<16 + 511},
		{"\u00e4", (196+360)<<16 + 360},
		{strings.Repeat("\x00", 65520), 65520<<16 + 1},
		{strings.Repeat("\x00", 65521), 1},
		{strings.Repeat("\x00", 65522), 1<<16 + 1},
	} {
		if got := impl.SumOf(x.s); got != x.want || got != sumByHand(x.s) {
			t.Errorf("SumOf(%.40q) = %d, not %d", x.s, got, x.want)
		}
	}
}

// Chapter 18: Adler's sum of texts so long that a, and b, go beyond 65521, or just
// meet it.
func TestSumsOfLongTexts(t *testing.T) {
	zeroA, zeroB := 0, 0
	for _, b := range []string{"\xff", "\x00", "a", "z", "\x7f", "\x80", "\u20ac", everyByte()} {
		for n := range 700 {
			s := strings.Repeat(b, n)
			got := impl.SumOf(s)
			if got != sumByHand(s) {
				t.Fatalf("SumOf of %d times %q = %d, not %d", n, b, got, sumByHand(s))
			}
			if got&0xffff >= 65521 || got>>16 >= 65521 {
				t.Fatalf("SumOf of %d times %q = %d: a or b is too great", n, b, got)
			}
		}
	}
	// Sums of which a, or b, is just 0, and one more, and one less.
	for n := 256; n < 2000; n++ {
		for last := range 256 {
			s := strings.Repeat("\xff", n) + string([]byte{byte(last)})
			sum := sumByHand(s)
			if a, b := sum&0xffff, sum>>16; a > 1 && a < 65520 && b > 1 && b < 65520 {
				continue
			}
			if got := impl.SumOf(s); got != sum {
				t.Fatalf("SumOf of %d bytes and %d = %d, not %d", n, last, got, sum)
			}
			if sum&0xffff == 0 {
				zeroA++
			}
			if sum>>16 == 0 {
				zeroB++
			}
		}
	}
	if zeroA == 0 || zeroB == 0 {
		t.Errorf("a is 0 of %d sums, b of %d", zeroA, zeroB)
	}
	for _, n := range []int{65519, 65520, 65521, 65522, 131042, 1000000} {
		for _, b := range []string{"\xff", "\x00", "\x01", "a"} {
			if s := strings.Repeat(b, n); impl.SumOf(s) != sumByHand(s) {
				t.Errorf("SumOf of %d times %q = %d, not %d", n, b, impl.SumOf(s), sumByHand(s))
			}
		}
	}
}

// Chapter 18: the sum of all short texts, and of texts anyhow.
func TestSumsOfShortTexts(t *testing.T) {
	for _, s := range append(allTexts(everyByte(), 1), allTexts("a\x00\xff\n", 6)...) {
		if got := impl.SumOf(s); got != sumByHand(s) {
			t.Fatalf("SumOf(%q) = %d, not %d", s, got, sumByHand(s))
		}
	}
	c := &chooser{182}
	for range 500 {
		b := make([]byte, c.next(2000))
		for i := range b {
			b[i] = byte(c.next(256))
		}
		if got := impl.SumOf(string(b)); got != sumByHand(string(b)) {
			t.Fatalf("SumOf(%q) = %d, not %d", b, got, sumByHand(string(b)))
		}
	}
}

// The document's words, one by one.
func TestLinesOfEntriesOneByOne(t *testing.T) {
	for _, x := range []struct {
		s string
		e impl.Entry
	}{
		{"1 2 =2;+a b;-/; 403899182\n", entry(1, 2, keep(2), put("a b"), drop("/"))},
		{"1 2  28049572\n", entry(1, 2)},
		{"0 1  27656354\n", entry(0, 1)},
		{"9 1000  85655867\n", entry(9, 1000)},
		{"3 10 =300; 166199776\n", entry(3, 10, keep(300))},
		{"0 999 + ; 137822626\n", entry(0, 999, put(" "))},
		{"5 7 + 1 2 ; 183763414\n", entry(5, 7, put(" 1 2 "))},
		{"4 20 -1 2 3;+0; 346358443\n", entry(4, 20, drop("1 2 3"), put("0"))},
	} {
		if x.s != lineOf(x.e) {
			t.Errorf("%v has the line %q, not %q", x.e, lineOf(x.e), x.s)
		}
		if s, ok := impl.EntryLine(x.e); s != x.s || !ok {
			t.Errorf("EntryLine(%v) = %q, %v, not %q", x.e, s, ok, x.s)
		}
		if e, ok := impl.ReadEntry(x.s); !sameEntry(e, x.e) || !ok {
			t.Errorf("ReadEntry(%q) = %v, %v, not %v", x.s, e, ok, x.e)
		}
	}
}

// Promise 18: entries of all kinds of changes.
func TestEntriesComeBackFromTheirLines(t *testing.T) {
	some, not := 0, 0
	see := func(e impl.Entry) {
		if checkEntryLine(t, e) {
			some++
		} else {
			not++
		}
	}
	for _, op := range append(append(smallOps(3), edgeOps()...), notOps()...) {
		see(entry(1, 2, op...))
		see(entry(9, 1000, op...))
		see(entry(10, 2, op...))
		see(entry(1, 0, op...))
	}
	c := &chooser{183}
	for k := range 400 {
		see(entry(c.next(12)-1, c.next(1010)-4, c.opOn(c.text(c.next(impl.MaxDoc+1)), 1+k%impl.MaxParts)...))
	}
	if some < 1000 || not < 1000 {
		t.Errorf("%d entries have a line, %d none", some, not)
	}
}

// Chapter 18: each Client and each Seq, and such as are none.
func TestRangesOfLines(t *testing.T) {
	some := 0
	for client := -2; client <= 12; client++ {
		for _, seq := range []int{-1000, -1, 0, 1, 2, 9, 10, 99, 100, 999, 1000, 1001, 9999, 10000} {
			e := entry(client, seq, keep(1))
			if checkEntryLine(t, e) {
				some++
			}
			checkReadEntry(t, lineOf(e))
		}
	}
	if some != 10*8 {
		t.Errorf("%d entries have a line", some)
	}
	for seq := range 1100 {
		if checkEntryLine(t, entry(seq%10, seq)) != (1 <= seq && seq <= lastSeq) || checkReadEntry(t, lineOf(entry(seq%10, seq))) != (1 <= seq && seq <= lastSeq) {
			t.Errorf("Seq %d", seq)
		}
	}
	for _, n := range []int{math.MinInt, math.MinInt + 1, 1 << 32, 1<<32 + 1, math.MaxInt - 1, math.MaxInt} {
		checkEntryLine(t, entry(n, 1))
		checkEntryLine(t, entry(1, n))
		checkReadEntry(t, lineOf(entry(n, 1)))
		checkReadEntry(t, lineOf(entry(1, n)))
	}
}

// wrongHeads are lines without sum and end that are no entry's, whatever follows.
func wrongHeads() []string {
	out := []string{
		"", " ", "  ", "   ", "1", "1 ", "1 1", " 1 1", "1 1", "1  1", "1  1 ", " 1 1 ", "11", "=1;", "start", "start ", "start ab", "start 1 ", "start 1 1 ",
		"01 1 ", "00 1 ", "1 01 ", "1 001 ", "1 00 ", "+1 1 ", "-1 1 ", "-0 1 ", "1 +1 ", "1 -1 ", "10 1 ", "99 1 ", "1 0 ", "1 1001 ", "1 2000 ", "1 10000 ",
		"18446744073709551617 1 ", "1 18446744073709551617 ", "4294967297 1 ", "1 4294967297 ", "1 " + strings.Repeat("1", 99) + " ", strings.Repeat("0", 99) + "1 1 ",
		"a 1 ", "1 a ", "1.0 1 ", "1 1.0 ", "0x1 1 ", "1 0x1 ", "1 1_0 ", "\uff11 1 ", "1 \uff11 ", "1\t1 ", "1 1\t", "1,1,", "1\n1 ", "1 1\n", "1 1 \n", "\n1 1 ", "\x001 1 ", "1 1 \x00",
		"1 1 =1", "1 1  =1;", "1 1 =1; ", "1 1 =1; 5", "1 1 =1;  ", "1  =1;", "1 =1;", " 1 =1;", "=1; 1 1", "1 1 1 =1;", "1 1 =0;", "1 1 =01;", "1 1 =301;", "1 1 +;", "1 1 +a", "1 1 -a;+", "1 1 +-;", "1 1 +a\n;", "1 1 ;", "1 1 =300;+a;", "1 1 *;",
		"1 1 " + strings.Repeat("=1;", impl.MaxParts+1), "1 1 +" + longText(impl.MaxDoc+1) + ";",
	}
	return out
}

// Promise 20: a line of which the sum and the end are right, but nothing else.
func TestWrongHeadsOfLines(t *testing.T) {
	for _, head := range wrongHeads() {
		s := sealedByHand(head)
		if e, ok := impl.ReadEntry(s); !sameEntry(e, impl.Entry{}) || ok {
			t.Errorf("ReadEntry(%.100q) = %v, %v", s, e, ok)
		}
		checkReadEntry(t, s)
		// As a line of a log it is not taken, nor is what is behind it.
		for _, ahead := range []string{logOf("ab"), logOf("ab", entry(2, 1, keep(2)))} {
			if n := checkOpenLog(t, ahead+s+lineOf(entry(3, 1, keep(2)))); n != len(ahead) && len(ahead+s) < impl.MaxLog-100 {
				t.Errorf("%.100q is taken: %d", s, n)
			}
		}
	}
	for _, s := range notTexts() {
		if e, ok := impl.ReadEntry(sealedByHand("1 1 +" + s + ";")); !sameEntry(e, impl.Entry{}) || ok {
			t.Errorf("ReadEntry of an entry that puts %.40q = %v, %v", s, e, ok)
		}
	}
}

// wrongTails are texts that come of a right line, but are none, whatever the line.
func wrongTails(line string) []string {
	at := strings.LastIndex(line, " ")
	head, sum := line[:at], line[at+1:len(line)-1]
	n, _ := strconv.Atoi(sum)
	end := func(text string) string { return head + " " + text + "\n" }
	return []string{
		line[:len(line)-1], line + "\n", "\n" + line, line + " ", line + "x", " " + line, line + line, line + "\x00", line + "start ", // the end of it, and beside it
		head + "\n", head + " \n", head + sum + "\n", head + "  " + sum + "\n", end(sum + " "), end(sum + "\r"), head + "\t" + sum + "\n", head + " " + sum + "\r\n", head + " " + sum + ";",
		end("0" + sum), end("00" + sum), end("+" + sum), end("-" + sum), end(sum + ".0"), end(sum + "0"), end(sum[:len(sum)-1]), end(sum[1:]), end(fmt.Sprintf("%x", n)), end(fmt.Sprintf("0x%x", n)), end(fmt.Sprintf("%X", n)), end(fmt.Sprintf("%020d", n)),
		end(strconv.Itoa(n + 1)), end(strconv.Itoa(n - 1)), end(strconv.Itoa(n + 1<<32)), end(strconv.Itoa(n - 1<<32)), end(strconv.Itoa(-n)), end(strconv.Itoa(n ^ 1<<16)), end("0"), end("1"), end(""), end("18446744073709551616"),
		end(strconv.Itoa(sumByHand(head + " "))), end(strconv.Itoa(sumByHand(line))), end(strconv.Itoa(sumByHand(head + "\n"))), end(strconv.Itoa(sumByHand(""))), end(strconv.Itoa(n&0xffff<<16 + n>>16)),
	}
}

// Promise 20: a line of which the sum or the end is not right.
func TestWrongSumsAndEndsOfLines(t *testing.T) {
	for _, e := range []impl.Entry{entry(1, 2, keep(2), put("a b"), drop("/")), entry(0, 1), entry(9, 1000, put("1 2")), entry(3, 3, fence(impl.MaxParts, keep(1), put("x"))...), entry(2, 2, put(longText(impl.MaxDoc)))} {
		line := lineOf(e)
		if !checkReadEntry(t, line) {
			t.Fatalf("%q is no line", line)
		}
		for _, s := range wrongTails(line) {
			if got, ok := impl.ReadEntry(s); !sameEntry(got, impl.Entry{}) || ok {
				t.Errorf("ReadEntry(%q) = %v, %v", s, got, ok)
			}
			checkReadEntry(t, s)
		}
	}
}

// Promises 18 and 20: lines with a byte changed, put in or left out, also where the
// sum is right again.
func TestTurnedLines(t *testing.T) {
	c := &chooser{184}
	some, not := 0, 0
	see := func(s string) {
		if checkReadEntry(t, s) {
			some++
		} else {
			not++
		}
	}
	for k := range 25 {
		e := entry(c.next(10), 1+c.next(1000), c.opOn(c.text(c.next(10)), 1+k%5)...)
		line := lineOf(e)
		for _, s := range turnedTexts(line, "=+-;0129 /aA\n\xff") {
			see(s)
		}
		for _, s := range turnedTexts(line[:strings.LastIndex(line, " ")], "=+-;0129 /aA\n\xff") {
			see(sealedByHand(s))
		}
	}
	for _, s := range turnedTexts(lineOf(entry(4, 12, keep(1), put("a"))), everyByte()) {
		see(s)
	}
	for _, s := range append(allTexts("01 =;\n", 6), allTexts("1 \n", 9)...) {
		see(s)
		see(sealedByHand(s))
	}
	if some < 2000 || not < 50000 {
		t.Errorf("%d texts are lines, %d not", some, not)
	}
}

// The document's words, one by one.
func TestLogsOneByOne(t *testing.T) {
	first := entry(1, 1, drop("a"), keep(2))
	second := entry(2, 7, keep(2), put(" 1"))
	for _, x := range []struct {
		s    string
		want impl.Server
	}{
		{"start  148767311\n", served("", "")},
		{"start ab 245367570\n", served("ab", "ab")},
		{"start a b 294650674\n", served("a b", "a b")},
		{"start  1 2  380699410\n", served(" 1 2 ", " 1 2 ")},
		{"start abc 303367029\n1 1 -a;=2; 179372566\n", served("abc", "bc", first)},
		{"start abc 303367029\n1 1 -a;=2; 179372566\n2 7 =2;+ 1; 201785867\n", served("abc", "bc 1", first, second)},
		{"start abc 303367029\n0 1 -abc; 157024816\n0 2  27787427\n", served("abc", "", entry(0, 1, drop("abc")), entry(0, 2))},
	} {
		if x.s != logOf(x.want.Start, x.want.Log...) {
			t.Errorf("%v has the text %q, not %q", x.want, logOf(x.want.Start, x.want.Log...), x.s)
		}
		if s, ok := impl.LogText(x.want); s != x.s || !ok {
			t.Errorf("LogText(%v) = %q, %v, not %q", x.want, s, ok, x.s)
		}
		if got, n, ok := impl.OpenLog(x.s); !sameServer(got, x.want) || n != len(x.s) || !ok {
			t.Errorf("OpenLog(%q) = %v, %d, %v, not %v", x.s, got, n, ok, x.want)
		}
		checkLogCuts(t, x.want)
	}
}

// Promise 18: all short logs, and each of them cut anywhere.
func TestShortLogsComeBack(t *testing.T) {
	many := 0
	see := func(s impl.Server) {
		if !checkLogText(t, s) {
			t.Fatalf("%v has no text", s)
		}
		checkLogCuts(t, s)
		many++
	}
	eachServer(t, []string{"", "a", "ab"}, 2, see)
	eachServer(t, []string{"", "a"}, 3, see)
	if many < 2000 {
		t.Errorf("only %d servers", many)
	}
}

// Promise 18: logs that grow, each put down, opened and cut, up to such as are too
// long.
func TestLogsThatGoOn(t *testing.T) {
	c := &chooser{185}
	some, not := 0, 0
	for k := range 15 {
		texts, ops := c.chain(c.text(20*k), impl.MaxEntries, 1+4*k)
		s := opened(t, texts[0])
		for i, op := range ops {
			s = logged(texts[0], append(s.Log, entry(i%4, 1+i, op...))...)
			if !checkLogText(t, s) {
				not++
				continue
			}
			some++
			if i == 9 {
				checkLogCuts(t, s)
			}
		}
	}
	if some < 300 || not < 20 {
		t.Errorf("%d servers have a text, %d none", some, not)
	}
}

// What comes back from a log goes on as the server would have: it takes the next
// entry, and the log that is written then is the one cut with it put behind.
func TestLogsGoOnWhereTheyWereCut(t *testing.T) {
	c := &chooser{186}
	for k := range 40 {
		_, ops := c.chain(c.text(0), 6, 1+k%5)
		s := opened(t, "")
		for i, op := range ops {
			s = taken(t, s, entry(i%3, 1+i, op...), i)
		}
		text, ok := impl.LogText(s)
		if !ok {
			t.Fatalf("%s has no text", outset(s))
		}
		back, n, is := impl.OpenLog(text[:c.next(len(text)+1)])
		if !is {
			continue
		}
		for i := len(back.Log); i < len(ops); i++ {
			back = taken(t, back, entry(i%3, 1+i, ops[i]...), i)
		}
		if again, ok := impl.LogText(back); again != text || !ok || text[:n] != again[:n] {
			t.Fatalf("%q was cut at %d, and then written: %q", text, n, again)
		}
	}
}

// wrongStarts are first lines that are not whole or not right.
func wrongStarts() []string {
	var out []string
	for _, start := range []string{"", "ab", "a b", "1", " "} {
		out = append(out, wrongTails(sealedByHand("start " + start))[0])
		for _, s := range wrongTails(sealedByHand("start " + start)) {
			// What stands behind a line that is whole does not make it wrong.
			if !strings.HasPrefix(s, sealedByHand("start "+start)) {
				out = append(out, s)
			}
		}
	}
	for _, head := range []string{"", "start", "Start ab", "START ab", "start\tab", "tart ab", " start ab", "startab", "start-ab", "1 start ab", "start a-b", "start a;b", "start ab\n", "start\n", "start ä", "start a\xff", "start " + longText(impl.MaxDoc+1), "ab", "1 1 ", "1 1 =1;"} {
		out = append(out, sealedByHand(head))
	}
	for _, s := range notTexts() {
		out = append(out, sealedByHand("start "+s))
	}
	return append(out, "\n", "\n\n", "start", "start ", "start ab", "start ab ", "start ab\n", "start ab \n", " \n", " 1\n", "start 1\n", lineOf(entry(1, 1)), "\n"+logOf("ab"), " "+logOf("ab"), "x"+logOf("ab"), longText(impl.MaxLog), longText(3000000))
}

// Promise 20: of a log of which the first line is not whole or not right nothing is
// taken, whatever is behind.
func TestWrongFirstLines(t *testing.T) {
	behind := lineOf(entry(1, 1, keep(2))) + lineOf(entry(1, 2, keep(2)))
	for _, s := range wrongStarts() {
		for _, text := range []string{s, s + behind, s + logOf("ab"), s + "x", s + "x\n" + behind} {
			if _, _, can := openLogByHand(text); can {
				t.Errorf("%.100q can be opened", text)
			}
			if got, n, ok := impl.OpenLog(text); !isZeroServer(got) || n != 0 || ok {
				t.Errorf("OpenLog(%.100q) = %s, %d, %v", text, outset(got), n, ok)
			}
		}
	}
}

// Promise 20: entries that are good by themselves but can't be put behind: neither
// they are taken nor what is behind them.
func TestEntriesThatCannotBePutBehind(t *testing.T) {
	log := []impl.Entry{entry(1, 2, keep(1), put("x"), keep(1)), entry(2, 5, drop("a"), keep(2)), entry(1, 4, keep(2), put("y"))}
	full := idle("ab", impl.MaxEntries)
	for _, x := range []struct {
		name string
		s    impl.Server
		e    impl.Entry
	}{
		{"the Seq of the last one", logged("ab", log...), entry(1, 4, keep(3))},
		{"the last entry again", logged("ab", log...), log[2]},
		{"the Seq of the first one", logged("ab", log...), entry(1, 2, keep(3))},
		{"a Seq between two", logged("ab", log...), entry(1, 3, keep(3))},
		{"the least Seq", logged("ab", log...), entry(1, 1, keep(3))},
		{"the Seq of the second one", logged("ab", log...), entry(2, 5, keep(3))},
		{"a lesser Seq than the second one", logged("ab", log...), entry(2, 4, keep(3))},
		{"it takes too few bytes", logged("ab", log...), entry(3, 1, keep(2))},
		{"it takes too many bytes", logged("ab", log...), entry(3, 1, keep(4))},
		{"it takes no byte", logged("ab", log...), entry(3, 1)},
		{"it drops another byte", logged("ab", log...), entry(3, 1, drop("y"), keep(2))},
		{"it drops what the one ahead dropped", logged("ab", log...), entry(3, 1, drop("a"), keep(2))},
		{"it fits Start alone", logged("ab", log...), entry(3, 1, drop("ab"))},
		{"it fits the text of the entry ahead alone", logged("ab", log...), entry(3, 1, drop("xb"))},
		{"there is a client's last Seq", logged("ab", entry(9, lastSeq, keep(2))), entry(9, lastSeq, keep(2))},
		{"there are MaxEntries", logged("ab", full...), entry(0, 7, keep(2))},
		{"there are MaxEntries, and it is a client's first one", logged("", idle("", impl.MaxEntries)...), entry(9, 1000)},
		{"the empty log, and it does not fit", logged("ab"), entry(1, 1, keep(1))},
		{"the empty log, and it drops another byte", logged("ab"), entry(1, 1, keep(1), drop("c"))},
		{"the text is full, and it takes less", logged(longText(impl.MaxDoc)), entry(1, 1, keep(299), put("a"))},
	} {
		ahead := logOf(x.s.Start, x.s.Log...)
		all, _ := impl.KeepAll(len(x.s.Text))
		for _, behind := range []string{"", lineOf(entry(8, 999, all...)), lineOf(x.e) + lineOf(entry(8, 999, all...)), "\n", longText(50)} {
			if !entryIsGood(x.e) || !serverIsGood(x.s) {
				t.Errorf("%s: the entry and the server must be good by themselves", x.name)
			}
			if got, n, ok := impl.OpenLog(ahead + lineOf(x.e) + behind); !sameServer(got, x.s) || n != len(ahead) || !ok {
				t.Errorf("%s: %s, %d of %d, %v", x.name, outset(got), n, len(ahead), ok)
			}
			checkOpenLog(t, ahead+lineOf(x.e)+behind)
		}
		// Without it what is behind it is taken, where there is room.
		if n := checkOpenLog(t, ahead+lineOf(entry(8, 999, all...))); len(x.s.Log) < impl.MaxEntries && n == len(ahead) {
			t.Errorf("%s: nothing at all can be put behind", x.name)
		}
	}
}

// Promises 18 and 20: logs with a byte changed, put in or left out: what is ahead
// of the line is taken.
func TestTurnedLogs(t *testing.T) {
	shorter := 0
	see := func(s string) {
		if checkOpenLog(t, s) < len(s) {
			shorter++
		}
	}
	for _, s := range []impl.Server{
		logged("ab", entry(1, 1, keep(1), put("1 2"), keep(1)), entry(2, 3, drop("a"), keep(4)), entry(1, 2, keep(4))),
		logged("", entry(0, 1), entry(9, 1000), entry(0, 2, put("/"))),
	} {
		text := logOf(s.Start, s.Log...)
		for _, turned := range turnedTexts(text, "=+-;012 /aA\n\xff") {
			see(turned)
		}
		lines := linesOf(s.Start, s.Log...)
		for i := range lines {
			without := slices.Delete(slices.Clone(lines), i, i+1)
			see(strings.Join(without, ""))
			see(strings.Join(slices.Insert(slices.Clone(lines), i, lines[i]), ""))
			see(strings.Join(slices.Insert(slices.Clone(lines), i, "\n"), ""))
			for k := range lines {
				swapped := slices.Clone(lines)
				swapped[i], swapped[k] = swapped[k], swapped[i]
				see(strings.Join(swapped, ""))
			}
			// A line that is right in another form of its entry.
			for _, head := range turnedTexts(lines[i][:strings.LastIndex(lines[i], " ")], "=;012 a") {
				turned := slices.Clone(lines)
				turned[i] = sealedByHand(head)
				see(strings.Join(turned, ""))
			}
		}
	}
	if shorter < 4000 {
		t.Errorf("of only %d logs not all is taken", shorter)
	}
}

// Chapter 18: MaxEntries entries are opened, of one more the last one is left.
func TestMostEntriesOfALog(t *testing.T) {
	for _, n := range []int{0, 1, impl.MaxEntries - 1, impl.MaxEntries, impl.MaxEntries + 1, impl.MaxEntries + 20} {
		log := idle("ab", n)
		kept := min(n, impl.MaxEntries)
		want := logged("ab", log[:kept]...)
		text := logOf("ab", log...)
		if got, taken, ok := impl.OpenLog(text); !sameServer(got, want) || taken != len(logOf("ab", log[:kept]...)) || !ok {
			t.Errorf("of %d entries are opened: %s, %d, %v", n, outset(got), taken, ok)
		}
		checkOpenLog(t, text)
		if checkLogText(t, logged("ab", log...)) != (n <= impl.MaxEntries) {
			t.Errorf("LogText of %d entries", n)
		}
	}
	checkLogCuts(t, fullServer())
}

// serverOfBytes has a log of which the lines are just so many bytes.
func serverOfBytes(t *testing.T, bytes int) impl.Server {
	t.Helper()
	full := longText(impl.MaxDoc)
	s := logged(full)
	for len(logOf(s.Start, s.Log...)) < bytes-500 {
		s.Log = append(s.Log, entry(1, 1+len(s.Log), drop(full[:100]), put(full[:100]), keep(200)))
	}
	left := bytes - len(logOf(s.Start, s.Log...))
	for n := 100; n < impl.MaxDoc; n++ {
		for m := 1; m <= n; m++ {
			e := entry(2, 1, keep(impl.MaxDoc-n), drop(full[:n]), put(full[:m]))
			if len(lineOf(e)) == left {
				return logged(full, append(s.Log, e)...)
			}
		}
	}
	t.Fatalf("no log has %d bytes", bytes)
	return s
}

// Chapter 18: MaxLog bytes are put down and opened, one more is not.
func TestMostBytesOfALog(t *testing.T) {
	for bytes := impl.MaxLog - 3; bytes <= impl.MaxLog+3; bytes++ {
		s := serverOfBytes(t, bytes)
		text := logOf(s.Start, s.Log...)
		can := bytes <= impl.MaxLog
		if len(text) != bytes || !serverIsGood(s) {
			t.Fatalf("%d bytes, not %d", len(text), bytes)
		}
		if got, ok := impl.LogText(s); ok != can || ok && got != text || !ok && got != "" {
			t.Errorf("LogText of %d bytes: %d, %v", bytes, len(got), ok)
		}
		got, n, ok := impl.OpenLog(text)
		if ok != can || can && (!sameServer(got, s) || n != bytes) || !can && (!isZeroServer(got) || n != 0) {
			t.Errorf("OpenLog of %d bytes: %s, %d, %v", bytes, outset(got), n, ok)
		}
	}
	checkLogCuts(t, serverOfBytes(t, impl.MaxLog))
	// All bytes count, also those that are not taken.
	small := logOf("ab", entry(1, 1, keep(1), drop("b")))
	for _, with := range []string{"x", "\n", " ", "\x00", "1 1 \n"} {
		for _, bytes := range []int{impl.MaxLog - 1, impl.MaxLog, impl.MaxLog + 1, impl.MaxLog + 2, 10 * impl.MaxLog, 3000000} {
			text := (small + strings.Repeat(with, bytes))[:bytes]
			got, n, ok := impl.OpenLog(text)
			if can := bytes <= impl.MaxLog; ok != can || can && (n != len(small) || got.Text != "a" || len(got.Log) != 1) || !can && (n != 0 || !isZeroServer(got)) {
				t.Errorf("OpenLog of %d bytes with %q: %s, %d, %v", bytes, with, outset(got), n, ok)
			}
		}
	}
	// A good server with as much as it can have is far beyond.
	var most []impl.Entry
	for k := range impl.MaxEntries {
		most = append(most, entry(k%10, 1+k, fence(impl.MaxParts, put("abcdefghij"), drop("abcdefghij"))...))
	}
	full := logged(strings.Repeat("abcdefghij", 30), most...)
	if text, ok := impl.LogText(full); !serverIsGood(full) || text != "" || ok {
		t.Errorf("LogText of the greatest server: %d bytes, %v", len(text), ok)
	}
}

// Chapter 18: the empty change, the empty text, the empty log; the nil list and the
// empty list are the same.
func TestEmptyThingsInBytes(t *testing.T) {
	for _, op := range [][]impl.Part{nil, {}, make([]impl.Part, 0, 9)} {
		if s, ok := impl.OpText(op); s != "" || !ok {
			t.Errorf("OpText of no parts = %q, %v", s, ok)
		}
		if s, ok := impl.EntryLine(impl.Entry{Client: 1, Seq: 2, Op: op}); s != "1 2  28049572\n" || !ok {
			t.Errorf("EntryLine of no parts = %q, %v", s, ok)
		}
		s := impl.Server{Log: []impl.Entry{{Client: 1, Seq: 2, Op: op}}}
		if text, ok := impl.LogText(s); text != "start  148767311\n1 2  28049572\n" || !ok {
			t.Errorf("LogText of no parts = %q, %v", text, ok)
		}
	}
	for _, log := range [][]impl.Entry{nil, {}, make([]impl.Entry, 0, 9)} {
		if text, ok := impl.LogText(impl.Server{Log: log}); text != "start  148767311\n" || !ok {
			t.Errorf("LogText of no entries = %q, %v", text, ok)
		}
	}
	if op, ok := impl.ReadOp(""); len(op) != 0 || !ok {
		t.Errorf("ReadOp of nothing = %v, %v", op, ok)
	}
	if n := impl.SumOf(""); n != 1 {
		t.Errorf("SumOf of nothing = %d", n)
	}
	if e, ok := impl.ReadEntry(""); !sameEntry(e, impl.Entry{}) || ok {
		t.Errorf("ReadEntry of nothing = %v, %v", e, ok)
	}
	if s, n, ok := impl.OpenLog(""); !isZeroServer(s) || n != 0 || ok {
		t.Errorf("OpenLog of nothing = %v, %d, %v", s, n, ok)
	}
	if s, n, ok := impl.OpenLog("start  148767311\n"); !isZeroServer(s) || n != 17 || !ok {
		t.Errorf("OpenLog of the empty server = %v, %d, %v", s, n, ok)
	}
	if e, ok := impl.ReadEntry("1 2  28049572\n"); !sameEntry(e, entry(1, 2)) || !ok {
		t.Errorf("ReadEntry of the empty change = %v, %v", e, ok)
	}
}

// Promise 20: changes, entries and servers that are not good have the zero answer.
func TestWrongThingsHaveNoBytes(t *testing.T) {
	for number, op := range notOps() {
		if s, ok := impl.OpText(op); s != "" || ok {
			t.Errorf("OpText of the change %d = %.100q, %v", number, s, ok)
		}
		if s, ok := impl.EntryLine(entry(1, 1, op...)); s != "" || ok {
			t.Errorf("EntryLine of the change %d = %.100q, %v", number, s, ok)
		}
		for _, s := range []impl.Server{served("ab", "ab", entry(1, 1, op...)), served("", "", entry(1, 1, op...)), served("", "a", entry(1, 1, put("a")), entry(1, 2, op...))} {
			if text, ok := impl.LogText(s); text != "" || ok {
				t.Errorf("LogText of the change %d = %.100q, %v", number, text, ok)
			}
		}
	}
	for name, s := range wrongServers() {
		if text, ok := impl.LogText(s); text != "" || ok {
			t.Errorf("%s: LogText = %.100q, %v", name, text, ok)
		}
	}
	for _, e := range []impl.Entry{{}, entry(1, 0), entry(-1, 1), entry(10, 1), entry(1, 1001), entry(1, -1), entry(math.MaxInt, 1), entry(1, math.MinInt), entry(1, 1, impl.Part{}), entry(10, 0, impl.Part{})} {
		if s, ok := impl.EntryLine(e); s != "" || ok {
			t.Errorf("EntryLine(%v) = %q, %v", e, s, ok)
		}
		if text, ok := impl.LogText(served("", "", e)); text != "" || ok {
			t.Errorf("LogText of %v = %q, %v", e, text, ok)
		}
	}
}

// stretchesOfParts is all memory of a change, without such as has no byte.
func stretchesOfParts(op []impl.Part) []stretch {
	return slices.DeleteFunc(stretchesOfOp(op), func(x stretch) bool { return x.from == x.to })
}

// checkNewBytes asks whether what is answered of a server lies in memory of its own.
func checkNewBytes(t *testing.T, s impl.Server) int {
	t.Helper()
	given := stretchesOfServer(s)
	text, _ := impl.LogText(s)
	var ahead []stretch
	// What was answered is held till the end, since its memory might be another one's then.
	held := []any{text}
	own := func(name string, answer any, l []stretch) {
		t.Helper()
		held = append(held, answer)
		if anyMeet(l, given) || anyMeet(l, ahead) {
			t.Fatalf("%s of %s lies in the memory of what was handed in, or of another answer", name, outset(s))
		}
		for k, x := range l {
			if slices.ContainsFunc(l[:k], x.meets) {
				t.Fatalf("two lists or texts of %s of %s lie in one memory", name, outset(s))
			}
		}
		ahead = append(ahead, l...)
	}
	own("LogText", text, []stretch{stretchOfText(text)})
	for _, e := range s.Log {
		line, _ := impl.EntryLine(e)
		own("EntryLine", line, []stretch{stretchOfText(line)})
		words, _ := impl.OpText(e.Op)
		own("OpText", words, []stretch{stretchOfText(words)})
		read, is := impl.ReadEntry(line)
		own("ReadEntry", read, stretchesOfParts(read.Op))
		op, ok := impl.ReadOp(words)
		own("ReadOp", op, stretchesOfParts(op))
		if !is || !ok {
			t.Fatalf("%v is not read", e)
		}
	}
	for _, n := range []int{len(text), len(text) - 1, len(text) / 2} {
		got, _, _ := impl.OpenLog(text[:n])
		own("OpenLog", got, stretchesOfServer(got))
	}
	runtime.KeepAlive(held)
	return len(ahead)
}

// Promise 20: the answers share no memory with what was handed in, nor with one
// another, and no two lists or texts of one answer share any.
func TestBytesAreNewMemory(t *testing.T) {
	many := 0
	longServers(t, func(s impl.Server, e impl.Entry, version int) { many += checkNewBytes(t, s) })
	many += checkNewBytes(t, logged(strings.Repeat("ab", 50)))
	if many < 3000 {
		t.Errorf("only %d lists and texts were looked at", many)
	}
}

// checkBytesStay asks for promise 20 of a server that has things behind the length
// of its lists.
func checkBytesStay(t *testing.T, s impl.Server) {
	t.Helper()
	given := roomyServer(s)
	before := wholeServer(given)
	want, good := logTextByHand(s)
	text, ok := impl.LogText(given)
	if text != want || ok != good {
		t.Fatalf("LogText(%s) = %.300q, %v: what lies behind is read", outset(s), text, ok)
	}
	for i, e := range given.Log {
		line, is := impl.EntryLine(e)
		if entryIsGood(s.Log[i]) != is || is && line != lineOf(s.Log[i]) {
			t.Fatalf("EntryLine(%s) = %q, %v: what lies behind is read", outset(s.Log[i]), line, is)
		}
		words, is := impl.OpText(e.Op)
		if byHand, can := opTextByHand(s.Log[i].Op); words != byHand || is != can {
			t.Fatalf("OpText(%s) = %q, %v: what lies behind is read", outset(s.Log[i].Op), words, is)
		}
		read, _ := impl.ReadEntry(line)
		op, _ := impl.ReadOp(words)
		for _, l := range [][]impl.Part{read.Op, op} {
			if slices.ContainsFunc(l[len(l):cap(l)], func(p impl.Part) bool { return p != impl.Part{} }) {
				t.Fatalf("something lies behind what is read of %q", line)
			}
			clear(l[:cap(l)])
		}
	}
	got, _, _ := impl.OpenLog(text)
	if hidesBehind(got) {
		t.Fatalf("something lies behind what is opened of %q", text)
	}
	wipeServer(got)
	if !sameServer(wholeServer(given), before) {
		t.Fatalf("%s was changed", outset(s))
	}
}

// Promise 20: nothing is written into a change, an entry or a server, nor behind a
// length, nor read or handed out from there.
func TestBytesStayAsTheyWere(t *testing.T) {
	longServers(t, func(s impl.Server, e impl.Entry, version int) { checkBytesStay(t, s) })
	for _, s := range wrongServers() {
		if len(s.Log) < 100 && len(s.Text) <= impl.MaxDoc {
			checkBytesStay(t, s)
		}
	}
	eachServer(t, []string{"", "ab"}, 2, func(s impl.Server) { checkBytesStay(t, s) })
	for _, op := range append(smallOps(3), notOps()...) {
		if len(op) < 100 {
			checkBytesStay(t, served("ab", "ab", entry(1, 1, op...)))
		}
	}
}

// An answer is the same, whatever was asked and refused ahead of it.
func TestBytesAreToldAnew(t *testing.T) {
	s := logged("ab", entry(1, 1, keep(1), put("x"), keep(1)), entry(2, 1, drop("axb")))
	want := logOf("ab", s.Log...)
	for range 3 {
		text, ok := impl.LogText(s)
		if text != want || !ok {
			t.Fatalf("LogText = %q, %v, not %q", text, ok, want)
		}
		impl.LogText(served("ab", "b"))
		impl.OpenLog(text[:10])
		impl.ReadOp("=1")
		impl.ReadEntry("1 1 =1; 5\n")
		got, n, ok := impl.OpenLog(text)
		if !sameServer(got, s) || n != len(text) || !ok {
			t.Fatalf("OpenLog = %v, %d, %v", got, n, ok)
		}
		wipeServer(got)
		op, _ := impl.ReadOp("=1;+x;=1;")
		if !slices.Equal(op, s.Log[0].Op) {
			t.Fatalf("ReadOp = %v", op)
		}
		clear(op)
	}
}

// The greatest logs are answered in a moment, and texts very much longer are
// refused in one.
func TestGreatestBytesInAMoment(t *testing.T) {
	full := serverOfBytes(t, impl.MaxLog)
	text := logOf(full.Start, full.Log...)
	most := logOf(longText(impl.MaxDoc), idle(longText(impl.MaxDoc), impl.MaxEntries)...)
	start := time.Now()
	for range 20 {
		impl.LogText(full)
		impl.OpenLog(text)
		impl.OpenLog(most)
		impl.LogText(fullServer())
	}
	for _, s := range []string{longText(3000000), strings.Repeat("=1;", 1000000), strings.Repeat(";", 3000000), strings.Repeat(" ", 3000000), strings.Repeat("\n", 3000000), strings.Repeat("+a;", 1000000), "=" + strings.Repeat("1", 3000000) + ";", "=" + strings.Repeat("0", 3000000) + ";", "+" + longText(3000000) + ";", "1 1 " + strings.Repeat("=1;", 1000000), "start " + longText(3000000), strings.Repeat("\xff", 3000000), strings.Repeat(text, 500)} {
		impl.ReadOp(s)
		impl.SumOf(s)
		impl.ReadEntry(s)
		impl.ReadEntry(sealedByHand(s))
		impl.OpenLog(s)
		impl.OpenLog(sealedByHand(s))
	}
	for _, op := range [][]impl.Part{fence(300000, keep(1), put("x")), {put(longText(3000000))}} {
		impl.OpText(op)
		impl.EntryLine(entry(1, 1, op...))
		impl.LogText(served("", "", entry(1, 1, op...)))
	}
	if took := time.Since(start); took > 5*time.Second {
		t.Errorf("it took %v", took)
	}
}

// FuzzBytes: no argument makes one of the seven functions panic, or tell another thing than the document says.
func FuzzBytes(f *testing.F) {
	f.Add("=1;+a;", 1, 1, 1, "", "", 0, "x", "", "ab", 3)
	f.Add(lineOf(entry(1, 1, keep(2))), 9, 1000, 300, "", "", 0, " 1 2", "", "a b", 40)
	f.Add(logOf("ab", entry(1, 1, keep(2))), -1, 0, -1, "a", "b", 1<<62, "", "\xff", "-", 0)
	f.Fuzz(func(t *testing.T, s string, client, seq, k1 int, p1, d1 string, k2 int, p2, d2 string, start string, at int) {
		if got := impl.SumOf(s); got != sumByHand(s) {
			t.Fatalf("SumOf(%q) = %d, not %d", s, got, sumByHand(s))
		}
		log := logOf("ab", entry(1, 1, keep(2)))
		for _, text := range []string{s, sealedByHand(s), sealedByHand("1 2 " + s), sealedByHand("start " + s), log + s, log + sealedByHand(s), log + sealedByHand("1 2 "+s), sealedByHand("start "+start) + s} {
			checkReadOp(t, text)
			checkReadEntry(t, text)
			checkOpenLog(t, text)
		}
		for _, op := range opsOf(2, impl.Part{Keep: k1, Put: p1, Drop: d1}, impl.Part{Keep: k2, Put: p2, Drop: d2}) {
			checkOpText(t, op)
			checkEntryLine(t, entry(client, seq, op...))
			made, _ := applyByHand(op, start)
			for _, x := range []impl.Server{served(start, start), served(start, made, entry(client, seq, op...)), served(start, made, entry(1, 1, op...)), served("", start, entry(1, 1, put(start)))} {
				if checkLogText(t, x) && len(x.Start) < 50 {
					checkLogCuts(t, x)
				}
				text := logOf(x.Start, x.Log...)
				checkOpenLog(t, text)
				if at >= 0 && at <= len(text) {
					checkOpenLog(t, text[:at]+s+text[at:])
				}
			}
		}
	})
}
