package tests

import (
	"math"
	"regexp"
	"slices"
	"strings"
	"testing"
	"unsafe"

	"loop.example/g00253/impl"
)

const exprSymbols = "ABCDEFt"
const exprSigns = exprSymbols + ".-!"
const mostNested = 19

// exprIsGood takes whatever is an expression for one sign, until nothing of
// that kind is left.
func exprIsGood(s string) bool {
	if len(s) > impl.MaxExpr || strings.Trim(s, exprSigns+"()*?+|") != "" {
		return false
	}
	deep := 0
	for _, c := range s {
		switch c {
		case '(':
			deep++
		case ')':
			deep--
		}
		if deep > mostNested {
			return false
		}
	}
	x := strings.Map(func(c rune) rune {
		if strings.ContainsRune(exprSigns, c) {
			return 's'
		}
		return c
	}, s)
	for was := ""; x != was; {
		was = x
		for _, part := range []string{"(s)", "s*", "s?", "s+", "ss", "s|s"} {
			x = strings.ReplaceAll(x, part, "s")
		}
	}
	return x == "s"
}

func wordIsGood(w string) bool {
	return len(w) <= impl.MaxWord && strings.Trim(w, exprSymbols) == ""
}

func symbolIsGood(s string) bool {
	return len(s) == 1 && strings.Contains(exprSymbols, s)
}

// exprTree is an expression without its limits: op is a sign, or one of `*?+|`,
// or `&` for a row.
type exprTree struct {
	op    byte
	parts []exprTree
}

func leaf(op byte) exprTree { return exprTree{op: op} }

func over(op byte, parts ...exprTree) exprTree { return exprTree{op, parts} }

// piecesOutside cuts a good expression at each byte outside all `(` and `)` of
// which isCut is told; with drop that byte is left out.
func piecesOutside(s string, isCut func(c byte) bool, drop int) []string {
	var out []string
	from, deep := 0, 0
	for i := range len(s) {
		if deep == 0 && i > 0 && isCut(s[i]) {
			out = append(out, s[from:i])
			from = i + drop
		}
		switch s[i] {
		case '(':
			deep++
		case ')':
			deep--
		}
	}
	return append(out, s[from:])
}

func partsOver(op byte, pieces []string) exprTree {
	x := leaf(op)
	for _, p := range pieces {
		x.parts = append(x.parts, exprTreeOf(p))
	}
	return x
}

func exprTreeOf(s string) exprTree {
	if l := piecesOutside(s, func(c byte) bool { return c == '|' }, 1); len(l) > 1 {
		return partsOver('|', l)
	}
	if l := piecesOutside(s, func(c byte) bool { return !strings.ContainsRune(")*?+|", rune(c)) }, 0); len(l) > 1 {
		return partsOver('&', l)
	}
	last := len(s) - 1
	switch {
	case last == 0:
		return leaf(s[0])
	case s[last] == ')':
		return exprTreeOf(s[1:last])
	}
	return partsOver(s[last], []string{s[:last]})
}

// gathered are the plain parts, and where one is of the same kind its parts.
func gathered(x exprTree) []exprTree {
	var out []exprTree
	for _, p := range x.parts {
		p = plainTree(p)
		if p.op == x.op {
			out = append(out, p.parts...)
			continue
		}
		out = append(out, p)
	}
	return out
}

func without(l []exprTree, op byte) []exprTree {
	return slices.DeleteFunc(l, func(x exprTree) bool { return x.op == op })
}

// wholeOf is none where there is no part, and the part where there is one.
func wholeOf(op byte, parts []exprTree, none byte) exprTree {
	switch len(parts) {
	case 0:
		return leaf(none)
	case 1:
		return parts[0]
	}
	return exprTree{op, parts}
}

func plainTree(x exprTree) exprTree {
	switch x.op {
	case '?':
		return plainTree(over('|', leaf('-'), x.parts[0]))
	case '+':
		return plainTree(over('&', x.parts[0], over('*', x.parts[0])))
	case '*':
		p := plainTree(x.parts[0])
		switch p.op {
		case '!', '-':
			return leaf('-')
		case '*':
			return p
		}
		return over('*', p)
	case '&':
		l := gathered(x)
		if slices.ContainsFunc(l, func(p exprTree) bool { return p.op == '!' }) {
			return leaf('!')
		}
		return wholeOf('&', without(l, '-'), '-')
	case '|':
		l := without(gathered(x), '!')
		slices.SortFunc(l, func(p, q exprTree) int { return strings.Compare(p.text(), q.text()) })
		return wholeOf('|', slices.CompactFunc(l, func(p, q exprTree) bool { return p.text() == q.text() }), '!')
	}
	return x
}

func (x exprTree) text() string {
	out := ""
	for i, p := range x.parts {
		text := p.text()
		if p.op == '|' || p.op == '&' && x.op == '*' {
			text = "(" + text + ")"
		}
		if i > 0 && x.op == '|' {
			out += "|"
		}
		out += text
	}
	switch x.op {
	case '&', '|':
		return out
	}
	return out + string([]byte{x.op})
}

// hasEmpty tells of a plain tree whether the empty row is one of it.
func (x exprTree) hasEmpty() bool {
	switch x.op {
	case '-', '*':
		return true
	case '|':
		return slices.ContainsFunc(x.parts, exprTree.hasEmpty)
	case '&':
		return !slices.ContainsFunc(x.parts, func(p exprTree) bool { return !p.hasEmpty() })
	}
	return false
}

// derived is what is left of a plain tree, not plain.
func (x exprTree) derived(symbol byte) exprTree {
	switch x.op {
	case symbol, '.':
		return leaf('-')
	case '*':
		return over('&', x.parts[0].derived(symbol), x)
	case '|':
		out := leaf('|')
		for _, p := range x.parts {
			out.parts = append(out.parts, p.derived(symbol))
		}
		return out
	case '&':
		first, others := x.parts[0], wholeOf('&', x.parts[1:], '-')
		out := over('&', first.derived(symbol), others)
		if first.hasEmpty() {
			return over('|', out, others.derived(symbol))
		}
		return out
	}
	return leaf('!')
}

// pattern is the expression for the library's own matching.
func (x exprTree) pattern() string {
	switch x.op {
	case '.':
		return "[" + exprSymbols + "]"
	case '-':
		return "(?:)"
	case '!':
		return "[^\\x00-\\x{10FFFF}]"
	case '*', '?', '+':
		return "(?:" + x.parts[0].pattern() + ")" + string([]byte{x.op})
	case '&', '|':
		var l []string
		for _, p := range x.parts {
			l = append(l, "(?:"+p.pattern()+")")
		}
		return strings.Join(l, strings.Trim(string([]byte{x.op}), "&"))
	}
	return string([]byte{x.op})
}

func matcherOf(s string) *regexp.Regexp {
	return regexp.MustCompile("^(?:" + exprTreeOf(s).pattern() + ")$")
}

// isBeyondHand tells of expressions whose plain ones would be far too long to
// be written down.
func isBeyondHand(s string) bool { return strings.Count(s, "+") > 5 }

func toldByHand(x exprTree) (string, bool) {
	if s := plainTree(x).text(); exprIsGood(s) {
		return s, true
	}
	return "", false
}

func plainByHand(s string) (string, bool) {
	if !exprIsGood(s) {
		return "", false
	}
	return toldByHand(exprTreeOf(s))
}

func deriveByHand(s, symbol string) (string, bool) {
	if !exprIsGood(s) || !symbolIsGood(symbol) {
		return "", false
	}
	return toldByHand(plainTree(exprTreeOf(s)).derived(symbol[0]))
}

func firstsByHand(s string) (string, bool) {
	if !exprIsGood(s) {
		return "", false
	}
	out := ""
	for i := range exprSymbols {
		if plainTree(plainTree(exprTreeOf(s)).derived(exprSymbols[i])).op != '!' {
			out += exprSymbols[i : i+1]
		}
	}
	return out, true
}

func statesByHand(s string) ([]impl.State, bool) {
	first, ok := plainByHand(s)
	if !ok {
		return nil, false
	}
	exprs := []string{first}
	var out []impl.State
	for k := 0; k < len(exprs); k++ {
		x := exprTreeOf(exprs[k])
		state := impl.State{Expr: exprs[k], Final: x.hasEmpty()}
		for i := range exprSymbols {
			next, ok := toldByHand(x.derived(exprSymbols[i]))
			if !ok {
				return nil, false
			}
			if !slices.Contains(exprs, next) {
				exprs = append(exprs, next)
			}
			state.Next = append(state.Next, slices.Index(exprs, next))
		}
		if out = append(out, state); len(exprs) > impl.MaxStates {
			return nil, false
		}
	}
	return out, true
}

func statesAreGood(l []impl.State) bool {
	for _, s := range l {
		if len(s.Next) != len(exprSymbols) || slices.Min(s.Next) < 0 || slices.Max(s.Next) >= len(l) {
			return false
		}
	}
	return len(l) > 0 && len(l) <= impl.MaxStates
}

func runByHand(l []impl.State, word string) (bool, bool) {
	if !statesAreGood(l) || !wordIsGood(word) {
		return false, false
	}
	s := l[0]
	for i := range word {
		s = l[s.Next[strings.Index(exprSymbols, word[i:i+1])]]
	}
	return s.Final, true
}

func sameStates(a, b []impl.State) bool {
	return slices.EqualFunc(a, b, func(x, y impl.State) bool {
		return x.Expr == y.Expr && x.Final == y.Final && slices.Equal(x.Next, y.Next)
	})
}

func checkGoodExpr(t *testing.T, s string) bool {
	t.Helper()
	want := exprIsGood(s)
	if ok := impl.GoodExpr(s); ok != want {
		t.Fatalf("GoodExpr(%.200q) = %v", s, ok)
	}
	return want
}

func checkPlain(t *testing.T, s string) bool {
	t.Helper()
	want, told := plainByHand(s)
	got, ok := impl.PlainExpr(s)
	if got != want || ok != told {
		t.Fatalf("PlainExpr(%.200q) = %q, %v, not %.200q, %v", s, got, ok, want, told)
	}
	if again, fine := impl.PlainExpr(got); ok && (again != got || !fine) {
		t.Fatalf("PlainExpr(%q) = %q, %v: it is plain already", got, again, fine)
	}
	return ok
}

func checkDerive(t *testing.T, s, symbol string) bool {
	t.Helper()
	want, told := deriveByHand(s, symbol)
	got, ok := impl.DeriveExpr(s, symbol)
	if got != want || ok != told {
		t.Fatalf("DeriveExpr(%.200q, %.20q) = %q, %v, not %q, %v", s, symbol, got, ok, want, told)
	}
	if plain, fine := impl.PlainExpr(got); ok && (plain != got || !fine) {
		t.Fatalf("DeriveExpr(%q, %q) = %q: that is not plain, but %q, %v", s, symbol, got, plain, fine)
	}
	return ok
}

func checkFirsts(t *testing.T, s string) {
	t.Helper()
	want, told := firstsByHand(s)
	if got, ok := impl.FirstsOf(s); got != want || ok != told {
		t.Fatalf("FirstsOf(%.200q) = %q, %v, not %q, %v", s, got, ok, want, told)
	}
}

// checkWords asks for the same of the words by all that tells rows.
func checkWords(t *testing.T, s string, words []string) {
	t.Helper()
	m := matcherOf(s)
	plain, isPlain := impl.PlainExpr(s)
	l, hasStates := impl.StatesOf(s)
	for _, w := range words {
		want := m.MatchString(w)
		if got, ok := impl.MatchExpr(s, w); got != want || !ok {
			t.Fatalf("MatchExpr(%q, %q) = %v, %v", s, w, got, ok)
		}
		if got, ok := impl.MatchExpr(plain, w); isPlain && (got != want || !ok) {
			t.Fatalf("MatchExpr(%q, %q) = %v, %v, but of %q it is %v", plain, w, got, ok, s, want)
		}
		if got, ok := impl.RunStates(l, w); hasStates && (got != want || !ok) {
			t.Fatalf("RunStates of %q, %q: %v, %v", s, w, got, ok)
		}
	}
	want := m.MatchString("")
	if got, ok := impl.NullableExpr(s); got != want || !ok {
		t.Fatalf("NullableExpr(%q) = %v, %v", s, got, ok)
	}
}

// checkBehind is Brzozowski's: a word with a symbol ahead is a row just where
// the word is one of what is left behind the symbol.
func checkBehind(t *testing.T, s, symbol string, words []string) {
	t.Helper()
	left, told := impl.DeriveExpr(s, symbol)
	if !told {
		return
	}
	for _, w := range words {
		x, ok1 := impl.MatchExpr(s, symbol+w)
		y, ok2 := impl.MatchExpr(left, w)
		if ok1 != (len(w) < impl.MaxWord) || !ok2 || ok1 && x != y {
			t.Fatalf("%q: %q is a row: %v, %v; but %q of what is left, %q: %v, %v", s, symbol+w, x, ok1, w, left, y, ok2)
		}
	}
}

func checkStates(t *testing.T, s string) bool {
	t.Helper()
	want, told := statesByHand(s)
	got, ok := impl.StatesOf(s)
	if !sameStates(got, want) || ok != told {
		t.Fatalf("StatesOf(%.200q) = %v, %v, not %v, %v", s, got, ok, want, told)
	}
	return ok
}

// checkExpr asks for all that chapter 6 says of one expression.
func checkExpr(t *testing.T, s string, words []string) {
	t.Helper()
	checkWords(t, s, words)
	if isBeyondHand(s) {
		return
	}
	checkPlain(t, s)
	checkFirsts(t, s)
	checkStates(t, s)
	for i := range exprSymbols {
		checkDerive(t, s, exprSymbols[i:i+1])
	}
}

func (c *chooser) sign() string {
	const often = "AAAAABBBBBCt..-!"
	if c.next(8) == 0 {
		return exprSigns[c.next(len(exprSigns)):][:1]
	}
	return often[c.next(len(often)):][:1]
}

// expr is an expression of so many bytes, most of them good.
func (c *chooser) expr(size int) string {
	if size < 2 {
		return c.sign()
	}
	most := "*?"
	if c.next(4) == 0 {
		most = "+"
	}
	often := most[c.next(len(most)):][:1]
	cut := 1 + c.next(size-1)
	switch k := c.next(8); {
	case k < 2:
		return c.expr(cut) + c.expr(size-cut)
	case k < 4 && size > 4:
		return c.expr(1+c.next(size-2)) + "|" + c.expr(1)
	case k < 5 && size > 6:
		half := 1 + c.next(size-6)
		return "(" + c.expr(half) + "|" + c.expr(size-4-half) + ")" + often
	case k < 6 && size > 4:
		return "(" + c.expr(size-3) + ")" + often
	case k < 7 && size > 3:
		return "(" + c.expr(size-2) + ")"
	}
	return c.expr(size-1) + often
}

// word is one of so many symbols, most of them A and B.
func (c *chooser) word(n int) string {
	out := ""
	for range n {
		k := c.next(2)
		if c.next(8) == 0 {
			k = c.next(len(exprSymbols))
		}
		out += exprSymbols[k : k+1]
	}
	return out
}

// eachExpr goes through all small expressions, and through others by a fixed rule.
func eachExpr(f func(s string)) {
	for _, s := range allTexts("AB-!()*?+|", 4) {
		if exprIsGood(s) {
			f(s)
		}
	}
	for _, s := range allTexts("At.-*|", 5) {
		if exprIsGood(s) && strings.Contains(s, ".") {
			f(s)
		}
	}
	c := &chooser{6}
	for k := range 1500 {
		if s := c.expr(1 + k%impl.MaxExpr); exprIsGood(s) {
			f(s)
		}
	}
}

func deepExpr(n int) string {
	return strings.Repeat("(", n) + "A" + strings.Repeat(")", n)
}

func rowOfA(n int) string { return strings.Repeat("A", n) }

// Chapter 6: which expressions are good, of all small texts and of others.
func TestGoodExprsAsSaid(t *testing.T) {
	good := 0
	for _, s := range slices.Concat(allTexts("A.-!()*?+|t", 4), allTexts("A(*|)", 6)) {
		if checkGoodExpr(t, s) {
			good++
		}
	}
	c := &chooser{60}
	for k := range 4000 {
		s := c.expr(1 + k%(impl.MaxExpr+3))
		checkGoodExpr(t, s)
		cut := c.next(len(s) + 1)
		checkGoodExpr(t, s[:cut])
		checkGoodExpr(t, s[cut:])
		checkGoodExpr(t, s[:cut]+"()*?+|A.-!tG "[c.next(13):][:1]+s[cut:])
	}
	if good < 1000 {
		t.Errorf("but %d texts were good", good)
	}
}

func TestGoodExprsOneByOne(t *testing.T) {
	for s, want := range map[string]bool{
		"": false, "A": true, "F": true, "t": true, "G": false, "a": false, "T": false,
		".": true, "-": true, "!": true, "(A)": true, "()": false, "(": false, ")": false, ")A(": false,
		"A*": true, "A?": true, "A+": true, "A*?+*": true, "*": false, "*A": false, "?": false, "+": false, "(*A)": false,
		"-*": true, "!*": true, ".*": true, "(A)*": true, "(A*)": true, "A|*": false, "A(*)": false,
		"AB": true, "A|B": true, "AB|CD|EFt": true, "|": false, "A|": false, "|A": false, "A||B": false, "(A|)": false, "(|A)": false, "A(|)B": false,
		"A B": false, " A": false, "A\n": false, "A\x00": false, "\x00": false, "(A))": false, "((A)": false, "A)": false, "(A": false,
		rowOfA(1): true, rowOfA(impl.MaxExpr): true, rowOfA(impl.MaxExpr + 1): false,
		deepExpr(mostNested): true, deepExpr(mostNested + 1): false, deepExpr(29): false, deepExpr(30): false,
		"(A)" + deepExpr(mostNested): true, strings.Repeat("(A)", 20): true, "((A)(A))" + deepExpr(mostNested): true, "(A)" + deepExpr(mostNested+1): false,
		"A" + strings.Repeat("*", impl.MaxExpr-1): true, "A" + strings.Repeat("*", impl.MaxExpr): false,
		strings.Repeat("A|", 29) + "A": true, strings.Repeat("A|", 29) + "AA": true, strings.Repeat("A|", 30) + "A": false, strings.Repeat("A|", 30): false,
	} {
		if ok := impl.GoodExpr(s); ok != want {
			t.Errorf("GoodExpr(%q) = %v", s, ok)
		}
	}
}

// Promise 6: plain expressions are as said, are plain already, and have the
// same rows; all that tells rows tells the same ones.
func TestExprsAsSaid(t *testing.T) {
	words := allTexts("ABt", 3)
	told, states := 0, 0
	eachExpr(func(s string) {
		checkExpr(t, s, words)
		if _, ok := impl.PlainExpr(s); ok {
			told++
		}
		if _, ok := impl.StatesOf(s); ok {
			states++
		}
	})
	if told < 1000 || states < 1000 {
		t.Errorf("but %d plain expressions and %d lists of states were told", told, states)
	}
}

// Promise 6: Brzozowski.
func TestWordsBehindASymbol(t *testing.T) {
	words := append(allTexts("ABt", 2), "AAA", "ABA", "BABA", "AAAAAA")
	eachExpr(func(s string) {
		for _, symbol := range []string{"A", "B", "t"} {
			checkBehind(t, s, symbol, words)
		}
	})
}

// Promise 6: of long words, of long expressions.
func TestLongWords(t *testing.T) {
	c := &chooser{16}
	rows := 0
	for k := range 600 {
		s := c.expr(20 + k%41)
		if !exprIsGood(s) {
			continue
		}
		words := []string{strings.Repeat("A", impl.MaxWord), strings.Repeat("AB", impl.MaxWord/2)}
		for n := range impl.MaxWord + 1 {
			words = append(words, c.word(n))
		}
		checkWords(t, s, words)
		checkBehind(t, s, c.word(1), words)
		for _, w := range words {
			if is, _ := impl.MatchExpr(s, w); is && len(w) > 30 {
				rows++
			}
		}
	}
	if rows < 300 {
		t.Errorf("but %d long words were rows", rows)
	}
}

func TestMatchingOneByOne(t *testing.T) {
	for _, x := range []struct {
		s, word string
		want    bool
	}{
		{"-", "", true}, {"-", "A", false}, {"!", "", false}, {"!", "A", false}, {"A", "", false}, {"A", "A", true}, {"A", "B", false}, {"A", "AA", false},
		{".", "t", true}, {".", "F", true}, {".", "", false}, {".", "AA", false}, {"t", "t", true}, {"t", "A", false},
		{"A*", "", true}, {"A+", "", false}, {"A?", "", true}, {"A?", "AA", false}, {"A+", "AAA", true},
		{"A|BC", "AC", false}, {"A|BC", "A", true}, {"A|BC", "BC", true}, {"(A|B)C", "AC", true}, {"(A|B)C", "A", false},
		{"AB*", "ABAB", false}, {"AB*", "ABBB", true}, {"(AB)*", "ABAB", true}, {"(AB)*", "ABA", false},
		{"!*", "", true}, {"!*", "A", false}, {"!?", "", true}, {"!+", "", false}, {"-+", "", true}, {"-*", "A", false},
		{"A!", "A", false}, {"!A", "A", false}, {"A!|B", "B", true}, {"A(!|-)", "A", true}, {"(A!)*B", "AB", false}, {"(A!)*B", "B", true},
		{"(A*B?)*", "ABBABAAB", true}, {"(A*)*C", "AAAC", true}, {"(-|A)*B", "AAB", true}, {"A**", "AA", true},
		{".*A..", "BBBABB", true}, {".*A..", "BBBBBA", false},
		{"A*", strings.Repeat("A", 60), true}, {"A*", strings.Repeat("A", 59) + "B", false}, {"A*B", strings.Repeat("A", 59) + "B", true},
		{"(AAA)*", strings.Repeat("A", 60), true}, {"(AAAAAAA)*", strings.Repeat("A", 60), false}, {rowOfA(60), strings.Repeat("A", 60), true}, {rowOfA(59), strings.Repeat("A", 60), false},
		{deepExpr(mostNested), "A", true},
	} {
		if got, ok := impl.MatchExpr(x.s, x.word); got != x.want || !ok {
			t.Errorf("MatchExpr(%q, %q) = %v, %v", x.s, x.word, got, ok)
		}
	}
}

func TestPlainOneByOne(t *testing.T) {
	for s, want := range map[string]string{
		"A": "A", "t": "t", ".": ".", "-": "-", "!": "!", "((A))": "A",
		// `!` and `-` in a row.
		"A!": "!", "!A": "!", "A!B*": "!", "A-": "A", "-A": "A", "-A-B-": "AB", "--": "-", "(-)": "-", "(-)(--)": "-", "-!": "!", "!-": "!", "A(B!)C": "!", "A(B-)C": "ABC", "A-*B": "AB", "A!*B": "AB",
		// `!` and `-` among what is parted.
		"A|!": "A", "!|A": "A", "!|!": "!", "A|-": "-|A", "-|-": "-", "!|-": "-", "!|A|!|B|!": "A|B", "(A!)|B": "B", "A|(!|!)": "A", "A(!|!)": "!", "A(-|!)": "A", "A(B|!)": "AB", "A(-|-)": "A",
		// `!` and `-` ahead of `*`, `?` and `+`.
		"!*": "-", "-*": "-", "(A!)*": "-", "(!|-)*": "-", "--*": "-", "!?": "-", "-?": "-", "!+": "!", "-+": "-", "!**": "-", "A!*": "A", "(-A)*": "A*", "(A|!)*": "A*",
		// x**, x?, x+.
		"A**": "A*", "(A*)*": "A*", "A*****": "A*", "((AB)*)*": "(AB)*", "((A|B)*)*": "(A|B)*", "(A*B)*": "(A*B)*", "(-A*)*": "A*", "(A*|!)*": "A*", "(A*|A*)*": "A*", "(A*|B)*": "(A*|B)*", "(-|A*)*": "(-|A*)*",
		"A?": "-|A", "A??": "-|A", "A?*": "(-|A)*", "A*?": "-|A*", "A?B": "(-|A)B", "(AB)?": "-|AB", "(A|B)?": "-|A|B", "(A|-)?": "-|A", "((AB)*)?": "(AB)*|-", "((A|B)C)?": "(A|B)C|-",
		"A+": "AA*", "A++": "AA*(AA*)*", "A+*": "(AA*)*", "A*+": "A*A*", "A+B": "AA*B", "(AB)+": "AB(AB)*", "(A|B)+": "(A|B)(A|B)*", "A?+": "(-|A)(-|A)*", "A+?": "-|AA*", "(A|A)+": "AA*", "(A-)+": "AA*",
		// What is parted is sorted, each once, also what is parted within it.
		"B|A": "A|B", "A|A": "A", "B|A|B|A": "A|B", "(B|C)|A": "A|B|C", "A|(B|(A|(D|C)))": "A|B|C|D", "(A|B)|(B|A)": "A|B", "t|F|E|.|-|A": "-|.|A|E|F|t",
		"AB|A": "A|AB", "A*|A": "A|A*", "A|A*|AA|A-": "A|A*|AA", "(B|A)(D|C)": "(A|B)(C|D)", "(B|A)*": "(A|B)*", "(B|A)C|-|A": "(A|B)C|-|A", "(A|B)*|(B|A)*": "(A|B)*", "(A|B)C|(B|A)C": "(A|B)C", "A(B|C)|AB": "A(B|C)|AB",
		"(A|A)B": "AB", "(A|A)*": "A*", "((A|A))|A": "A", "A(BC|BC)D": "ABCD", "AB|(A)(B)": "AB", "(AB)C|A(BC)": "ABC", "A|t|A*|(A)": "A|A*|t", "A+|AA*": "AA*", "A?|-": "-|A", "A?|B?": "-|A|B",
		// `(` and `)` just where they are needed.
		"(A)(B)": "AB", "(AB)(CD)": "ABCD", "((AB)C)": "ABC", "(A*)(B*)": "A*B*", "(A)*": "A*", "(AB)*": "(AB)*", "(A|B)*": "(A|B)*", "(AB)|(CD)": "AB|CD", "(A|B)": "A|B", "(A|B)C": "(A|B)C", "C(A|B)": "C(A|B)", "A(B|C)D": "A(B|C)D",
		"(.)*": ".*", "((A)*B)*": "(A*B)*", "((A|B)(C|D))*": "((A|B)(C|D))*", "((AB)*|C)*": "((AB)*|C)*", "A((BC)*)D": "A(BC)*D", "A(BC|D)*": "A(BC|D)*", "((A*))|(B)": "A*|B",
		"(B|A)?B+!|(A*)*": "A*",
	} {
		if got, ok := impl.PlainExpr(s); got != want || !ok {
			t.Errorf("PlainExpr(%q) = %q, %v, not %q", s, got, ok, want)
		}
	}
}

func TestDerivedOneByOne(t *testing.T) {
	for _, x := range [][3]string{
		{"A", "A", "-"}, {"A", "B", "!"}, {".", "A", "-"}, {".", "t", "-"}, {"t", "t", "-"}, {"-", "A", "!"}, {"!", "A", "!"},
		{"AB", "A", "B"}, {"AB", "B", "!"}, {"A?B", "B", "-"}, {"A?B", "A", "B"}, {"A*B", "A", "A*B"}, {"A*B", "B", "-"}, {"A*A", "A", "-|A*A"}, {"A*B*", "B", "B*"}, {"A*B*A", "A", "-|A*B*A"},
		{"A|B", "A", "-"}, {"AB|AC", "A", "B|C"}, {"AC|AB|AB", "A", "B|C"}, {"AB|A", "A", "-|B"}, {"AB|CD", "C", "D"},
		{"A*", "A", "A*"}, {"A*", "B", "!"}, {"(AB)*", "A", "B(AB)*"}, {"(AB|AC)*", "A", "(B|C)(AB|AC)*"}, {"(A|AB)*", "A", "(-|B)(A|AB)*"}, {"(A|B)*A", "A", "(A|B)*A|-"}, {"A+", "A", "A*"}, {"A++", "A", "A*(AA*)*"},
		// A row is its first part and all others: what is left of the first part is not put together with what is left of another one.
		{"A?A?C", "A", "(-|A)C|C"}, {"A*A*A", "A", "-|A*A|A*A*A"}, {"A?A?A?", "A", "(-|A)(-|A)|-|A"}, {"(A|AB)?(A|C)D", "A", "(-|B)(A|C)D|D"},
		{"A!|B", "A", "!"}, {"A(B|!)", "A", "B"}, {"(A!)*B", "B", "-"}, {"(A!)*B", "A", "!"},
	} {
		if got, ok := impl.DeriveExpr(x[0], x[1]); got != x[2] || !ok {
			t.Errorf("DeriveExpr(%q, %q) = %q, %v, not %q", x[0], x[1], got, ok, x[2])
		}
	}
}

// Promise 6: FirstsOf tells just the symbols with which a row begins.
func TestFirstsAreThoseOfRows(t *testing.T) {
	words := allTexts(exprSymbols, 3)
	for _, s := range allTexts("At.!*|", 4) {
		if !exprIsGood(s) {
			continue
		}
		m := matcherOf(s)
		want := ""
		for i := range exprSymbols {
			symbol := exprSymbols[i : i+1]
			if slices.ContainsFunc(words, func(w string) bool { return m.MatchString(symbol + w) }) {
				want += symbol
			}
		}
		if got, ok := impl.FirstsOf(s); got != want || !ok {
			t.Errorf("FirstsOf(%q) = %q, %v, not %q", s, got, ok, want)
		}
	}
	for s, want := range map[string]string{
		"A": "A", "-": "", "!": "", ".": exprSymbols, "tFEDCBA": "t", "t|F|E|D|C|B|A": exprSymbols, "t?(C|B)": "BCt", "A!": "", "A!|B": "B", "(A!)*B": "B", "A*B*t": "ABt", "-A": "A", "A+B": "A", "A?+B": "AB", "!*C": "C", "(-|A)(-|t)D|E": "ADEt",
	} {
		if got, ok := impl.FirstsOf(s); got != want || !ok {
			t.Errorf("FirstsOf(%q) = %q, %v, not %q", s, got, ok, want)
		}
	}
}

func TestNullableOneByOne(t *testing.T) {
	for s, want := range map[string]bool{
		"A": false, ".": false, "-": true, "!": false, "A*": true, "A?": true, "A+": false, "-+": true, "!*": true, "!?": true, "!+": false, "A*B*": true, "A*B": false, "AB*": false, "A|B": false, "A|-": true, "A*|B": true, "-!": false, "(A|-)(B|-)": true, "A?!": false, "A?+": true,
	} {
		if got, ok := impl.NullableExpr(s); got != want || !ok {
			t.Errorf("NullableExpr(%q) = %v, %v", s, got, ok)
		}
	}
}

// Promise 6: the states are PlainExpr and what derives, each once, in the order
// in which they are met.
func TestStatesAsSaid(t *testing.T) {
	eachExpr(func(s string) {
		l, ok := impl.StatesOf(s)
		if !ok {
			return
		}
		plain, _ := impl.PlainExpr(s)
		if len(l) == 0 || len(l) > impl.MaxStates || l[0].Expr != plain {
			t.Fatalf("StatesOf(%q) = %v", s, l)
		}
		most := 0
		for k, x := range l {
			if null, _ := impl.NullableExpr(x.Expr); x.Final != null || len(x.Next) != len(exprSymbols) {
				t.Fatalf("StatesOf(%q): the state %d is %v", s, k, x)
			}
			if slices.ContainsFunc(l[:k], func(y impl.State) bool { return x.Expr == y.Expr }) || k > most {
				t.Fatalf("StatesOf(%q): the state %d, %v, is there twice, or is come to from none ahead of it", s, k, x)
			}
			for i, n := range x.Next {
				if left, ok := impl.DeriveExpr(x.Expr, exprSymbols[i:i+1]); !ok || n < 0 || n > min(most+1, len(l)-1) || l[n].Expr != left {
					t.Fatalf("StatesOf(%q): behind %c the state %d, %v, goes to %d, not to %q, %v", s, exprSymbols[i], k, x, n, left, ok)
				}
				most = max(most, n)
			}
		}
	})
}

func TestStatesOneByOne(t *testing.T) {
	dead := []int{1, 1, 1, 1, 1, 1, 1}
	for s, want := range map[string][]impl.State{
		"!":       {{Expr: "!", Next: []int{0, 0, 0, 0, 0, 0, 0}}},
		"-":       {{Expr: "-", Final: true, Next: dead}, {Expr: "!", Next: dead}},
		".*":      {{Expr: ".*", Final: true, Next: []int{0, 0, 0, 0, 0, 0, 0}}},
		"A*":      {{Expr: "A*", Final: true, Next: []int{0, 1, 1, 1, 1, 1, 1}}, {Expr: "!", Next: dead}},
		"t":       {{Expr: "t", Next: []int{1, 1, 1, 1, 1, 1, 2}}, {Expr: "!", Next: dead}, {Expr: "-", Final: true, Next: dead}},
		"(B|A)*A": {{Expr: "(A|B)*A", Next: []int{1, 0, 2, 2, 2, 2, 2}}, {Expr: "(A|B)*A|-", Final: true, Next: []int{1, 0, 2, 2, 2, 2, 2}}, {Expr: "!", Next: []int{2, 2, 2, 2, 2, 2, 2}}},
	} {
		if got, ok := impl.StatesOf(s); !sameStates(got, want) || !ok {
			t.Errorf("StatesOf(%q) = %v, %v, not %v", s, got, ok, want)
		}
	}
}

// The limits may be met exactly; one more is too many.
func TestLimitsOfExprs(t *testing.T) {
	for n, want := range map[int]bool{0: false, 1: true, impl.MaxExpr: true, impl.MaxExpr + 1: false} {
		s := rowOfA(n)
		if plain, ok := impl.PlainExpr(s); ok != want || ok && plain != s {
			t.Errorf("PlainExpr of %d A: %q, %v", n, plain, ok)
		}
		if left, ok := impl.DeriveExpr(s, "A"); ok != want || n > 1 && ok && left != s[1:] {
			t.Errorf("DeriveExpr of %d A: %q, %v", n, left, ok)
		}
		if firsts, ok := impl.FirstsOf(s); ok != want || ok && firsts != "A" {
			t.Errorf("FirstsOf %d A: %q, %v", n, firsts, ok)
		}
		if null, ok := impl.NullableExpr(s); ok != want || null {
			t.Errorf("NullableExpr of %d A: %v, %v", n, null, ok)
		}
		if is, ok := impl.MatchExpr(s, s[:min(n, impl.MaxWord)]); is != want || ok != want {
			t.Errorf("MatchExpr of %d A: %v, %v", n, is, ok)
		}
	}
	for n, want := range map[int]bool{mostNested: true, mostNested + 1: false} {
		if plain, ok := impl.PlainExpr(deepExpr(n)); ok != want || ok && plain != "A" {
			t.Errorf("PlainExpr of A in %d `(`: %q, %v", n, plain, ok)
		}
		if left, ok := impl.DeriveExpr(deepExpr(n), "A"); ok != want || ok && left != "-" {
			t.Errorf("DeriveExpr of A in %d `(`: %q, %v", n, left, ok)
		}
		if l, ok := impl.StatesOf(deepExpr(n)); ok != want || ok && len(l) != 3 {
			t.Errorf("StatesOf A in %d `(`: %v, %v", n, l, ok)
		}
	}
}

func TestLimitsOfWords(t *testing.T) {
	l, _ := impl.StatesOf("A*")
	for n, want := range map[int]bool{0: true, impl.MaxWord: true, impl.MaxWord + 1: false, 1000000: false} {
		w := strings.Repeat("A", n)
		if is, ok := impl.MatchExpr("A*", w); is != want || ok != want {
			t.Errorf("MatchExpr of %d A: %v, %v", n, is, ok)
		}
		if is, ok := impl.RunStates(l, w); is != want || ok != want {
			t.Errorf("RunStates of %d A: %v, %v", n, is, ok)
		}
	}
}

// A row of n A has n + 2 states.
func TestLimitsOfStates(t *testing.T) {
	for n, want := range map[int]bool{impl.MaxStates - 3: true, impl.MaxStates - 2: true, impl.MaxStates - 1: false, impl.MaxExpr: false} {
		l, ok := impl.StatesOf(rowOfA(n))
		if ok != want || ok && len(l) != n+2 || !ok && l != nil {
			t.Errorf("StatesOf %d A: %d states, %v", n, len(l), ok)
		}
	}
	full, _ := impl.StatesOf(rowOfA(impl.MaxStates - 2))
	if is, ok := impl.RunStates(full, rowOfA(impl.MaxStates-2)); !is || !ok {
		t.Errorf("RunStates of %d states: %v, %v", len(full), is, ok)
	}
	if is, ok := impl.RunStates(append(full, full[0]), rowOfA(impl.MaxStates-2)); is || ok {
		t.Errorf("RunStates of %d states: %v, %v", len(full)+1, is, ok)
	}
	// States that are too many, though each expression is short.
	for _, s := range []string{".*A......", ".*A...", ".*A...."} {
		checkStates(t, s)
	}
	if l, ok := impl.StatesOf(".*A......"); l != nil || ok {
		t.Errorf("StatesOf: %d states, %v", len(l), ok)
	}
}

// An answer may have MaxExpr bytes, and not one more: none is told then.
func TestLimitsOfAnswers(t *testing.T) {
	for s, want := range map[string]string{
		rowOfA(57) + "B+":                     rowOfA(57) + "BB*",
		rowOfA(58) + "B+":                     "",
		rowOfA(55) + "B?":                     rowOfA(55) + "(-|B)",
		rowOfA(56) + "B?":                     "",
		"(" + rowOfA(57) + ")*":               "(" + rowOfA(57) + ")*",
		"B|" + rowOfA(58):                     rowOfA(58) + "|B",
		"A|A|" + rowOfA(56):                   "A|" + rowOfA(56),
		"(" + rowOfA(57) + ")?":               "-|" + rowOfA(57),
		"(" + rowOfA(28) + ")+":               rowOfA(28) + "(" + rowOfA(28) + ")*",
		"(" + rowOfA(29) + ")+":               "",
		"((" + rowOfA(13) + ")+)?":            "-|" + rowOfA(13) + "(" + rowOfA(13) + ")*",
		strings.Repeat("A?", 12):              strings.Repeat("(-|A)", 12),
		strings.Repeat("A?", 13):              "",
		strings.Repeat("A?", 13) + "!":        "!",
		strings.Repeat("A?", 13) + "|A":       "",
		"(" + strings.Repeat("A?", 13) + ")*": "",
	} {
		if got, ok := impl.PlainExpr(s); got != want || ok != (want != "") {
			t.Errorf("PlainExpr(%q) = %q, %v, not %q", s, got, ok, want)
		}
		checkPlain(t, s)
		checkStates(t, s)
	}
	for s, want := range map[string]string{
		"(" + rowOfA(27) + "|B)*":  rowOfA(26) + "(" + rowOfA(27) + "|B)*",
		"(" + rowOfA(28) + "|B)*":  rowOfA(27) + "(" + rowOfA(28) + "|B)*",
		"(" + rowOfA(28) + "|BB)*": "",
		"(" + rowOfA(29) + "|B)*":  "",
		"(" + rowOfA(55) + "|B)*":  "",
	} {
		if got, ok := impl.DeriveExpr(s, "A"); got != want || ok != (want != "") {
			t.Errorf("DeriveExpr(%q, A) = %q, %v, not %q", s, got, ok, want)
		}
		checkStates(t, s)
	}
}

// Each `+` may double what is plain: it must not be written down where it is
// too long, and all that does not ask for it is told all the same.
func TestExprsWithoutMeasure(t *testing.T) {
	for _, n := range []int{6, 20, impl.MaxExpr - 5} {
		many := strings.Repeat("+", n)
		for _, s := range []string{"A" + many, "A*" + many, "A?" + many, "(A*B)" + many, "-|A" + many, "A*" + many + "|B"} {
			if plain, ok := impl.PlainExpr(s); plain != "" || ok {
				t.Errorf("PlainExpr(%q) = %q, %v", s, plain, ok)
			}
			if l, ok := impl.StatesOf(s); l != nil || ok {
				t.Errorf("StatesOf(%q) = %v, %v", s, l, ok)
			}
			if left, ok := impl.DeriveExpr(s, "A"); left != "" || ok {
				t.Errorf("DeriveExpr(%q, A) = %q, %v", s, left, ok)
			}
			if left, ok := impl.DeriveExpr(s, "C"); left != "!" || !ok {
				t.Errorf("DeriveExpr(%q, C) = %q, %v", s, left, ok)
			}
			checkWords(t, s, append(allTexts("AB", 3), strings.Repeat("A", impl.MaxWord)))
		}
		for _, x := range []struct{ s, plain, firsts string }{
			{"A" + many + "!", "!", ""}, {"!A" + many, "!", ""}, {"A*" + many + "!", "!", ""}, {"A" + many + "!|B", "B", "B"}, {"(A" + many + "!)*", "-", ""}, {"!" + many, "!", ""}, {"-" + many, "-", ""}, {"A" + strings.Repeat("*", n), "A*", "A"}, {"A" + strings.Repeat("?", n), "-|A", "A"},
		} {
			if len(x.s) > impl.MaxExpr {
				continue
			}
			if got, ok := impl.PlainExpr(x.s); got != x.plain || !ok {
				t.Errorf("PlainExpr(%q) = %q, %v, not %q", x.s, got, ok, x.plain)
			}
			if got, ok := impl.FirstsOf(x.s); got != x.firsts || !ok {
				t.Errorf("FirstsOf(%q) = %q, %v, not %q", x.s, got, ok, x.firsts)
			}
		}
	}
}

// What is left behind a symbol is told where it is good itself, also where
// the plain expression is too long.
func TestWhatIsLeftOfLongExprs(t *testing.T) {
	for _, x := range [][3]string{
		{"A|B+++++", "A", "-"}, {"A|B+++++", "B", ""}, {"A|B+++++", "C", "!"}, {"AC|B+++++", "A", "C"}, {"(A|B+++++)D", "A", "D"},
		{"A|B++++++++++++++++++++++++++++++++++++++++++++", "A", "-"},
		{"B*++++++++++++++++++++++++++++++++++++++A", "A", "-"}, {"B*++++++++++++++++++++++++++++++++++++++A", "B", ""},
		{"(A|-|B+++++)(A|C)D", "A", "(A|C)D|D"},
		// The same twice among what is parted, though it is too long to be told: it is a row then, and not parted any more.
		{"((A|-|B+++++)(A|C)|(A|-|B+++++)(A|C))D", "A", "(A|C)D|D"},
		{"((A|-|B+++++)(A|C)|(B+++++|-|A)(A|C))D", "A", "(A|C)D|D"},
		{"((A|B+++++|C+++++)?(A|C)|(-|C+++++|A|B+++++)(A|C))D", "A", "(A|C)D|D"},
		{"((A|-|B+++++)(A|C)|(A|-|B++++++)(A|C))D", "A", "(-|A|C)D"},
		{"((A|-|B+++++)(A|C)|E(A|-|B+++++)(A|C))D", "A", "(-|A|C)D"},
		{strings.Repeat("A?", 13), "A", ""}, {strings.Repeat("B?", 12) + "A", "A", "-"}, {rowOfA(58) + "A+", "A", rowOfA(57) + "AA*"}, {"(" + rowOfA(29) + ")+", "A", rowOfA(28) + "(" + rowOfA(29) + ")*"}, {"(" + rowOfA(30) + ")+", "A", ""}, {"(B|" + rowOfA(28) + ")+", "A", rowOfA(27) + "(" + rowOfA(28) + "|B)*"},
	} {
		if got, ok := impl.DeriveExpr(x[0], x[1]); got != x[2] || ok != (x[2] != "") {
			t.Errorf("DeriveExpr(%q, %q) = %q, %v, not %q", x[0], x[1], got, ok, x[2])
		}
		if !isBeyondHand(x[0]) {
			checkDerive(t, x[0], x[1])
		}
	}
}

// notExprs are texts that are no expressions.
func notExprs() []string {
	out := []string{"", "()", "(", ")", "A|", "|A", "A||A", "*", "A|*", "(*)", "(A", "A)", "A(", ")A(", "?A", "+", "((A)", "A())", "A B", "a", "T", "G", "A\x00", "\x00A", "A\n", "\u00c4", "A\xff", "[A]", "A{1}", "^A$", "\\A",
		rowOfA(impl.MaxExpr + 1), deepExpr(mostNested + 1), strings.Repeat("(", impl.MaxExpr), strings.Repeat(")", impl.MaxExpr), strings.Repeat("(", 1000000), strings.Repeat("A", 1000000), strings.Repeat("A|", 500000), "A" + strings.Repeat("+", 1000000), strings.Repeat("|", impl.MaxExpr)}
	for c := range 256 {
		if b := string([]byte{byte(c)}); !strings.Contains(exprSigns, b) {
			out = append(out, b)
			if !strings.Contains("()*?+|", b) {
				out = append(out, "A"+b, b+"A", "A"+b+"A", "("+b+")", "A|"+b)
			}
		}
	}
	return out
}

// notWords are texts that are no words.
func notWords() []string {
	out := []string{strings.Repeat("A", impl.MaxWord+1), strings.Repeat("A", 1000000), "A.", "-", "A B", "\u00c4", "A\x00"}
	for c := range 256 {
		if b := string([]byte{byte(c)}); !strings.Contains(exprSymbols, b) {
			out = append(out, b, "A"+b, b+"A", strings.Repeat("A", impl.MaxWord-1)+b)
		}
	}
	return out
}

// notStates are lists that are no states.
func notStates() [][]impl.State {
	seven := func(n int) []int { return []int{n, n, n, n, n, n, n} }
	loop := impl.State{Expr: ".*", Final: true, Next: seven(0)}
	out := [][]impl.State{nil, {}, {{}}, make([]impl.State, impl.MaxStates), make([]impl.State, impl.MaxStates+1), make([]impl.State, 100000),
		slices.Repeat([]impl.State{loop}, impl.MaxStates+1), slices.Repeat([]impl.State{loop}, 100000)}
	for _, next := range [][]int{nil, {}, {0}, seven(0)[:6], append(seven(0), 0), append(seven(0), seven(0)...), make([]int, 100000)} {
		out = append(out, []impl.State{{Final: true, Next: next}}, []impl.State{loop, {Next: next}}, []impl.State{{Next: next}, loop})
	}
	for _, n := range []int{-1, 2, 3, 7, impl.MaxStates, math.MinInt, math.MaxInt} {
		for k := range exprSymbols {
			next := seven(1)
			next[k] = n
			out = append(out, []impl.State{{Final: true, Next: next}, loop}, []impl.State{loop, {Next: next}})
		}
	}
	return out
}

// zeroOfExpr asks for the zero answer of each function that an expression is handed in to.
func zeroOfExpr(t *testing.T, number int, s string) {
	t.Helper()
	if impl.GoodExpr(s) {
		t.Errorf("GoodExpr of the text %d", number)
	}
	if got, ok := impl.PlainExpr(s); got != "" || ok {
		t.Errorf("PlainExpr of the text %d: %q, %v", number, got, ok)
	}
	if got, ok := impl.NullableExpr(s); got || ok {
		t.Errorf("NullableExpr of the text %d: %v, %v", number, got, ok)
	}
	if got, ok := impl.FirstsOf(s); got != "" || ok {
		t.Errorf("FirstsOf the text %d: %q, %v", number, got, ok)
	}
	if got, ok := impl.StatesOf(s); len(got) > 0 || ok {
		t.Errorf("StatesOf the text %d: %v, %v", number, got, ok)
	}
	for _, w := range []string{"", "A", "B", "t", "AA", "G"} {
		if got, ok := impl.DeriveExpr(s, w); got != "" || ok {
			t.Errorf("DeriveExpr of the text %d, %q: %q, %v", number, w, got, ok)
		}
		if got, ok := impl.MatchExpr(s, w); got || ok {
			t.Errorf("MatchExpr of the text %d, %q: %v, %v", number, w, got, ok)
		}
	}
}

// Promise 20: texts that are no expressions have the zero answer of each function.
func TestWrongExprsHaveTheZeroAnswer(t *testing.T) {
	for number, s := range notExprs() {
		zeroOfExpr(t, number, s)
	}
}

// Promise 20: words and symbols that are none have the zero answer.
func TestWrongWordsHaveTheZeroAnswer(t *testing.T) {
	l, _ := impl.StatesOf(".*")
	for number, w := range notWords() {
		for _, s := range []string{".*", "A*", "-", "!"} {
			if got, ok := impl.MatchExpr(s, w); got || ok {
				t.Errorf("MatchExpr(%q) of the word %d: %v, %v", s, number, got, ok)
			}
			if got, ok := impl.DeriveExpr(s, w); got != "" || ok {
				t.Errorf("DeriveExpr(%q) of the word %d: %q, %v", s, number, got, ok)
			}
		}
		if got, ok := impl.RunStates(l, w); got || ok {
			t.Errorf("RunStates of the word %d: %v, %v", number, got, ok)
		}
	}
	for _, symbol := range []string{"", "AA", "AB", "tt", "A ", " A", "-", "!", ".", "a", "T"} {
		if got, ok := impl.DeriveExpr(".*", symbol); got != "" || ok {
			t.Errorf("DeriveExpr(.*, %q) = %q, %v", symbol, got, ok)
		}
	}
}

// Promise 20: lists that are no states have the zero answer.
func TestWrongStatesHaveTheZeroAnswer(t *testing.T) {
	for number, l := range notStates() {
		for _, w := range []string{"", "A", "t", "ABCDEFt", strings.Repeat("A", impl.MaxWord), "G"} {
			if got, ok := impl.RunStates(l, w); got || ok {
				t.Errorf("RunStates of the states %d, %q: %v, %v", number, w, got, ok)
			}
		}
	}
}

// States need not be those of an expression: nothing is said of their Exprs.
func TestStatesOfNoExpr(t *testing.T) {
	l := []impl.State{
		{Expr: "no", Next: []int{0, 1, 2, 3, 2, 1, 0}},
		{Final: true, Next: []int{3, 3, 3, 3, 3, 3, 3}},
		{Expr: "A", Next: []int{2, 2, 2, 2, 2, 2, 1}},
		{Expr: "A", Final: true, Next: []int{0, 0, 0, 0, 0, 0, 0}},
	}
	c := &chooser{61}
	finals := 0
	for range 3000 {
		w := ""
		for range c.next(9) {
			w += exprSymbols[c.next(len(exprSymbols)):][:1]
		}
		want, told := runByHand(l, w)
		got, ok := impl.RunStates(l, w)
		if got != want || ok != told || !ok {
			t.Fatalf("RunStates(%v, %q) = %v, %v, not %v", l, w, got, ok, want)
		}
		if got {
			finals++
		}
	}
	if finals < 500 || finals > 2500 {
		t.Errorf("%d words came to what is Final", finals)
	}
}

// Promise 20: the answers share no memory with what was handed in, nor lists with one another.
func TestExprsAreNewMemory(t *testing.T) {
	for _, s := range []string{"A", "AB", "A|B", "(A|B)*A", ".", "-", "!", rowOfA(58)} {
		given := strings.Clone(s)
		plain, ok1 := impl.PlainExpr(given)
		left, ok2 := impl.DeriveExpr(given, given[:1])
		firsts, ok3 := impl.FirstsOf(given)
		l, ok4 := impl.StatesOf(given)
		if !ok1 || ok2 != symbolIsGood(s[:1]) || !ok3 || !ok4 {
			t.Fatalf("of %q not all is told", s)
		}
		if shareText(plain, given) || shareText(left, given) || shareText(firsts, given) {
			t.Errorf("an answer of %q lies in its memory", s)
		}
		for k, x := range l {
			if shareText(x.Expr, given) {
				t.Errorf("the state %d of %q lies in its memory", k, s)
			}
			for _, y := range l[:k] {
				if shareNumbers(x.Next, y.Next) {
					t.Errorf("StatesOf(%q): two lists lie in one memory", s)
				}
			}
		}
	}
}

func shareNumbers(a, b []int) bool {
	size := unsafe.Sizeof(0)
	x, y := uintptr(unsafe.Pointer(unsafe.SliceData(a))), uintptr(unsafe.Pointer(unsafe.SliceData(b)))
	return cap(a) > 0 && cap(b) > 0 && x < y+uintptr(cap(b))*size && y < x+uintptr(cap(a))*size
}

// Promise 20: nothing is written into states, nor behind their lengths, nor read there.
func TestStatesStayAsTheyWere(t *testing.T) {
	lists := notStates()
	for _, s := range []string{"A", "(A|B)*A", ".*A..", "-", "!"} {
		l, _ := impl.StatesOf(s)
		lists = append(lists, l)
	}
	wrong := impl.State{Expr: "no", Final: true, Next: []int{-1}}
	for number, l := range lists {
		given := slices.Clone(l)
		for k := range given {
			given[k].Next = append(slices.Clone(l[k].Next), -1, -1)[:len(l[k].Next)]
		}
		long := append(given, wrong, wrong)
		for _, w := range []string{"", "A", "AB", "ABCDEFt"} {
			want, told := runByHand(l, w)
			if got, ok := impl.RunStates(long[:len(l)], w); got != want || ok != told {
				t.Errorf("RunStates of the states %d, %q: %v, %v, not %v, %v", number, w, got, ok, want, told)
			}
		}
		if !sameStates(long[:len(l)], l) || !sameStates(long[len(l):], []impl.State{wrong, wrong}) {
			t.Errorf("the states %d were changed", number)
		}
		for k := range l {
			if next := long[k].Next; next[:len(next)+1][len(next)] != -1 {
				t.Errorf("the states %d were changed behind the numbers of the state %d", number, k)
			}
		}
	}
}

// Promise 20: an answer is the same, whatever was asked and done ahead of it.
func TestExprsAreToldAnew(t *testing.T) {
	first, _ := impl.StatesOf("(A|B)*A")
	want := first[0].Expr
	for k := range first {
		clear(first[k].Next)
		first[k] = impl.State{}
	}
	impl.PlainExpr("B|A")
	again, ok := impl.StatesOf("(A|B)*A")
	if byHand, _ := statesByHand("(A|B)*A"); !ok || want != "(A|B)*A" || !sameStates(again, byHand) {
		t.Errorf("StatesOf, asked again, = %v, %v", again, ok)
	}
}

// FuzzExprs: no argument makes one of the eight functions panic, or tell another thing than the document says.
func FuzzExprs(f *testing.F) {
	f.Add("(A|B)*A", "AAB", "A", 0, 1)
	f.Add("t?(C|B)+!|-", "tC", "t", -1, 60)
	f.Add("A+++++++++++++++++++++++++++++", "\xff", "", 1<<62, -1<<62)
	f.Add("((((((((((((((((((((A))))))))))))))))))))", "G", "AA", 2, 2)
	f.Fuzz(func(t *testing.T, s, word, symbol string, n, m int) {
		if !checkGoodExpr(t, s) {
			zeroOfExpr(t, 0, s)
		} else if wordIsGood(word) {
			checkExpr(t, s, []string{word, ""})
		}
		if !isBeyondHand(s) {
			checkDerive(t, s, symbol)
		}
		if got, ok := impl.MatchExpr(s, word); ok != (exprIsGood(s) && wordIsGood(word)) || got && !ok {
			t.Fatalf("MatchExpr(%q, %q) = %v, %v", s, word, got, ok)
		}
		l := []impl.State{{Expr: s, Next: []int{0, n, 1, m, 1, 0, n}}, {Expr: word, Final: true, Next: []int{m, 1, n, 0, 0, 1, 1}}, {Next: []int{0, 1, 2, n, m, 2, 1}}}
		for k := range len(l) + 1 {
			want, told := runByHand(l[:k], word)
			if got, ok := impl.RunStates(l[:k], word); got != want || ok != told {
				t.Fatalf("RunStates(%v, %q) = %v, %v, not %v, %v", l[:k], word, got, ok, want, told)
			}
		}
	})
}
