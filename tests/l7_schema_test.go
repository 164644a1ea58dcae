package tests

import (
	"cmp"
	"math"
	"regexp"
	"slices"
	"strings"
	"testing"
	"unsafe"

	"loop.example/g00253/impl"
)

const namesOfRules = "-" + namesOfElements
const longestLeast = 40
const deepestLeast = 4

func rule(name, expr string) impl.Rule { return impl.Rule{Name: name, Expr: expr} }

// rulesOf reads rules from pairs of a name and an expression.
func rulesOf(pairs ...string) []impl.Rule {
	var out []impl.Rule
	for k := 0; k < len(pairs); k += 2 {
		out = append(out, rule(pairs[k], pairs[k+1]))
	}
	return out
}

func schemaIsGood(l []impl.Rule) bool {
	var names []string
	for _, r := range l {
		if len(r.Name) != 1 || !strings.Contains(namesOfRules, r.Name) || !exprIsGood(r.Expr) {
			return false
		}
		names = append(names, r.Name)
	}
	sorted := slices.Compact(slices.Sorted(slices.Values(names)))
	return len(l) <= impl.MaxRules && slices.Equal(names, sorted)
}

var runOfBytes = regexp.MustCompile("[a-z0-9 .,]+")
var innermost = regexp.MustCompile("[A-F][a-ft]*/")

// rowByHand takes each element for its name, written small, from within to
// without, until none is left.
func rowByHand(s string, at int) (string, bool) {
	l, ok := spansOf(s)
	if !ok {
		return "", false
	}
	if at != -1 {
		k := slices.IndexFunc(l, func(e span) bool { return e.begin == at })
		if k < 0 {
			return "", false
		}
		s = s[l[k].begin+1 : l[k].end]
	}
	x := runOfBytes.ReplaceAllString(s, "t")
	for innermost.MatchString(x) {
		x = innermost.ReplaceAllStringFunc(x, func(e string) string { return strings.ToLower(e[:1]) })
	}
	return strings.ReplaceAll(strings.ToUpper(x), "T", "t"), true
}

func beginsByHand(s string) []int {
	l, _ := spansOf(s)
	var out []int
	for _, e := range l {
		out = append(out, e.begin)
	}
	slices.Sort(out)
	return out
}

func nameAt(s string, at int) string {
	if at == -1 {
		return "-"
	}
	return s[at : at+1]
}

func exprOf(l []impl.Rule, name string) (string, bool) {
	k := slices.IndexFunc(l, func(r impl.Rule) bool { return r.Name == name })
	if k < 0 {
		return "", false
	}
	return l[k].Expr, true
}

// matchers keeps what the library has compiled once.
type matchers map[string]*regexp.Regexp

func (m matchers) has(expr, row string) bool {
	if m[expr] == nil {
		m[expr] = matcherOf(expr)
	}
	return len(row) <= impl.MaxWord && m[expr].MatchString(row)
}

func checkByHand(m matchers, l []impl.Rule, s string) (int, int) {
	if _, ok := spansOf(s); !ok || !schemaIsGood(l) {
		return impl.SchemaBad, 0
	}
	for _, at := range append([]int{-1}, beginsByHand(s)...) {
		expr, ok := exprOf(l, nameAt(s, at))
		if !ok {
			return impl.SchemaName, at
		}
		if row, _ := rowByHand(s, at); !m.has(expr, row) {
			return impl.SchemaRow, at
		}
	}
	return impl.SchemaOk, 0
}

func allowsByHand(m matchers, l []impl.Rule, s string, at int, put string) (bool, bool) {
	if _, ok := spansOf(s); !ok || !schemaIsGood(l) || !textIsGood(put) || at < 0 || at > len(s) {
		return false, false
	}
	code, _ := checkByHand(m, l, s[:at]+put+s[at:])
	return code == impl.SchemaOk, true
}

func schemaTextByHand(l []impl.Rule) (string, bool) {
	if !schemaIsGood(l) {
		return "", false
	}
	var out []string
	for _, r := range l {
		out = append(out, r.Name, "=", r.Expr, ";")
	}
	return strings.Join(out, ""), true
}

var textOfRules = regexp.MustCompile("^([-A-F]=[^=;]*;)*$")

func readSchemaByHand(s string) ([]impl.Rule, bool) {
	if !textOfRules.MatchString(s) {
		return nil, false
	}
	var out []impl.Rule
	for _, text := range strings.SplitAfter(s, ";") {
		if text != "" {
			out = append(out, rule(text[:1], text[2:len(text)-1]))
		}
	}
	if !schemaIsGood(out) {
		return nil, false
	}
	return out, true
}

// leastTold is a least text, where there is one.
type leastTold struct {
	text string
	ok   bool
}

func compareTexts(a, b string) int {
	return cmp.Or(cmp.Compare(len(a), len(b)), strings.Compare(a, b))
}

func (a leastTold) or(b leastTold) leastTold {
	if !a.ok || b.ok && compareTexts(b.text, a.text) < 0 {
		return b
	}
	return a
}

func (a leastTold) then(b leastTold) leastTold {
	text := a.text + b.text
	if !a.ok || !b.ok || len(text) > longestLeast {
		return leastTold{}
	}
	return leastTold{text, true}
}

// leasts are the least texts by whether a run lies just ahead, and whether one
// lies at the end.
type leasts [2][2]leastTold

func (a leasts) or(b leasts) leasts {
	for i := range 4 {
		a[i/2][i%2] = a[i/2][i%2].or(b[i/2][i%2])
	}
	return a
}

func (a leasts) then(b leasts) leasts {
	var out leasts
	for i := range 8 {
		from, over, to := i/4, i/2%2, i%2
		out[from][to] = out[from][to].or(a[from][over].then(b[over][to]))
	}
	return out
}

func leastNothing() leasts {
	return leasts{{{ok: true}, {}}, {{}, {ok: true}}}
}

// least puts least texts together from within to without, which is another way
// than the program's: no text that is not needed is looked at.
func (x exprTree) least(parts map[string]string) leasts {
	var l []leasts
	for _, p := range x.parts {
		l = append(l, p.least(parts))
	}
	out := leastNothing()
	switch x.op {
	case '&':
		for _, p := range l {
			out = out.then(p)
		}
		return out
	case '?':
		return out.or(l[0])
	case '*', '+':
		for range 4 {
			out = out.or(out.then(l[0]))
		}
		if x.op == '+' {
			return l[0].then(out)
		}
		return out
	case '-':
		return out
	}
	out = leasts{}
	for _, p := range l {
		out = out.or(p)
	}
	for i := range exprSymbols {
		symbol := exprSymbols[i : i+1]
		if text := parts[symbol]; text != "" && len(text) <= longestLeast && (x.op == symbol[0] || x.op == '.') {
			isRun := strings.Count(symbol, "t")
			out[0][isRun] = out[0][isRun].or(leastTold{text, true})
			if isRun == 0 {
				out[1][0] = out[1][0].or(leastTold{text, true})
			}
		}
	}
	return out
}

func leastByHand(l []impl.Rule, name string) (string, bool) {
	expr, ok := exprOf(l, name)
	if !ok || !schemaIsGood(l) {
		return "", false
	}
	parts := map[string]string{"t": " "}
	for range deepestLeast {
		next := map[string]string{"t": " "}
		for _, r := range l {
			all := exprTreeOf(r.Expr).least(parts)
			if x := all[0][0].or(all[0][1]); x.ok {
				next[r.Name] = r.Name + x.text + "/"
			}
		}
		parts = next
	}
	all := exprTreeOf(expr).least(parts)
	x := all[0][0].or(all[0][1])
	return x.text, x.ok
}

func deepestOf(s string) int {
	l, _ := spansOf(s)
	most := 0
	for at := range len(s) {
		most = max(most, around(l, at))
	}
	return most
}

func checkSchema(t *testing.T, l []impl.Rule) bool {
	t.Helper()
	want := schemaIsGood(l)
	if ok := impl.GoodSchema(l); ok != want {
		t.Fatalf("GoodSchema(%.400q) = %v", l, ok)
	}
	return want
}

func checkRow(t *testing.T, s string, at int) bool {
	t.Helper()
	want, told := rowByHand(s, at)
	got, ok := impl.RowOf(s, at)
	if got != want || ok != told {
		t.Fatalf("RowOf(%q, %d) = %q, %v, not %q, %v", s, at, got, ok, want, told)
	}
	return ok
}

func checkDoc(t *testing.T, m matchers, l []impl.Rule, s string) int {
	t.Helper()
	code, at := checkByHand(m, l, s)
	if c, a := impl.CheckDoc(l, s); c != code || a != at {
		t.Fatalf("CheckDoc(%q, %q) = %d, %d, not %d, %d", l, s, c, a, code, at)
	}
	return code
}

// checkEachRow is the promise itself, by the functions that it speaks of.
func checkEachRow(t *testing.T, l []impl.Rule, s string) {
	t.Helper()
	isRight := true
	for at := -1; at < len(s); at++ {
		row, ok := impl.RowOf(s, at)
		if !ok {
			continue
		}
		expr, hasRule := exprOf(l, nameAt(s, at))
		isRow, _ := impl.MatchExpr(expr, row)
		isRight = isRight && hasRule && isRow
	}
	if code, _ := impl.CheckDoc(l, s); (code == impl.SchemaOk) != isRight {
		t.Fatalf("CheckDoc(%q, %q) = %d, but that all rows are of their rules is %v", l, s, code, isRight)
	}
}

func checkAllows(t *testing.T, m matchers, l []impl.Rule, s string, at int, put string) bool {
	t.Helper()
	want, told := allowsByHand(m, l, s, at, put)
	got, ok := impl.AllowsPut(l, s, at, put)
	if got != want || ok != told {
		t.Fatalf("AllowsPut(%q, %.400q, %d, %.400q) = %v, %v, not %v, %v", l, s, at, put, got, ok, want, told)
	}
	return got
}

func checkLeast(t *testing.T, l []impl.Rule, name string) bool {
	t.Helper()
	want, told := leastByHand(l, name)
	got, ok := impl.LeastDoc(l, name)
	if got != want || ok != told {
		t.Fatalf("LeastDoc(%q, %q) = %q, %v, not %q, %v", l, name, got, ok, want, told)
	}
	if !ok {
		return false
	}
	if len(got) > longestLeast || deepestOf(got) > deepestLeast {
		t.Fatalf("LeastDoc(%q, %q) = %q: that is beyond the limits", l, name, got)
	}
	checkRightWithin(t, l, name, got)
	return true
}

// checkRightWithin asks CheckDoc of the element alone in the whole.
func checkRightWithin(t *testing.T, l []impl.Rule, name, s string) {
	t.Helper()
	doc := s
	if name != "-" {
		doc = name + s + "/"
		l = append(rulesOf("-", name), slices.DeleteFunc(slices.Clone(l), func(r impl.Rule) bool { return r.Name == "-" })...)
	}
	if code, at := impl.CheckDoc(l, doc); code != impl.SchemaOk {
		t.Fatalf("CheckDoc(%q, %q) = %d, %d, though it is the least of %s", l, doc, code, at, name)
	}
}

func checkText(t *testing.T, l []impl.Rule) {
	t.Helper()
	want, told := schemaTextByHand(l)
	got, ok := impl.SchemaText(l)
	if got != want || ok != told {
		t.Fatalf("SchemaText(%.400q) = %q, %v, not %q, %v", l, got, ok, want, told)
	}
	if again, fine := impl.ReadSchema(got); ok && (!slices.Equal(again, l) || !fine) {
		t.Fatalf("ReadSchema(%q) = %q, %v, not %q", got, again, fine, l)
	}
}

func checkRead(t *testing.T, s string) bool {
	t.Helper()
	want, told := readSchemaByHand(s)
	got, ok := impl.ReadSchema(s)
	if !slices.Equal(got, want) || ok != told {
		t.Fatalf("ReadSchema(%.400q) = %q, %v, not %q, %v", s, got, ok, want, told)
	}
	if again, fine := impl.SchemaText(got); ok && (again != s || !fine) {
		t.Fatalf("SchemaText(%q) = %q, %v, not %q", got, again, fine, s)
	}
	return ok
}

// schema is one of rules of the names, each of at most size bytes; few names
// have none.
func (c *chooser) schema(names string, size int) []impl.Rule {
	var out []impl.Rule
	for i := range names {
		if c.next(12) == 0 {
			continue
		}
		if x := c.expr(1 + c.next(size)); exprIsGood(x) {
			out = append(out, rule(names[i:i+1], x))
		}
	}
	return out
}

// rowFrom is a row of an expression, or nearly one.
func (c *chooser) rowFrom(x exprTree) string {
	many := 1
	switch x.op {
	case '|':
		return c.rowFrom(x.parts[c.next(len(x.parts))])
	case '?':
		many = c.next(2)
	case '*':
		many = c.next(3)
	case '+':
		many = 1 + c.next(2)
	case '-', '!':
		return ""
	case '.':
		return exprSymbols[c.next(len(exprSymbols)):][:1]
	}
	if len(x.parts) == 0 {
		return string([]byte{x.op})
	}
	out := ""
	for range many {
		for _, p := range x.parts {
			out += c.rowFrom(p)
		}
	}
	return out
}

// docFrom is a document of a schema, most often a right one.
func (c *chooser) docFrom(l []impl.Rule, name string, deep int) string {
	expr, ok := exprOf(l, name)
	if !ok || isBeyondHand(expr) {
		return ""
	}
	out := ""
	row := c.rowFrom(exprTreeOf(expr))
	for i := range row[:min(len(row), 40)] {
		if row[i] == 't' {
			out += plainBytes[c.next(len(plainBytes)-2):][:1+c.next(2)]
			continue
		}
		if len(out) < impl.MaxDoc/2 && deep < impl.MaxDeep {
			out += row[i:i+1] + c.docFrom(l, row[i:i+1], deep+1) + "/"
		}
	}
	return out
}

// smallSchemas are all of two rules with small expressions.
func smallSchemas(f func(l []impl.Rule)) {
	var exprs []string
	for _, x := range allTexts("At.-!*|?", 3) {
		if exprIsGood(x) && len(x) != 2 {
			exprs = append(exprs, x)
		}
	}
	for _, x := range exprs {
		for k := 0; k < len(exprs); k += 17 {
			f(rulesOf("-", x, "A", exprs[k]))
		}
		f(rulesOf("-", x))
		f(rulesOf("A", x))
	}
}

// Chapter 7: which schemas are good.
func TestGoodSchemasOneByOne(t *testing.T) {
	for _, l := range [][]impl.Rule{nil, {}, rulesOf("-", "-"), rulesOf("F", "!"), rulesOf("-", "A", "A", "A"), rulesOf("A", "B", "C", "D", "F", "!|A"), rulesOf("-", "t", "B", "t"), rulesOf("-", rowOfA(impl.MaxExpr)), rulesOf("A", deepExpr(mostNested))} {
		if !checkSchema(t, l) {
			t.Errorf("%q is no schema", l)
		}
	}
	for number, l := range notSchemas() {
		if checkSchema(t, l) {
			t.Errorf("the rules %d are a schema", number)
		}
	}
	good := 0
	names := []string{"", "-", "A", "B", "F", "G", "AB", "a", "t", "--"}
	for _, a := range names {
		for _, b := range names {
			for _, c := range names {
				for _, x := range []string{"-", "A|", ""} {
					if checkSchema(t, rulesOf(a, "A", b, x, c, ".")) {
						good++
					}
				}
			}
		}
	}
	if good != 4 {
		t.Errorf("%d schemas of three rules are good, not 4", good)
	}
}

// Promise 7: a row has each part once, and bytes that lie side by side are one.
func TestRowsAsSaid(t *testing.T) {
	rows := 0
	eachDoc(func(s string, l []span) {
		for at := -2; at <= len(s)+1; at++ {
			if checkRow(t, s, at) {
				rows++
			}
		}
	})
	for _, s := range allTexts("A/a ", 6) {
		checkRow(t, s, -1)
		checkRow(t, s, 0)
		checkRow(t, s, 1)
	}
	if rows < 4000 {
		t.Errorf("only %d rows", rows)
	}
}

func TestRowsOneByOne(t *testing.T) {
	for _, x := range []struct {
		s   string
		at  int
		row string
	}{
		{"", -1, ""}, {"a", -1, "t"}, {"abc 1.,", -1, "t"}, {"aAb/c", -1, "tAt"}, {"aAb/c", 1, "t"}, {"A/", 0, ""}, {"A/B/", -1, "AB"}, {"aA/B/b", -1, "tABt"},
		{"AB/C//", 0, "BC"}, {"AB/C//", 1, ""}, {"AB/C//", 3, ""}, {"AxBy/zw/v", -1, "At"}, {"AxBy/zw/v", 0, "tBt"}, {"AxBy/zw/v", 2, "t"}, {"AA//A/", 0, "A"}, {"AA//A/", -1, "AA"}, {"AA//A/", 4, ""},
		{"ABa/b/c", -1, "At"}, {"ABa/b/c", 0, "Bt"}, {"A/aa/A", -1, "no"}, {"ABCDEF//////", 4, "F"}, {"aB/a/", -1, "no"}, {"A/a", 1, "no"}, {"A/a", 2, "no"}, {"A/a", 3, "no"}, {"A/a", -2, "no"}, {"", 0, "no"}, {"t", 0, "no"},
		{strings.Repeat("A/", impl.MaxDoc/2), -1, rowOfA(impl.MaxDoc / 2)}, {strings.Repeat("a", impl.MaxDoc), -1, "t"}, {strings.Repeat("A/a", impl.MaxDoc/3), -1, strings.Repeat("At", impl.MaxDoc/3)},
	} {
		want, told := x.row, true
		if x.row == "no" {
			want, told = "", false
		}
		if got, ok := impl.RowOf(x.s, x.at); got != want || ok != told {
			t.Errorf("RowOf(%q, %d) = %q, %v, not %q, %v", x.s, x.at, got, ok, want, told)
		}
		checkRow(t, x.s, x.at)
	}
}

// Promise 7: right is just what has a row of its rule everywhere; the first fault is told.
func TestCheckDocAsSaid(t *testing.T) {
	var docs []string
	for _, s := range allTexts("AB/a", 5) {
		if _, ok := spansOf(s); ok {
			docs = append(docs, s)
		}
	}
	m := matchers{}
	var codes [4]int
	turn := 0
	smallSchemas(func(l []impl.Rule) {
		turn++
		for k := turn % 19; k < len(docs); k += 19 {
			codes[checkDoc(t, m, l, docs[k])]++
			checkEachRow(t, l, docs[k])
		}
	})
	if min(codes[impl.SchemaOk], codes[impl.SchemaName], codes[impl.SchemaRow]) < 500 || codes[impl.SchemaBad] > 0 {
		t.Errorf("codes: %v", codes)
	}
}

func TestCheckDocOfLongDocuments(t *testing.T) {
	c := &chooser{71}
	var codes [4]int
	for k := range 400 {
		l := c.schema(namesOfRules, 1+k%30)
		m := matchers{}
		for range 5 {
			s := c.docFrom(l, "-", 0)
			codes[checkDoc(t, m, l, s)]++
			if len(s) > 0 && len(s) < impl.MaxDoc {
				at := c.next(len(s))
				codes[checkDoc(t, m, l, s[:at]+"A/"+s[at:])]++
				codes[checkDoc(t, m, l, s[:at]+s[at+1:])]++
			}
			if _, ok := spansOf(s); ok {
				checkEachRow(t, l, s)
			}
		}
	}
	for _, s := range append(edgeDocs(), someDocs()...) {
		for _, l := range [][]impl.Rule{nil, rulesOf("-", ".*"), rulesOf("-", ".*", "A", ".*", "B", ".*", "C", ".*", "D", ".*", "E", ".*", "F", ".*"), rulesOf("-", "(A|t)*", "A", "A?|t")} {
			codes[checkDoc(t, matchers{}, l, s)]++
		}
	}
	if slices.Min(codes[:]) < 100 {
		t.Errorf("codes: %v", codes)
	}
}

func TestCheckDocOneByOne(t *testing.T) {
	l := rulesOf("-", "A*", "A", "t|B|C", "B", "-")
	const ok, bad, name, row = impl.SchemaOk, impl.SchemaBad, impl.SchemaName, impl.SchemaRow
	for _, x := range []struct {
		l        []impl.Rule
		s        string
		code, at int
	}{
		{l, "", ok, 0}, {l, "Ax/AB//", ok, 0}, {l, "Ax/A/", row, 3}, {l, "x", row, -1}, {l, "A/", row, 0}, {l, "AB/B//", row, 0}, {l, "ABx//", row, 1}, {l, "Axyz/", ok, 0},
		{l, "AC//", name, 1}, {l, "Ax/AC//", name, 4}, {l, "D/", row, -1}, {l, "AC//x", row, -1}, {l, "A/AC//", row, 0}, {l, "AC//A/", name, 1}, {l, "AC/C//", row, 0},
		{l, "A", bad, 0}, {l, "/", bad, 0}, {l, "G", bad, 0}, {l, "A//", bad, 0},
		{nil, "", name, -1}, {nil, "A/", name, -1}, {nil, "A", bad, 0}, {rulesOf("A", "-"), "", name, -1}, {rulesOf("A", "-"), "A/", name, -1},
		{rulesOf("-", "-"), "", ok, 0}, {rulesOf("-", "!"), "", row, -1}, {rulesOf("-", "A"), "A/", name, 0}, {rulesOf("-", "A", "A", "A*"), "AAAA////", ok, 0}, {rulesOf("-", "A", "A", "A"), "AAAA////", row, 3},
		{rulesOf("-", "t"), "abc", ok, 0}, {rulesOf("-", "tt"), "abc", row, -1}, {rulesOf("-", "tAt", "A", "-"), "abA/cd", ok, 0}, {rulesOf("-", ".*", "A", "-", "B", "t"), "A/AB/", bad, 0}, {rulesOf("-", ".*", "A", "-", "B", "t"), "A/B/", row, 2},
		{rulesOf("-", "A|"), "", bad, 0}, {rulesOf("A", "-", "-", "-"), "", bad, 0}, {rulesOf("-", ".", "A", "."), "A" + strings.Repeat("a", impl.MaxDoc), bad, 0},
	} {
		if code, at := impl.CheckDoc(x.l, x.s); code != x.code || at != x.at {
			t.Errorf("CheckDoc(%q, %q) = %d, %d, not %d, %d", x.l, x.s, code, at, x.code, x.at)
		}
		checkDoc(t, matchers{}, x.l, x.s)
	}
}

// A document with its rows: the first is that of the whole.
type docRows struct {
	text string
	rows [][2]string
}

// docsInOrder are all documents of at most n bytes, a shorter one first, of
// several the least.
func docsInOrder(alphabet string, n int) []docRows {
	var out []docRows
	for _, s := range allTexts(alphabet, n) {
		if _, ok := spansOf(s); !ok {
			continue
		}
		x := docRows{text: s}
		for _, at := range append([]int{-1}, beginsByHand(s)...) {
			row, _ := rowByHand(s, at)
			x.rows = append(x.rows, [2]string{nameAt(s, at), row})
		}
		out = append(out, x)
	}
	slices.SortFunc(out, func(a, b docRows) int { return compareTexts(a.text, b.text) })
	return out
}

// firstRight is the first of the documents that is right within its element.
func firstRight(l []impl.Rule, name string, docs []docRows) (string, bool) {
	m := matchers{}
	known := map[[2]string]bool{}
	isRow := func(x [2]string) bool {
		is, ok := known[x]
		if !ok {
			expr, has := exprOf(l, x[0])
			is = has && m.has(expr, x[1])
			known[x] = is
		}
		return is
	}
	for _, d := range docs {
		rows := append([][2]string{{name, d.rows[0][1]}}, d.rows[1:]...)
		if !slices.ContainsFunc(rows, func(x [2]string) bool { return !isRow(x) }) {
			return d.text, true
		}
	}
	return "", false
}

// checkAmong holds what is told against all documents of at most n bytes.
func checkAmong(t *testing.T, l []impl.Rule, name string, docs []docRows, n int) bool {
	t.Helper()
	want, told := firstRight(l, name, docs)
	got, ok := impl.LeastDoc(l, name)
	if told && (got != want || !ok) {
		t.Fatalf("LeastDoc(%q, %q) = %q, %v, but %q is right", l, name, got, ok, want)
	}
	if !told && ok && len(got) <= n {
		t.Fatalf("LeastDoc(%q, %q) = %q, but none of at most %d bytes is right", l, name, got, n)
	}
	return told
}

// Chapter 7: of all documents none that is shorter is right, and none of that length that is less.
func TestLeastAmongAllDocuments(t *testing.T) {
	const most = 7
	docs := docsInOrder(" AB/", most)
	c := &chooser{72}
	found, none := 0, 0
	for k := range 700 {
		l := c.schema("-AB", 2+k%9)
		for _, name := range []string{"-", "A", "B"} {
			if checkAmong(t, l, name, docs, most) {
				found++
			} else {
				none++
			}
		}
	}
	if found < 500 || none < 200 {
		t.Errorf("%d were found, %d not", found, none)
	}
}

// A blank is the least of all plain bytes.
func TestLeastAmongAllBytes(t *testing.T) {
	docs := docsInOrder("A/ .,az09", 4)
	smallSchemas(func(l []impl.Rule) {
		checkAmong(t, l, "-", docs, 4)
	})
}

func TestLeastDocAsSaid(t *testing.T) {
	c := &chooser{73}
	found, none := 0, 0
	for k := range 700 {
		l := c.schema(namesOfRules, 2+k%40)
		for i := range namesOfRules {
			if checkLeast(t, l, namesOfRules[i:i+1]) {
				found++
			} else {
				none++
			}
		}
	}
	smallSchemas(func(l []impl.Rule) {
		checkLeast(t, l, "-")
		checkLeast(t, l, "A")
	})
	if found < 1000 || none < 500 {
		t.Errorf("%d were found, %d not", found, none)
	}
}

// neededRow is an expression of parts that are needed, so that least documents
// are long.
func (c *chooser) neededRow(symbols string) string {
	one := func() string { return symbols[c.next(len(symbols)):][:1] }
	out := ""
	for range 1 + c.next(5) {
		out += one()
		if c.next(5) == 0 {
			out = "(" + out + "|" + one() + one() + ")"
		}
	}
	return out
}

// longSchema has rules that ask for elements of other rules, most of them of
// those ahead.
func (c *chooser) longSchema() []impl.Rule {
	l := rulesOf("A", "-", "B", "t|-A")
	for _, name := range []string{"C", "D", "E", "F", "-"} {
		symbols := "t" + namesOfElements[:len(l)]
		switch c.next(8) {
		case 0:
			symbols = "t" + namesOfElements
		case 1, 2, 3:
			symbols = l[len(l)-1].Name
		}
		x := c.neededRow(symbols)
		if c.next(3) > 0 && symbols == l[len(l)-1].Name {
			x = symbols
		}
		l = append(l, rule(name, x))
	}
	slices.SortFunc(l, func(a, b impl.Rule) int { return strings.Compare(a.Name, b.Name) })
	return l
}

func TestLongLeastDocs(t *testing.T) {
	c := &chooser{74}
	long, deep, none := 0, 0, 0
	for range 700 {
		l := c.longSchema()
		for i := range namesOfRules {
			name := namesOfRules[i : i+1]
			if !checkLeast(t, l, name) {
				none++
				continue
			}
			s, _ := impl.LeastDoc(l, name)
			if len(s) > longestLeast/2 {
				long++
			}
			if deepestOf(s) == deepestLeast {
				deep++
			}
		}
	}
	if long < 300 || deep < 100 || none < 500 {
		t.Errorf("%d long ones, %d deep ones, %d none", long, deep, none)
	}
}

func TestLeastDocOneByOne(t *testing.T) {
	l := rulesOf("-", "A*", "A", "t|B", "B", "-", "C", "C", "D", "C|t", "E", "F", "F", "EE|!")
	as := func(n int) string { return strings.Repeat("A/", n) }
	deep := rulesOf("-", "A", "A", "B", "B", "C", "C", "D", "D", "t?", "E", "-A", "F", "E|BBBBB")
	const none = "none"
	for _, x := range []struct {
		l          []impl.Rule
		name, want string
	}{
		{l, "-", ""}, {l, "A", " "}, {l, "B", ""}, {l, "C", none}, {l, "D", " "}, {l, "E", none}, {l, "F", none},
		// One that may stand in itself alone has none; one that need not has.
		{rulesOf("A", "A"), "A", none}, {rulesOf("A", "A|t"), "A", " "}, {rulesOf("A", "A?"), "A", ""}, {rulesOf("A", "A+"), "A", none}, {rulesOf("-", "A", "A", "A"), "-", none}, {rulesOf("-", "A", "A", "AA|t"), "-", "A /"},
		// What has no rule can't stand anywhere.
		{rulesOf("-", "A"), "-", none}, {rulesOf("-", "A|BBB", "B", "-"), "-", "B/B/B/"}, {rulesOf("-", "."), "-", " "}, {rulesOf("-", "..", "B", "-"), "-", " B/"}, {rulesOf("-", "..", "B", "t"), "-", " B /"}, {rulesOf("-", "..."), "-", none}, {rulesOf("-", "...", "C", "-"), "-", " C/ "},
		// Two runs can't lie side by side.
		{rulesOf("-", "t"), "-", " "}, {rulesOf("-", "tt"), "-", none}, {rulesOf("-", "t-t"), "-", none}, {rulesOf("-", "t+"), "-", " "}, {rulesOf("-", "(tt)+"), "-", none}, {rulesOf("-", "(tt)*"), "-", ""}, {rulesOf("-", "tA*t", "A", "-"), "-", " A/ "}, {rulesOf("-", "tA?t?A?t", "A", "-"), "-", " A/ "}, {rulesOf("-", "tA", "A", "t"), "-", " A /"}, {rulesOf("-", "tAt", "A", "tBt", "B", "-"), "-", " A B/ / "},
		{rulesOf("-", "t(t|A)(t|A)", "A", "-"), "-", " A/ "}, {rulesOf("-", "t(t?A)*t", "A", "-"), "-", " A/ "}, {rulesOf("-", "(t|A)(t|A)(t|A)(t|A)", "A", "-"), "-", " A/ A/"}, {rulesOf("-", "t*A|t*tB", "A", "ttt", "B", "-"), "-", " B/"},
		// Of several that are as short the least.
		{rulesOf("-", "B|A", "A", "-", "B", "-"), "-", "A/"}, {rulesOf("-", "BB|A", "A", "C", "B", "-", "C", "-"), "-", "AC//"}, {rulesOf("-", "AB|A", "A", "-|B", "B", "-"), "-", "A/"}, {rulesOf("-", "AtB|tBA", "A", "-", "B", "-"), "-", " B/A/"}, {rulesOf("-", "AB|C", "A", "-", "B", "-", "C", "D", "D", "-"), "-", "A/B/"}, {rulesOf("-", "F|AB", "A", "-", "B", "-", "F", "A"), "-", "A/B/"}, {rulesOf("-", "AA|B", "A", "-", "B", "tt|A"), "-", "A/A/"}, {rulesOf("-", "(A|t)(B|t)", "A", "-", "B", "-"), "-", " B/"}, {rulesOf("-", "(A|B)(A|B)", "A", "-", "B", "-"), "-", "A/A/"}, {rulesOf("-", "(BC|CB)+", "B", "-", "C", "-"), "-", "B/C/"},
		// A shorter one stands ahead of a less one.
		{rulesOf("-", "AAA|F", "A", "-", "F", "t"), "-", "F /"}, {rulesOf("-", "tA|F", "A", "-", "F", "-"), "-", "F/"}, {rulesOf("-", "ttA|FF", "A", "-", "F", "-"), "-", "F/F/"},
		{rulesOf("-", "A(A|B)*B", "A", "-", "B", "-"), "-", "A/B/"}, {rulesOf("-", "!"), "-", none}, {rulesOf("-", "-"), "-", ""}, {rulesOf("-", "A!|t"), "-", " "}, {rulesOf("-", "A(A*A)*A", "A", "A?A?"), "-", "A/A/"},
		// At most 40 bytes.
		{rulesOf("-", rowOfA(20), "A", "-"), "-", as(20)}, {rulesOf("-", rowOfA(21), "A", "-"), "-", none}, {rulesOf("-", rowOfA(20)+"t", "A", "-"), "-", none}, {rulesOf("-", rowOfA(19)+"t", "A", "-"), "-", as(19) + " "}, {rulesOf("-", "t"+rowOfA(19), "A", "-"), "-", " " + as(19)}, {rulesOf("-", "B", "A", "-", "B", rowOfA(19)), "-", "B" + as(19) + "/"}, {rulesOf("-", "B", "A", "-", "B", rowOfA(19)+"t"), "-", none}, {rulesOf("-", "B", "A", "-", "B", rowOfA(19)+"t"), "B", as(19) + " "}, {rulesOf("-", "B|"+rowOfA(20), "A", "-", "B", rowOfA(20)), "-", as(20)},
		// At most 4 within one another, of the document that is told.
		{deep, "-", "ABCD////"}, {deep, "A", "BCD///"}, {deep, "D", ""}, {deep, "E", "ABCD////"}, {rulesOf("-", "A", "A", "B", "B", "C", "C", "D", "D", "t"), "-", "ABCD ////"}, {rulesOf("-", "A", "A", "B", "B", "C", "C", "D", "D", "E", "E", "-"), "-", none}, {rulesOf("-", "A", "A", "B", "B", "C", "C", "D", "D", "E", "E", "-"), "A", "BCDE////"}, {rulesOf("-", "A", "A", "B", "B", "C", "C", "D", "D", "E", "E", "F", "F", "-"), "A", none}, {deep, "F", "BCD///BCD///BCD///BCD///BCD///"},
		{rulesOf("A", "A?B", "B", "-"), "A", "B/"}, {rulesOf("-", "A|EEEEEE", "A", "B", "B", "C", "C", "D", "D", "E", "E", "-"), "-", "E/E/E/E/E/E/"}, {rulesOf("-", "A|EEEE", "A", "B", "B", "C", "C", "D", "D", "t", "E", "-"), "-", "E/E/E/E/"}, {rulesOf("-", "E|AAAA", "A", "-", "B", "-", "C", "B", "D", "C", "E", "D"), "-", "A/A/A/A/"}, {rulesOf("-", "E|AAAAA", "A", "-", "B", "-", "C", "B", "D", "C", "E", "D"), "-", "EDCB////"},
	} {
		want, told := x.want, true
		if x.want == none {
			want, told = "", false
		}
		if got, ok := impl.LeastDoc(x.l, x.name); got != want || ok != told {
			t.Errorf("LeastDoc(%q, %q) = %q, %v, not %q, %v", x.l, x.name, got, ok, want, told)
		}
		checkLeast(t, x.l, x.name)
	}
}

// Chapter 7: what may be put is what makes a right document.
func TestAllowsPutAsSaid(t *testing.T) {
	m := matchers{}
	puts := []string{"", "a", "A/", "B/", "A", "/", "/A", "B//A", "aA/"}
	allowed := 0
	turn := 0
	smallSchemas(func(l []impl.Rule) {
		turn++
		for k, s := range []string{"", "A/", "a", "AB//", "Aa/"} {
			put := puts[(turn+k)%len(puts)]
			for at := -1; at <= len(s)+1; at++ {
				if checkAllows(t, m, l, s, at, put) {
					allowed++
				}
			}
		}
	})
	c := &chooser{75}
	for k := range 300 {
		l := c.schema(namesOfRules, 1+k%20)
		s := c.docFrom(l, "-", 0)
		for range 10 {
			at, size := c.next(len(s)+1), c.next(5)
			if checkAllows(t, matchers{}, l, s[:at]+s[min(at+size, len(s)):], at, s[at:min(at+size, len(s))]) {
				allowed++
			}
			checkAllows(t, matchers{}, l, s, at, puts[c.next(len(puts))])
		}
	}
	if allowed < 500 {
		t.Errorf("only %d were allowed", allowed)
	}
}

func TestAllowsPutOneByOne(t *testing.T) {
	l := rulesOf("-", "A*", "A", "t|B*", "B", "-")
	all := rulesOf("-", ".*", "A", ".*")
	deep := strings.Repeat("A", impl.MaxDeep) + strings.Repeat("/", impl.MaxDeep)
	full := strings.Repeat("a", impl.MaxDoc)
	for _, x := range []struct {
		l           []impl.Rule
		s           string
		at          int
		put         string
		allowed, ok bool
	}{
		{l, "A/", 1, "B/", true, true}, {l, "A/", 0, "B/", false, true}, {l, "A/", 1, "xyz", true, true}, {l, "A/", 2, "xyz", false, true}, {l, "A/", 2, "A/", true, true}, {l, "", 0, "A/", true, true}, {l, "", 0, "", true, true},
		{l, "Axy/", 2, "z", true, true}, {l, "Axy/", 2, "B/", false, true}, {l, "Axy/", 2, "/A", true, true}, {l, "Axy/", 2, "A", false, true}, {l, "Axy/", 2, "/", false, true}, {l, "AB//", 2, "/B", true, true}, {l, "AB//", 2, "C/", false, true}, {l, "AB//", 1, "/A", true, true},
		// What is put may make a wrong document right, and need not.
		{l, "AB/x/", 3, "/A", true, true}, {l, "AB/x/", 3, "", false, true}, {l, "x", 0, "", false, true}, {rulesOf("-", "AtA", "A", "-"), "A/A/", 2, "t", true, true},
		{l, "A/", -1, "", false, false}, {l, "A/", 3, "", false, false}, {l, "A/", 1, "G", false, false}, {l, "A/", 1, "-", false, false}, {l, "A", 1, "/", false, false}, {l, "/", 0, "A", false, false}, {rulesOf("-", "|"), "A/", 1, "", false, false},
		{nil, "", 0, "", false, true}, {nil, "", 0, "A", false, true}, {nil, "A", 0, "", false, false},
		// Beyond the limits of a document there is none; a text beyond them is not good.
		{all, full, 0, "", true, true}, {all, full, 0, "a", false, true}, {all, full[1:], 7, "a", true, true}, {all, "", 0, full, true, true}, {all, "", 0, full + "a", false, false}, {all, full, impl.MaxDoc, full, false, true}, {all, deep, 11, "A/", true, true}, {all, deep, 12, "A/", false, true}, {all, "", 0, deep, true, true}, {all, "A/", 1, deep, false, true},
		{all, strings.Repeat("A/", impl.MaxWord-1), 0, "A/", true, true}, {all, strings.Repeat("A/", impl.MaxWord), 0, "A/", false, true}, {all, strings.Repeat("A/", impl.MaxWord), 1, "A/", true, true},
	} {
		if got, ok := impl.AllowsPut(x.l, x.s, x.at, x.put); got != x.allowed || ok != x.ok {
			t.Errorf("AllowsPut(%q, %.20q, %d, %.20q) = %v, %v, not %v, %v", x.l, x.s, x.at, x.put, got, ok, x.allowed, x.ok)
		}
		checkAllows(t, matchers{}, x.l, x.s, x.at, x.put)
	}
}

// Promise 7: schemas come back from their texts.
func TestSchemasComeBack(t *testing.T) {
	smallSchemas(func(l []impl.Rule) {
		checkText(t, l)
	})
	c := &chooser{76}
	for k := range 2000 {
		l := c.schema(namesOfRules, 1+k%impl.MaxExpr)
		checkText(t, l)
		if s, ok := impl.SchemaText(l); !ok || !checkRead(t, s) {
			t.Fatalf("SchemaText(%q) = %q, %v", l, s, ok)
		}
	}
}

func TestSchemaTextsOneByOne(t *testing.T) {
	for _, x := range []struct {
		text string
		l    []impl.Rule
	}{
		{"", nil}, {"-=-;", rulesOf("-", "-")}, {"-=A*;A=t|B;B=-;", rulesOf("-", "A*", "A", "t|B", "B", "-")}, {"F=!;", rulesOf("F", "!")}, {"A=(A|-)?;C=.;", rulesOf("A", "(A|-)?", "C", ".")}, {"B=((t));", rulesOf("B", "((t))")},
		{"-=" + rowOfA(impl.MaxExpr) + ";", rulesOf("-", rowOfA(impl.MaxExpr))},
	} {
		if got, ok := impl.SchemaText(x.l); got != x.text || !ok {
			t.Errorf("SchemaText(%q) = %q, %v, not %q", x.l, got, ok, x.text)
		}
		if got, ok := impl.ReadSchema(x.text); !slices.Equal(got, x.l) || !ok {
			t.Errorf("ReadSchema(%q) = %q, %v, not %q", x.text, got, ok, x.l)
		}
	}
}

// Promise 7: no other text is a schema's.
func TestNoOtherTextIsASchemas(t *testing.T) {
	taken := 0
	for _, s := range append(allTexts("-=;A|", 8), allTexts("-=;At GB", 5)...) {
		if checkRead(t, s) {
			taken++
		}
	}
	if taken < 20 {
		t.Errorf("only %d texts were taken", taken)
	}
	const good = "-=A*;A=t|B;B=-;"
	for at := 0; at <= len(good); at++ {
		for c := range 256 {
			b := string([]byte{byte(c)})
			checkRead(t, good[:at]+b+good[at:])
			if at < len(good) {
				checkRead(t, good[:at]+b+good[at+1:])
			}
		}
		checkRead(t, good[:at])
		checkRead(t, good[at:])
	}
	for number, s := range notSchemaTexts() {
		if l, ok := impl.ReadSchema(s); l != nil || ok {
			t.Errorf("ReadSchema of the text %d: %q, %v", number, l, ok)
		}
		checkRead(t, s)
	}
}

func notSchemaTexts() []string {
	return []string{
		";", "=", "-", "A=", "A=;", "A=t", "A;", "=t;", "t;", "A=t;;", ";A=t;", "A=t;B", "A=t;B=", "A=t;B=t", "A=t;A=t;", "B=t;A=t;", "A=t;-=t;", "A=t; B=t;", " A=t;", "A=t; ", "A= t;", "A =t;", "A=t;\n", "AB=t;", "a=t;", "t=t;", "G=t;", "--=t;", "A==t;", "A=t=t;", "A=t|;", "A=();", "A:t;", "A=t,B=t;",
		"A=" + rowOfA(impl.MaxExpr+1) + ";", "A=" + deepExpr(mostNested+1) + ";", "-=t;A=t;B=t;C=t;D=t;E=t;F=t;F=t;", "-=t;A=t;B=t;C=t;D=t;E=t;F=t;G=t;", strings.Repeat("A=t;", 250000), strings.Repeat("=", 1000000), strings.Repeat(";", 1000000), "A=" + rowOfA(1000000) + ";", "\x00", "\xff=t;", "\u00c4=t;", "A=\u00c4;",
	}
}

// Chapter 7: the limits that are named.
func TestLimitsOfSchemas(t *testing.T) {
	var all []impl.Rule
	for i := range namesOfRules {
		all = append(all, rule(namesOfRules[i:i+1], strings.Repeat("t", impl.MaxExpr-1)+"*"))
	}
	if len(all) != impl.MaxRules || impl.MaxRules != 7 || !checkSchema(t, all) {
		t.Errorf("%d rules are no schema", len(all))
	}
	checkText(t, all)
	if s, _ := impl.SchemaText(all); len(s) != impl.MaxRules*(impl.MaxExpr+3) || !checkRead(t, s) || checkRead(t, s+"G=t;") || checkRead(t, s+"F=t;") {
		t.Errorf("%d rules do not come back from %q", len(all), s)
	}
	for _, more := range []string{"F", "G", "-", "A", ""} {
		l := append(slices.Clone(all), rule(more, "t"))
		if checkSchema(t, l) {
			t.Errorf("%d rules with %q are a schema", len(l), more)
		}
	}
	// Rows of as many symbols as a word may have.
	for _, x := range []struct{ before, part, behind, name string }{{"", "A/", "", "-"}, {"C", "A/", "/", "C"}, {"", "AtB//", "", "-"}} {
		l := rulesOf("-", ".*", "A", ".*", "B", ".*", "C", "A*")
		place := -1 + len(x.before)
		s := x.before + strings.Repeat(x.part, impl.MaxWord) + x.behind
		if len(s) > impl.MaxDoc {
			t.Fatalf("%d bytes", len(s))
		}
		if code, at := impl.CheckDoc(l, s); code != impl.SchemaOk || at != 0 {
			t.Errorf("CheckDoc of %d parts in %s: %d, %d", impl.MaxWord, x.name, code, at)
		}
		s = x.before + strings.Repeat("A/", impl.MaxWord+1) + x.behind
		if code, at := impl.CheckDoc(l, s); code != impl.SchemaRow || at != place {
			t.Errorf("CheckDoc of %d parts in %s: %d, %d", impl.MaxWord+1, x.name, code, at)
		}
		if row, ok := impl.RowOf(s, place); row != rowOfA(impl.MaxWord+1) || !ok {
			t.Errorf("RowOf of %d parts in %s: %q, %v", impl.MaxWord+1, x.name, row, ok)
		}
	}
}

// Without a rule nothing is right, and yet it is a schema.
func TestEmptySchema(t *testing.T) {
	for _, l := range [][]impl.Rule{nil, {}, make([]impl.Rule, 0, 3)} {
		if text, ok := impl.SchemaText(l); !impl.GoodSchema(l) || text != "" || !ok {
			t.Errorf("the empty schema has the text %q, %v", text, ok)
		}
		eachDoc(func(s string, _ []span) {
			if code, at := impl.CheckDoc(l, s); code != impl.SchemaName || at != -1 {
				t.Fatalf("CheckDoc(nil, %q) = %d, %d", s, code, at)
			}
		})
		for i := range namesOfRules {
			if s, ok := impl.LeastDoc(l, namesOfRules[i:i+1]); s != "" || ok {
				t.Errorf("LeastDoc(nil, %q) = %q, %v", namesOfRules[i:i+1], s, ok)
			}
		}
		if allowed, ok := impl.AllowsPut(l, "", 0, ""); allowed || !ok {
			t.Errorf("AllowsPut(nil) = %v, %v", allowed, ok)
		}
	}
	if l, ok := impl.ReadSchema(""); len(l) > 0 || !ok {
		t.Errorf("ReadSchema of the empty text: %v, %v", l, ok)
	}
}

// Expressions of which more derives than can be gone through must not hold up
// the search, nor those whose plain ones are too long to be written down.
func TestSchemasWithoutMeasure(t *testing.T) {
	many := strings.Repeat("+", 30)
	exprs := []string{"(A|B|C|D|E|F|t)*A.................", ".*A.................A", "(.*A)......................", "(A*B*C*D*E*F*t*)*A.*B.*C.*D.*E.*F.*t.*", "A" + many, "A*" + many + "B", "(A?B?C?D?E?F?)" + many, "(A|t)" + many + "(B|t)" + strings.Repeat("+", 15), "(((((A|B)*C|D)*E|F)*A|B)*C|D)*EF", "((((A+B+)+C+)+D+)+E+)+F", strings.Repeat("(A|B)", 12), strings.Repeat("A?", 30), strings.Repeat("A*", 30), ".*.*.*.*.*.*.*.*.*.*.*.*.*.*.*.*.*.*.*.*.*.*.*.*.*.*.*.*.*.*", strings.Repeat("(", mostNested) + "A" + strings.Repeat("+)", mostNested), strings.Repeat("(", 14) + "A" + strings.Repeat("*B)", 14)}
	for _, x := range exprs {
		if !exprIsGood(x) {
			t.Fatalf("%q is not good", x)
		}
		var l []impl.Rule
		for i := range namesOfRules {
			l = append(l, rule(namesOfRules[i:i+1], x))
		}
		leaf := rulesOf("-", x, "A", "-", "B", "t", "C", "-", "D", "t|-", "E", "-", "F", "-")
		for i := range namesOfRules {
			checkLeast(t, l, namesOfRules[i:i+1])
			checkLeast(t, leaf, namesOfRules[i:i+1])
		}
		m := matchers{}
		for _, s := range edgeDocs() {
			checkDoc(t, m, l, s)
		}
	}
}

// notSchemas are rules that are no schema.
func notSchemas() [][]impl.Rule {
	out := [][]impl.Rule{
		{{}}, rulesOf("", "A"), rulesOf("-", ""), rulesOf("A", ""), rulesOf("-", "t", "-", "t"), rulesOf("A", "t", "-", "t"), rulesOf("B", "t", "A", "t"), rulesOf("A", "t", "A", "B"), rulesOf("-", "t", "B", "t", "A", "t"), rulesOf("-", "t", "A", "t", "A", "t"), rulesOf("-", "t", "A", "t", "-", "t"), rulesOf("-A", "t"), rulesOf("AB", "t"), rulesOf("--", "t"), rulesOf("A ", "t"), rulesOf("\u00c4", "t"), rulesOf("-", "t", "AB", "t"), rulesOf("-", "t", "A", "t", "G", "t"), rulesOf("-", "t", "A", "t|"),
		make([]impl.Rule, impl.MaxRules), make([]impl.Rule, impl.MaxRules+1), make([]impl.Rule, 100000), slices.Repeat(rulesOf("A", "t"), 100000), rulesOf(strings.Repeat("A", 1000000), "t"),
		rulesOf("-", "t", "A", "t", "B", "t", "C", "t", "D", "t", "E", "t", "F", "t", "G", "t"), rulesOf("-", "t", "A", "t", "B", "t", "C", "t", "D", "t", "E", "t", "F", "t", "F", "t"), rulesOf("-", "t", "A", "t", "B", "t", "C", "t", "D", "t", "E", "t", "F", ""),
	}
	for c := range 256 {
		if b := string([]byte{byte(c)}); !strings.Contains(namesOfRules, b) {
			out = append(out, rulesOf(b, "t"), rulesOf("-", "t", b, "t"), rulesOf(b, "t", "A", "t"))
		}
	}
	for _, x := range notExprs() {
		out = append(out, rulesOf("-", x), rulesOf("-", "-", "A", x))
	}
	return out
}

// Promise 20: rules that are no schema have the zero answer of each function.
func TestWrongSchemasHaveTheZeroAnswer(t *testing.T) {
	for number, l := range notSchemas() {
		if impl.GoodSchema(l) {
			t.Errorf("GoodSchema of the rules %d", number)
		}
		if s, ok := impl.SchemaText(l); s != "" || ok {
			t.Errorf("SchemaText of the rules %d: %q, %v", number, s, ok)
		}
		for _, name := range []string{"-", "A", "B", "", "G"} {
			if s, ok := impl.LeastDoc(l, name); s != "" || ok {
				t.Errorf("LeastDoc of the rules %d, %q: %q, %v", number, name, s, ok)
			}
		}
		for _, s := range []string{"", "A/", "a", "A", "G"} {
			if code, at := impl.CheckDoc(l, s); code != impl.SchemaBad || at != 0 {
				t.Errorf("CheckDoc of the rules %d, %q: %d, %d", number, s, code, at)
			}
			for at := -1; at < 2; at++ {
				if allowed, ok := impl.AllowsPut(l, s, at, "A/"); allowed || ok {
					t.Errorf("AllowsPut of the rules %d, %q: %v, %v", number, s, allowed, ok)
				}
			}
		}
	}
}

// Promise 20: texts that are no documents, and places that are none, have the zero answer.
func TestWrongDocumentsOfSchemasHaveTheZeroAnswer(t *testing.T) {
	all := rulesOf("-", ".*", "A", ".*", "B", ".*")
	for number, s := range append(notDocs(), notTexts()...) {
		for _, at := range []int{-1, 0, 1, len(s) - 1} {
			if row, ok := impl.RowOf(s, at); row != "" || ok {
				t.Errorf("RowOf the text %d, %d: %q, %v", number, at, row, ok)
			}
			if allowed, ok := impl.AllowsPut(all, s, at, "/"); allowed || ok {
				t.Errorf("AllowsPut in the text %d, %d: %v, %v", number, at, allowed, ok)
			}
		}
		if code, at := impl.CheckDoc(all, s); code != impl.SchemaBad || at != 0 {
			t.Errorf("CheckDoc of the text %d: %d, %d", number, code, at)
		}
	}
	for number, put := range notTexts() {
		for at := range 3 {
			if allowed, ok := impl.AllowsPut(all, "A/", at, put); allowed || ok {
				t.Errorf("AllowsPut of the text %d: %v, %v", number, allowed, ok)
			}
		}
	}
	eachDoc(func(s string, l []span) {
		for _, at := range append(oddPlaces(s), -2, math.MinInt) {
			if row, ok := impl.RowOf(s, at); at != -1 && (row != "" || ok) {
				t.Errorf("RowOf(%q, %d) = %q, %v", s, at, row, ok)
			}
			if allowed, ok := impl.AllowsPut(all, s, at, ""); allowed || ok {
				t.Errorf("AllowsPut(%q, %d) = %v, %v", s, at, allowed, ok)
			}
		}
	})
}

// Promise 20: names that the schema has not have the zero answer.
func TestWrongNamesOfSchemasHaveTheZeroAnswer(t *testing.T) {
	l := rulesOf("-", "-", "A", "-", "B", "t", "D", "A")
	names := []string{"", "C", "E", "F", "G", "a", "t", ".", "!", " ", "/", "--", "-A", "AA", "AB", "A ", " A", "\x00", "\xff", "\u00c4", strings.Repeat("A", 1000000)}
	for c := range 256 {
		if b := string([]byte{byte(c)}); !strings.Contains("-ABD", b) {
			names = append(names, b, "A"+b, b+"A", "-"+b)
		}
	}
	for _, name := range names {
		if s, ok := impl.LeastDoc(l, name); s != "" || ok {
			t.Errorf("LeastDoc of %.20q: %q, %v", name, s, ok)
		}
	}
}

// Promise 20: the answers share no memory with what was handed in.
func TestSchemasAreNewMemory(t *testing.T) {
	long := "A" + strings.Repeat("t|B*", 14)
	for _, l := range [][]impl.Rule{rulesOf("-", "A"), rulesOf("-", "A*", "A", long, "B", "-"), rulesOf("A", long)} {
		text, ok := impl.SchemaText(l)
		if !ok {
			t.Fatalf("%q has no text", l)
		}
		for _, r := range l {
			if shareText(text, r.Name) || shareText(text, r.Expr) {
				t.Errorf("the text of %q lies in its memory", l)
			}
		}
		given := strings.Clone(text)
		read, ok := impl.ReadSchema(given)
		if !ok || !slices.Equal(read, l) {
			t.Fatalf("ReadSchema(%q) = %q, %v", given, read, ok)
		}
		for _, r := range read {
			if shareText(r.Name, given) || shareText(r.Expr, given) {
				t.Errorf("the rule %q lies in the memory of the text %q", r, given)
			}
		}
	}
	for _, s := range []string{"t", "aAb/c", "tAtBtC///A/t", "ABCDEF//////", strings.Repeat("A/t", 100)} {
		given := strings.Clone(s)
		for at := -1; at < len(s); at++ {
			if row, ok := impl.RowOf(given, at); ok && shareText(row, given) {
				t.Errorf("RowOf(%q, %d) lies in its memory", s, at)
			}
		}
	}
	one := rulesOf(strings.Clone("-"), strings.Clone("t"))
	two := rulesOf(strings.Clone("-"), strings.Clone("A"), strings.Clone("A"), strings.Clone("-"))
	for _, l := range [][]impl.Rule{one, two} {
		s, ok := impl.LeastDoc(l, "-")
		if !ok {
			t.Errorf("LeastDoc(%q) = %q, %v", l, s, ok)
		}
		for _, r := range l {
			if shareText(s, r.Name) || shareText(s, r.Expr) {
				t.Errorf("LeastDoc(%q) lies in its memory", l)
			}
		}
	}
}

func shareRules(a, b []impl.Rule) bool {
	size := unsafe.Sizeof(impl.Rule{})
	x, y := uintptr(unsafe.Pointer(unsafe.SliceData(a))), uintptr(unsafe.Pointer(unsafe.SliceData(b)))
	return cap(a) > 0 && cap(b) > 0 && x < y+uintptr(cap(b))*size && y < x+uintptr(cap(a))*size
}

// Promise 20: nothing is written into rules, nor behind their length, nor read there.
func TestSchemasStayAsTheyWere(t *testing.T) {
	lists := append(notSchemas(), nil, rulesOf("-", "A*", "A", "t|B", "B", "-"), rulesOf("-", "B|A", "A", "((t))", "B", "A+"), rulesOf("-", "A"))
	wrong := rule("no", "|")
	missing := rule("F", "t")
	m := matchers{}
	for number, l := range lists {
		for _, behind := range []impl.Rule{wrong, missing} {
			long := append(slices.Clone(l), behind, behind)
			before := slices.Clone(long)
			given := long[:len(l)]
			checkSchema(t, given)
			checkText(t, given)
			for _, s := range []string{"", "A/", "AB//", "Ax/", "F/"} {
				checkDoc(t, m, given, s)
				checkAllows(t, m, given, s, 1, "F/")
			}
			for _, name := range []string{"-", "A", "B", "F", "no"} {
				checkLeast(t, given, name)
			}
			if !slices.Equal(long, before) {
				t.Errorf("the rules %d were changed", number)
			}
		}
	}
}

// An answer is the same, whatever was done to the one ahead of it.
func TestSchemasAreToldAnew(t *testing.T) {
	const text = "-=A*;A=t|B;B=-;"
	first, _ := impl.ReadSchema(text)
	second, _ := impl.ReadSchema(text)
	if shareRules(first, second) {
		t.Error("two answers lie in one memory")
	}
	clear(first[:cap(first)])
	third, ok := impl.ReadSchema(text)
	if s, _ := impl.SchemaText(third); s != text || !ok || !slices.Equal(second, third) {
		t.Errorf("ReadSchema, asked again, = %q, %v", third, ok)
	}
}

// FuzzSchemas: no argument makes one of the seven functions panic, or tell another thing than the document says.
func FuzzSchemas(f *testing.F) {
	f.Add("-=A*;A=t|B;B=-;", "A", "(A|B)*t", "Ax/AB//", 1, "B/")
	f.Add("-=.*;A=tt;F=F;", "-", "!", "A", -1, "/")
	f.Add("A=;=", "", "A+++++++++++++++++++++++++++++", "\xff", 1<<62, "G")
	f.Fuzz(func(t *testing.T, text, name, expr, s string, at int, put string) {
		checkRead(t, text)
		checkRow(t, s, at)
		checkRow(t, s, -1)
		l, _ := impl.ReadSchema(text)
		m := matchers{}
		for _, rules := range [][]impl.Rule{l, append(slices.Clone(l), rule(name, expr)), rulesOf("-", expr, name, expr), rulesOf(name, expr)} {
			checkSchema(t, rules)
			checkText(t, rules)
			checkDoc(t, m, rules, s)
			checkAllows(t, m, rules, s, at, put)
			checkLeast(t, rules, name)
			checkLeast(t, rules, "-")
		}
	})
}
