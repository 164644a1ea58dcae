package tests

import (
	"math"
	"slices"
	"strings"
	"testing"
	"unsafe"

	"loop.example/g00253/impl"
)

var wholeNode = impl.Node{Up: -1}

// treeByParts reads what lies in one element by the spans of its elements, part
// by part, which is another way than the program's.
func treeByParts(s string, l []span, from, to, up int, out []impl.Node) []impl.Node {
	for at := from; at < to; {
		end := at
		for end < to && strings.IndexByte(plainBytes, s[end]) >= 0 {
			end++
		}
		if end > at {
			out = append(out, impl.Node{Text: s[at:end], Up: up})
			at = end
			continue
		}
		k := slices.IndexFunc(l, func(e span) bool { return e.begin == at })
		out = append(out, impl.Node{Name: s[at : at+1], Up: up})
		out = treeByParts(s, l, at+1, l[k].end, len(out)-1, out)
		at = l[k].end + 1
	}
	return out
}

func treeByHand(s string, l []span) []impl.Node {
	return treeByParts(s, l, 0, len(s), 0, []impl.Node{wholeNode})
}

// textByHand writes a node with all its parts, but for the one that is left out.
func textByHand(l []impl.Node, k, without int) string {
	if k == without {
		return ""
	}
	out := l[k].Name + l[k].Text
	for i := range l {
		if i > 0 && l[i].Up == k {
			out += textByHand(l, i, without)
		}
	}
	if l[k].Name != "" {
		out += "/"
	}
	return out
}

// goodByHand asks for what chapter 2 says of a tree, one by one.
func goodByHand(l []impl.Node) bool {
	if len(l) == 0 || len(l) > impl.MaxNodes || l[0] != wholeNode {
		return false
	}
	isRun := func(k int) bool { return l[k].Name == "" && k > 0 }
	for i := 1; i < len(l); i++ {
		n := l[i]
		element := len(n.Name) == 1 && strings.Contains(namesOfElements, n.Name) && n.Text == ""
		run := n.Name == "" && n.Text != "" && strings.Trim(n.Text, plainBytes) == ""
		if !element && !run {
			return false
		}
		around := i - 1
		for around != n.Up && around >= 0 {
			around = l[around].Up
		}
		if around < 0 || isRun(n.Up) {
			return false
		}
		if run && isRun(i-1) && l[i-1].Up == n.Up {
			return false
		}
	}
	_, ok := spansOf(textByHand(l, 0, -1))
	return ok
}

// pathByHand counts, for each element around a place, those that lie beside it ahead of it.
func pathByHand(s string, l []span, at int) []int {
	var out []int
	inner := 0
	l = slices.SortedFunc(slices.Values(l), func(a, b span) int { return a.begin - b.begin })
	for _, e := range l {
		if at <= e.begin || at > e.end {
			continue
		}
		n := 0
		for _, f := range l {
			if f.end < e.begin && around(l, f.begin) == around(l, e.begin) && f.begin >= inner {
				n++
			}
		}
		out = append(out, n)
		inner = e.begin + 1
	}
	return append(out, at-inner)
}

// mostNodes is a document of MaxDoc bytes with as many nodes as one can have:
// a run of one byte in each gap between beginnings and ends.
func mostNodes() string {
	return strings.Repeat("aAa/", impl.MaxDoc/4)
}

func treesOf(t *testing.T, f func(s string, tree []impl.Node)) {
	t.Helper()
	docs := append(append(edgeDocs(), someDocs()...), allTexts("AB/a", 6)...)
	for _, s := range append(docs, mostNodes(), "aAa/a", "AaBb/c/d", "xA/yB/z") {
		if l, ok := spansOf(s); ok {
			f(s, treeByHand(s, l))
		}
	}
}

// flatTree has n nodes, elements side by side: with too many it is as the document
// says but for its text, of more than MaxDoc bytes.
func flatTree(n int) []impl.Node {
	out := []impl.Node{wholeNode}
	for len(out) < n {
		out = append(out, impl.Node{Name: "A", Up: 0})
	}
	return out
}

func deepTree(n int) []impl.Node {
	out := []impl.Node{wholeNode}
	for k := 0; k < n; k++ {
		out = append(out, impl.Node{Name: "B", Up: k})
	}
	return out
}

// manyRuns has n nodes and n - 1 bytes, but its runs lie side by side.
func manyRuns(n int) []impl.Node {
	out := []impl.Node{wholeNode}
	for len(out) < n {
		out = append(out, impl.Node{Text: "a", Up: 0})
	}
	return out
}

// notTrees are lists of nodes that are no good trees.
func notTrees() [][]impl.Node {
	w := wholeNode
	a := impl.Node{Name: "A", Up: 0}
	out := [][]impl.Node{
		nil,
		{},
		{a},
		{{Up: 0}},
		{{Up: -2}},
		{{Up: math.MinInt}},
		{{Up: math.MaxInt}},
		{{Name: "A", Up: -1}},
		{{Text: "a", Up: -1}},
		{{Name: "A", Text: "a", Up: -1}},
		{{Name: "A", Up: -1}, a},
		{w, w},
		{w, a, w},
		{w, {Name: "A", Up: -1}},
		{w, {Text: "a", Up: -1}},
		{w, {Name: "A", Up: 1}},
		{w, {Text: "a", Up: 1}},
		{w, {Name: "A", Up: 2}, {Name: "B", Up: 0}},
		{w, {Name: "A", Up: math.MinInt}},
		{w, {Name: "A", Up: math.MaxInt}},
		{w, {Text: "a", Up: math.MaxInt}},
		{w, {Text: "a", Up: 0}, {Text: "b", Up: 0}},
		{w, a, {Text: "a", Up: 1}, {Text: "b", Up: 1}},
		{w, a, {Text: "a", Up: 0}, {Text: "b", Up: 0}},
		{w, {Text: "a", Up: 0}, {Text: "b", Up: 1}},
		{w, {Text: "a", Up: 0}, {Name: "B", Up: 1}},
		{w, a, {Name: "B", Up: 0}, {Name: "C", Up: 1}},
		{w, a, {Name: "B", Up: 1}, {Name: "C", Up: 0}, {Name: "D", Up: 2}},
		{w, a, {Name: "B", Up: 0}, {Text: "c", Up: 1}},
		{w, {Up: 0}},
		{w, a, {Up: 1}},
		{w, {Name: "G", Up: 0}},
		{w, {Name: "a", Up: 0}},
		{w, {Name: "/", Up: 0}},
		{w, {Name: "AB", Up: 0}},
		{w, {Name: "A/", Up: 0}},
		{w, {Name: "aA", Up: 0}},
		{w, {Name: "A/B", Up: 0}},
		{w, {Name: "\u00c4", Up: 0}},
		{w, {Name: "A", Text: "a", Up: 0}},
		{w, {Name: "A", Text: "A", Up: 0}},
		{w, {Text: "A", Up: 0}},
		{w, {Text: "/", Up: 0}},
		{w, {Text: "A/", Up: 0}},
		{w, {Text: "aA/b", Up: 0}},
		{w, {Text: "a-b", Up: 0}},
		{w, {Text: "a\n", Up: 0}},
		{w, {Text: "\u00e4", Up: 0}},
		{w, {Text: "\x00", Up: 0}},
		{w, {Text: strings.Repeat("a", impl.MaxDoc+1), Up: 0}},
		{w, {Text: strings.Repeat("a", 5000000), Up: 0}},
		{w, {Name: strings.Repeat("A", 5000000), Up: 0}},
		{w, a, {Text: strings.Repeat("a", impl.MaxDoc-1), Up: 1}},
		{w, {Text: strings.Repeat("a", impl.MaxDoc-1), Up: 0}, a},
		deepTree(impl.MaxDeep + 1),
		deepTree(impl.MaxNodes - 1),
		deepTree(impl.MaxNodes),
		flatTree(impl.MaxDoc/2 + 2),
		flatTree(impl.MaxNodes),
		flatTree(impl.MaxNodes + 1),
		flatTree(300000),
		manyRuns(impl.MaxNodes),
		manyRuns(impl.MaxNodes + 1),
	}
	return out
}

// oddPaths are paths that no place of any document has.
func oddPaths() [][]int {
	return [][]int{
		nil,
		{},
		{-1},
		{math.MinInt},
		{math.MaxInt},
		{impl.MaxDoc + 1},
		{0, -1},
		{-1, 0},
		{math.MaxInt, 0},
		{math.MinInt, 0},
		{0, math.MaxInt},
		{0, math.MinInt},
		{150, 0},
		{0, 299},
		make([]int, impl.MaxDeep+2),
		make([]int, impl.MaxNodes),
		make([]int, 300000),
	}
}

// Promise 2: documents come back from their trees.
func TestDocumentsComeBackFromTheirTrees(t *testing.T) {
	treesOf(t, func(s string, tree []impl.Node) {
		l, ok := impl.TreeOf(s)
		if !slices.Equal(l, tree) || !ok {
			t.Fatalf("TreeOf(%q) = %v, %v, not %v", s, l, ok, tree)
		}
		if !impl.GoodTree(l) {
			t.Errorf("GoodTree of TreeOf(%q) is false", s)
		}
		if back, ok := impl.FlatOf(l); back != s || !ok {
			t.Errorf("FlatOf of TreeOf(%q) = %q, %v", s, back, ok)
		}
	})
}

func TestTreesHaveEachNodeAheadOfItsParts(t *testing.T) {
	treesOf(t, func(s string, _ []impl.Node) {
		l, _ := impl.TreeOf(s)
		if len(l) == 0 || l[0] != wholeNode {
			t.Fatalf("the first node of TreeOf(%q) is not the whole", s)
		}
		for i := 1; i < len(l); i++ {
			if l[i].Up < 0 || l[i].Up >= i {
				t.Errorf("TreeOf(%q): the node %d is a part of %d", s, i, l[i].Up)
			}
			if l[i].Name == "" && l[i-1].Text != "" && l[i].Up == l[i-1].Up {
				t.Errorf("TreeOf(%q): a run is beside a run: %v", s, l)
			}
		}
	})
}

func TestGoodTreeAndFlatOfAsWrittenAnotherWay(t *testing.T) {
	good := 0
	check := func(l []impl.Node) {
		want, text := goodByHand(l), ""
		if want {
			good++
			text = textByHand(l, 0, -1)
		}
		if impl.GoodTree(l) != want {
			t.Fatalf("GoodTree(%v) is not %v", l, want)
		}
		if s, ok := impl.FlatOf(l); s != text || ok != want {
			t.Fatalf("FlatOf(%v) = %q, %v, not %q, %v", l, s, ok, text, want)
		}
		if back, _ := impl.TreeOf(text); want && !slices.Equal(back, l) {
			t.Fatalf("TreeOf(FlatOf(%v)) = %v", l, back)
		}
	}
	eachSmallTree(check)
	treesOf(t, func(s string, tree []impl.Node) {
		check(tree)
		for i := range tree {
			other := slices.Clone(tree)
			for _, up := range []int{-1, 0, i - 1, i, i + 1} {
				other[i].Up = up
				check(other)
			}
			check(slices.Delete(slices.Clone(tree), i, i+1))
		}
	})
	if good < 1000 {
		t.Errorf("but %d good trees were met", good)
	}
}

// eachSmallTree goes through all lists of at most four nodes, and five of good
// names and texts, whose Ups are near by.
func eachSmallTree(f func(l []impl.Node)) {
	var nodes, sound []impl.Node
	for up := -1; up <= 4; up++ {
		for _, n := range []impl.Node{{}, {Name: "A"}, {Text: "a"}, {Name: "A", Text: "a"}, {Name: "a"}, {Text: "A"}} {
			n.Up = up
			nodes = append(nodes, n)
		}
		sound = append(sound, impl.Node{Name: "B", Up: up}, impl.Node{Text: "b", Up: up})
	}
	for _, first := range nodes {
		f([]impl.Node{first})
	}
	eachList(nodes, []impl.Node{wholeNode}, 3, f)
	eachList(sound, []impl.Node{wholeNode}, 4, f)
}

func eachList(nodes, begun []impl.Node, more int, f func(l []impl.Node)) {
	f(begun)
	if more == 0 {
		return
	}
	for _, n := range nodes {
		eachList(nodes, append(slices.Clip(begun), n), more-1, f)
	}
}

// Promise 2: places come back from their paths.
func TestPlacesComeBackFromTheirPaths(t *testing.T) {
	eachDoc(func(s string, l []span) {
		for at := 0; at <= len(s); at++ {
			want := pathByHand(s, l, at)
			p, ok := impl.PathOf(s, at)
			if !slices.Equal(p, want) || !ok {
				t.Fatalf("PathOf(%q, %d) = %v, %v, not %v", s, at, p, ok, want)
			}
			if back, ok := impl.PlaceOf(s, p); back != at || !ok {
				t.Fatalf("PlaceOf(%q, %v) = %d, %v, not %d", s, p, back, ok, at)
			}
		}
	})
}

// Just the paths of places have a place: all short ones are tried.
func TestOtherPathsHaveNoPlace(t *testing.T) {
	var paths [][]int
	for a := -1; a <= 9; a++ {
		paths = append(paths, []int{a})
		for b := -1; b <= 8; b++ {
			paths = append(paths, []int{a, b})
			for c := -1; c <= 7; c++ {
				paths = append(paths, []int{a, b, c}, []int{a, b, c, 0}, []int{a, b, c, 1})
			}
		}
	}
	docs := append(allTexts("A/a", 6), "aAb/Bc/", "AA//A/", "A/A/A/", "A/Bxy/", "AaBb/c/d", "AAA//A/A//")
	for _, s := range docs {
		l, doc := spansOf(s)
		for _, p := range paths {
			want, has := 0, false
			for at := 0; doc && at <= len(s) && !has; at++ {
				if slices.Equal(pathByHand(s, l, at), p) {
					want, has = at, true
				}
			}
			if at, ok := impl.PlaceOf(s, p); at != want || ok != has {
				t.Fatalf("PlaceOf(%q, %v) = %d, %v, not %d, %v", s, p, at, ok, want, has)
			}
		}
	}
}

func TestKidsAreThePartsOfANode(t *testing.T) {
	treesOf(t, func(s string, tree []impl.Node) {
		met := make([]int, len(tree))
		for k := range tree {
			kids, ok := impl.KidsOf(tree, k)
			if !ok || !slices.IsSorted(kids) {
				t.Fatalf("KidsOf(tree of %q, %d) = %v, %v", s, k, kids, ok)
			}
			if tree[k].Text != "" && len(kids) > 0 {
				t.Errorf("KidsOf(tree of %q, %d) = %v of a run", s, k, kids)
			}
			for _, i := range kids {
				if i <= k || i >= len(tree) || tree[i].Up != k {
					t.Fatalf("KidsOf(tree of %q, %d) tells %d", s, k, i)
				}
				met[i]++
			}
		}
		for i := 1; i < len(met); i++ {
			if met[i] != 1 {
				t.Errorf("the node %d of %q is told as a part %d times", i, s, met[i])
			}
		}
	})
}

func TestSizesAreTogetherTheSizeOfAll(t *testing.T) {
	treesOf(t, func(s string, tree []impl.Node) {
		if n, ok := impl.SizeOf(tree, 0); n != len(s) || !ok {
			t.Errorf("SizeOf(tree of %q, 0) = %d, %v", s, n, ok)
		}
		for k, node := range tree {
			n, ok := impl.SizeOf(tree, k)
			if want := len(textByHand(tree, k, -1)); n != want || !ok {
				t.Fatalf("SizeOf(tree of %q, %d) = %d, %v, not %d", s, k, n, ok, want)
			}
			all := len(node.Text)
			if node.Name != "" {
				all = 2
			}
			kids, _ := impl.KidsOf(tree, k)
			for _, i := range kids {
				size, _ := impl.SizeOf(tree, i)
				all += size
			}
			if all != n {
				t.Errorf("the parts of %d in %q have %d bytes together, not %d", k, s, all, n)
			}
		}
	})
}

// Promise 2: what is cut out makes a tree less by its size.
func TestCutMakesATreeLessByItsSize(t *testing.T) {
	treesOf(t, func(s string, tree []impl.Node) {
		for k := 1; k < len(tree); k++ {
			cut, ok := impl.CutNode(tree, k)
			text := textByHand(tree, 0, k)
			if !ok || !goodByHand(cut) || !impl.GoodTree(cut) {
				t.Fatalf("CutNode(tree of %q, %d) = %v, %v", s, k, cut, ok)
			}
			if left, _ := impl.FlatOf(cut); left != text {
				t.Fatalf("CutNode(tree of %q, %d) leaves %q, not %q", s, k, left, text)
			}
			l, _ := spansOf(text)
			if want := treeByHand(text, l); !slices.Equal(cut, want) {
				t.Fatalf("CutNode(tree of %q, %d) = %v, not %v", s, k, cut, want)
			}
			if n, _ := impl.SizeOf(tree, k); len(text)+n != len(s) {
				t.Errorf("CutNode(tree of %q, %d) leaves %d bytes and takes %d", s, k, len(text), n)
			}
		}
	})
}

func TestRunsSideBySideAreOneWhereANodeWasCut(t *testing.T) {
	for _, x := range []struct {
		s    string
		k    int
		want []impl.Node
	}{
		{"aAb/c", 2, []impl.Node{wholeNode, {Text: "ac"}}},
		{"aA/c", 2, []impl.Node{wholeNode, {Text: "ac"}}},
		{"BaAC//c/d", 3, []impl.Node{wholeNode, {Name: "B"}, {Text: "ac", Up: 1}, {Text: "d"}}},
		{"A/b", 1, []impl.Node{wholeNode, {Text: "b"}}},
		{"bA/", 2, []impl.Node{wholeNode, {Text: "b"}}},
		{"Aa/bCc/", 3, []impl.Node{wholeNode, {Name: "A"}, {Text: "a", Up: 1}, {Name: "C"}, {Text: "c", Up: 3}}},
		{"Aa/B/c", 3, []impl.Node{wholeNode, {Name: "A"}, {Text: "a", Up: 1}, {Text: "c"}}},
		{"a", 1, []impl.Node{wholeNode}},
		{"A/", 1, []impl.Node{wholeNode}},
		{"aA/bA/c", 2, []impl.Node{wholeNode, {Text: "ab"}, {Name: "A"}, {Text: "c"}}},
		{"aA/bA/c", 3, []impl.Node{wholeNode, {Text: "a"}, {Name: "A"}, {Name: "A"}, {Text: "c"}}},
	} {
		l, _ := impl.TreeOf(x.s)
		if cut, ok := impl.CutNode(l, x.k); !slices.Equal(cut, x.want) || !ok {
			t.Errorf("CutNode(tree of %q, %d) = %v, %v, not %v", x.s, x.k, cut, ok, x.want)
		}
	}
}

// Cut again and again, from any side, nothing but the whole is left.
func TestAllIsCutInTheEnd(t *testing.T) {
	treesOf(t, func(s string, tree []impl.Node) {
		for round := 0; len(tree) > 1; round++ {
			k := 1 + round*7%(len(tree)-1)
			cut, ok := impl.CutNode(tree, k)
			if !ok || len(cut) >= len(tree) {
				t.Fatalf("CutNode(%v, %d) = %v, %v", tree, k, cut, ok)
			}
			tree = cut
		}
		if left, ok := impl.FlatOf(tree); left != "" || !ok {
			t.Errorf("%q is left of %q", left, s)
		}
	})
}

func zeroOfTree(t *testing.T, l []impl.Node, k int) {
	t.Helper()
	if kids, ok := impl.KidsOf(l, k); len(kids) > 0 || ok {
		t.Errorf("KidsOf(%.60v, %d) = %v, %v", l, k, kids, ok)
	}
	if n, ok := impl.SizeOf(l, k); n != 0 || ok {
		t.Errorf("SizeOf(%.60v, %d) = %d, %v", l, k, n, ok)
	}
	if cut, ok := impl.CutNode(l, k); len(cut) > 0 || ok {
		t.Errorf("CutNode(%.60v, %d) = %v, %v", l, k, cut, ok)
	}
}

// Promise 20: lists of nodes that are no good trees.
func TestWrongTreesHaveTheZeroAnswer(t *testing.T) {
	for number, l := range notTrees() {
		if impl.GoodTree(l) || len(l) < 1000 && goodByHand(l) {
			t.Errorf("the tree %d is good", number)
		}
		if s, ok := impl.FlatOf(l); s != "" || ok {
			t.Errorf("FlatOf of the tree %d = %.40q, %v", number, s, ok)
		}
		for _, k := range []int{math.MinInt, -1, 0, 1, 2, len(l) - 1, len(l), math.MaxInt} {
			zeroOfTree(t, l, k)
		}
	}
}

// Promise 20: nodes that a good tree has not, and the whole cut out of it.
func TestWrongNodesHaveTheZeroAnswer(t *testing.T) {
	for _, s := range append(edgeDocs(), mostNodes()) {
		l, ok := impl.TreeOf(s)
		if !ok {
			t.Fatalf("TreeOf(%q) is false", s)
		}
		for _, k := range []int{math.MinInt, -2, -1, len(l), len(l) + 1, impl.MaxNodes, impl.MaxNodes + 1, math.MaxInt} {
			zeroOfTree(t, l, k)
		}
		if cut, ok := impl.CutNode(l, 0); len(cut) > 0 || ok {
			t.Errorf("CutNode(tree of %q, 0) = %v, %v", s, cut, ok)
		}
	}
}

// Promise 20: texts that are no documents, places and paths that a document has not.
func TestWrongTextsPlacesAndPathsHaveTheZeroAnswer(t *testing.T) {
	for _, s := range append(notDocs(), notTexts()...) {
		if l, ok := impl.TreeOf(s); len(l) > 0 || ok {
			t.Errorf("TreeOf(%.40q) = %v, %v", s, l, ok)
		}
		for at := -1; at <= min(len(s), impl.MaxDoc)+1; at++ {
			if p, ok := impl.PathOf(s, at); len(p) > 0 || ok {
				t.Errorf("PathOf(%.40q, %d) = %v, %v", s, at, p, ok)
			}
		}
		for _, p := range append(oddPaths(), []int{0}, []int{1}, []int{0, 0}) {
			if at, ok := impl.PlaceOf(s, p); at != 0 || ok {
				t.Errorf("PlaceOf(%.40q, %.40v) = %d, %v", s, p, at, ok)
			}
		}
	}
	for _, s := range edgeDocs() {
		for _, at := range oddPlaces(s) {
			if p, ok := impl.PathOf(s, at); len(p) > 0 || ok {
				t.Errorf("PathOf(%q, %d) = %v, %v", s, at, p, ok)
			}
		}
		for _, p := range append(oddPaths(), []int{len(s) + 1}) {
			if at, ok := impl.PlaceOf(s, p); at != 0 || ok {
				t.Errorf("PlaceOf(%q, %.40v) = %d, %v", s, p, at, ok)
			}
		}
	}
}

func TestEmptyDocumentIsTheWholeAlone(t *testing.T) {
	l, ok := impl.TreeOf("")
	if !ok || !slices.Equal(l, []impl.Node{wholeNode}) || !impl.GoodTree(l) {
		t.Fatal(l, ok)
	}
	if s, ok := impl.FlatOf(l); s != "" || !ok {
		t.Error(s, ok)
	}
	if kids, ok := impl.KidsOf(l, 0); len(kids) != 0 || !ok {
		t.Error(kids, ok)
	}
	if n, ok := impl.SizeOf(l, 0); n != 0 || !ok {
		t.Error(n, ok)
	}
	if cut, ok := impl.CutNode(l, 0); len(cut) != 0 || ok {
		t.Error(cut, ok)
	}
	if p, ok := impl.PathOf("", 0); !slices.Equal(p, []int{0}) || !ok {
		t.Error(p, ok)
	}
	if at, ok := impl.PlaceOf("", []int{0}); at != 0 || !ok {
		t.Error(at, ok)
	}
}

// MaxNodes is never met by a good tree: with so many nodes the text has more
// bytes than MaxDoc, or runs lie side by side. The most that a document has are
// taken, just as the longest and the deepest one are.
func TestLimitsOfTrees(t *testing.T) {
	if impl.MaxNodes != 301 {
		t.Fatal("the limit is another one than the document's")
	}
	l, ok := impl.TreeOf(mostNodes())
	if len(l) != 226 || !ok || !impl.GoodTree(l) {
		t.Error(len(l), ok)
	}
	if !impl.GoodTree(deepTree(impl.MaxDeep)) || impl.GoodTree(deepTree(impl.MaxDeep+1)) {
		t.Error("MaxDeep elements around a place are good, one more is not")
	}
	if !impl.GoodTree(flatTree(impl.MaxDoc/2+1)) || impl.GoodTree(flatTree(impl.MaxDoc/2+2)) {
		t.Error("elements of MaxDoc bytes together are good, one more is not")
	}
	for size, want := range map[int]bool{impl.MaxDoc: true, impl.MaxDoc + 1: false} {
		if run := []impl.Node{wholeNode, {Text: strings.Repeat("z", size)}}; impl.GoodTree(run) != want {
			t.Errorf("GoodTree of a run of %d bytes is not %v", size, want)
		}
	}
	s := "A" + strings.Repeat("a", 298) + "/"
	for at, want := range map[int][]int{0: {0}, 1: {0, 0}, 299: {0, 298}, 300: {300}} {
		if p, ok := impl.PathOf(s, at); !slices.Equal(p, want) || !ok {
			t.Errorf("PathOf at %d = %v, %v, not %v", at, p, ok, want)
		}
	}
}

// shareText tells whether two texts lie in one memory, wholly or in part.
func shareText(a, b string) bool {
	x := uintptr(unsafe.Pointer(unsafe.StringData(a)))
	y := uintptr(unsafe.Pointer(unsafe.StringData(b)))
	return a != "" && b != "" && x < y+uintptr(len(b)) && y < x+uintptr(len(a))
}

// Promise 20: the answers share no memory with what was handed in.
func TestTreesAreNewMemory(t *testing.T) {
	s := "ab" + strings.Repeat("c", 200) + "AxyB/z/d"
	l, _ := impl.TreeOf(s)
	for _, n := range l {
		if shareText(n.Text, s) || shareText(n.Name, s) {
			t.Errorf("the node %v lies in the memory of the document", n)
		}
	}
	one, _ := impl.TreeOf(strings.Repeat("q", 200))
	if flat, _ := impl.FlatOf(one); len(flat) != 200 || shareText(flat, one[1].Text) {
		t.Error("the text lies in the memory of the tree")
	}
	cut, _ := impl.CutNode(l, 2)
	before := slices.Clone(l)
	for i := range cut {
		if len(cut[i].Text) > 1 && shareText(cut[i].Text, l[1].Text) {
			t.Errorf("the node %d lies in the memory of the tree", i)
		}
		cut[i] = impl.Node{Name: "no"}
	}
	last, _ := impl.CutNode(l, len(l)-1)
	for i := range last {
		if len(last[i].Text) > 1 && shareText(last[i].Text, l[i].Text) {
			t.Errorf("the node %d lies in the memory of the tree", i)
		}
		last[i] = impl.Node{Name: "no"}
	}
	if !slices.Equal(l, before) {
		t.Error("what was answered lies in the memory of what was handed in")
	}
}

// Promise 20: nothing is written into an argument, nor behind its length.
func TestTreesAndPathsStayAsTheyWere(t *testing.T) {
	lists := notTrees()
	treesOf(t, func(s string, tree []impl.Node) {
		if len(tree) < 9 {
			lists = append(lists, tree)
		}
	})
	behind := impl.Node{Name: "behind", Text: "behind", Up: 77}
	for number, l := range lists {
		long := append(slices.Clone(l), behind, behind)
		before := slices.Clone(long)
		given := long[:len(l)]
		impl.GoodTree(given)
		impl.FlatOf(given)
		for k := -1; k <= min(len(l), 10); k++ {
			kids, _ := impl.KidsOf(given, k)
			clear(kids[:cap(kids)])
			impl.SizeOf(given, k)
			cut, _ := impl.CutNode(given, k)
			clear(cut[:cap(cut)])
		}
		if !slices.Equal(long, before) {
			t.Errorf("the tree %d was changed", number)
		}
	}
	for _, p := range append(oddPaths(), []int{0}, []int{0, 1}, []int{1, 0}) {
		long := append(slices.Clone(p), 77, 78)
		before := slices.Clone(long)
		for _, s := range edgeDocs() {
			impl.PlaceOf(s, long[:len(p)])
		}
		if !slices.Equal(long, before) {
			t.Errorf("the path %.40v was changed", p)
		}
	}
}

// Two answers of one call after another are apart, too.
func TestAnswersAreApart(t *testing.T) {
	l, _ := impl.TreeOf("aAb/c")
	m, _ := impl.TreeOf("aAb/c")
	clear(m)
	if s, ok := impl.FlatOf(l); s != "aAb/c" || !ok {
		t.Error(s, ok)
	}
	p, _ := impl.PathOf("aAb/c", 2)
	q, _ := impl.PathOf("aAb/c", 2)
	q[0] = 9
	if !slices.Equal(p, []int{0, 0}) {
		t.Error(p)
	}
}

// nodesFrom makes any list of nodes of any bytes: three bytes a node.
func nodesFrom(b []byte) []impl.Node {
	names := []string{"", "", "A", "F", "G", "AB", "a"}
	texts := []string{"", "", "a", "b,", "A", "-"}
	var out []impl.Node
	for ; len(b) >= 3; b = b[3:] {
		out = append(out, impl.Node{
			Name: names[int(b[0])%len(names)],
			Text: texts[int(b[1])%len(texts)],
			Up:   int(int8(b[2])),
		})
	}
	return out
}

// FuzzTrees: no argument makes one of the eight functions panic, or tell more beside a false than nothing.
func FuzzTrees(f *testing.F) {
	f.Add("aAb/c", 2, []byte{0, 0, 255, 2, 0, 0, 0, 2, 1})
	f.Add("A/Bxy/", 4, []byte{0, 0, 255, 0, 2, 0, 2, 0, 0, 0, 2, 2})
	f.Add("", math.MaxInt, []byte{})
	f.Fuzz(func(t *testing.T, s string, k int, b []byte) {
		spans, doc := spansOf(s)
		l, ok := impl.TreeOf(s)
		if ok != doc || !ok && len(l) > 0 || ok && !slices.Equal(l, treeByHand(s, spans)) {
			t.Errorf("TreeOf(%q) = %v, %v", s, l, ok)
		}
		p, ok := impl.PathOf(s, k)
		if within := doc && 0 <= k && k <= len(s); ok != within || !ok && len(p) > 0 {
			t.Errorf("PathOf(%q, %d) = %v, %v", s, k, p, ok)
		}
		if at, back := impl.PlaceOf(s, p); back != ok || ok && at != k || !ok && at != 0 {
			t.Errorf("PlaceOf(%q, %v) = %d, %v", s, p, at, back)
		}
		l = nodesFrom(b)
		good := goodByHand(l)
		if impl.GoodTree(l) != good {
			t.Errorf("GoodTree(%v) is not %v", l, good)
		}
		if text, ok := impl.FlatOf(l); ok != good || ok && text != textByHand(l, 0, -1) || !ok && text != "" {
			t.Errorf("FlatOf(%v) = %q, %v", l, text, ok)
		}
		if !good || k < 0 || k >= len(l) {
			zeroOfTree(t, l, k)
			return
		}
		n, ok := impl.SizeOf(l, k)
		if !ok || n != len(textByHand(l, k, -1)) {
			t.Errorf("SizeOf(%v, %d) = %d, %v", l, k, n, ok)
		}
		if _, ok := impl.CutNode(l, k); ok != (k > 0) {
			t.Errorf("CutNode(%v, %d) tells %v", l, k, ok)
		}
	})
}
