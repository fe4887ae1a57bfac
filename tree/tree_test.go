package tree_test

import (
	"fmt"
	"math"
	"reflect"
	"slices"
	"strings"
	"testing"

	"namesake/tree"
)

const (
	most = 20000
	far  = 1 << 31
)

// leaf and node write a tree out by the structure alone, so that no call under test has made it.
func leaf(gap, text string, at int) tree.Node {
	return tree.Node{Kind: tree.Leaf, Gap: gap, Text: text, At: at}
}

func node(kind tree.Kind, kids ...tree.Node) tree.Node {
	return tree.Node{Kind: kind, Kids: kids}
}

// kinds are those of the chapter, in its order.
func kinds() []tree.Kind {
	return []tree.Kind{
		tree.Leaf, tree.File, tree.Main, tree.Class, tree.Field, tree.Method, tree.Param, tree.Var,
		tree.Type, tree.Block, tree.If, tree.While, tree.Print, tree.Assign, tree.Store, tree.And,
		tree.Less, tree.Plus, tree.Minus, tree.Times, tree.Not, tree.Index, tree.Length, tree.Call,
		tree.Number, tree.True, tree.False, tree.Ident, tree.This, tree.Array, tree.Object, tree.Paren,
	}
}

// short is a value as a test tells it: large trees would bury all else.
func short(v any) string { return fmt.Sprintf("%.300s", fmt.Sprintf("%+v", v)) }

// step is what a walk comes to.
type step struct {
	depth int
	node  tree.Node
}

// walkByWords is the walk as the chapter's sentence tells it.
func walkByWords(n tree.Node, depth int) []step {
	out := []step{{depth, n}}
	for _, k := range n.Kids {
		out = append(out, walkByWords(k, depth+1)...)
	}
	return out
}

func leavesByWords(n tree.Node) []tree.Node {
	var out []tree.Node
	for _, s := range walkByWords(n, 0) {
		if s.node.Kind == tree.Leaf {
			out = append(out, s.node)
		}
	}
	return out
}

func textByWords(n tree.Node) string {
	text := ""
	for _, l := range leavesByWords(n) {
		text += l.Gap + l.Text
	}
	return text
}

// atsByWords are the leaves' places of a tree that stands right from a place on.
func atsByWords(n tree.Node, from int) []int {
	var out []int
	list := leavesByWords(n)
	for i, l := range list {
		ahead := textByWords(node(tree.File, list[:i]...))
		out = append(out, from+len(ahead)+len(l.Gap))
	}
	return out
}

func atsOf(n tree.Node) []int {
	var out []int
	for _, l := range leavesByWords(n) {
		out = append(out, l.At)
	}
	return out
}

// hasByWords tells whether a node's span has a byte.
func hasByWords(n tree.Node, at int) bool {
	list := leavesByWords(n)
	if len(list) == 0 {
		return false
	}
	last := list[len(list)-1]
	return at >= list[0].At && at < last.At+len(last.Text)
}

func pathByWords(n tree.Node, at int) []tree.Kind {
	if !hasByWords(n, at) {
		return nil
	}
	for _, k := range n.Kids {
		if hasByWords(k, at) {
			return append([]tree.Kind{n.Kind}, pathByWords(k, at)...)
		}
	}
	return []tree.Kind{n.Kind}
}

// remade is a tree in lists of its own, with each leaf as told.
func remade(n tree.Node, change func(*tree.Node)) tree.Node {
	n.Kids = slices.Clone(n.Kids)
	for i, k := range n.Kids {
		n.Kids[i] = remade(k, change)
	}
	if n.Kind == tree.Leaf {
		change(&n)
	}
	return n
}

func cloned(n tree.Node) tree.Node { return remade(n, func(*tree.Node) {}) }

// standing is a tree that stands right from a place on.
func standing(n tree.Node, from int) tree.Node {
	ats := atsByWords(n, from)
	return remade(n, func(l *tree.Node) { l.At, ats = ats[0], ats[1:] })
}

func bare(n tree.Node) tree.Node {
	return remade(n, func(l *tree.Node) { l.Gap, l.At = "", 0 })
}

// equal holds two trees against each other; an empty list is none.
func equal(a, b tree.Node) bool {
	if len(a.Kids) != len(b.Kids) || a.Kind != b.Kind || a.Gap != b.Gap || a.Text != b.Text || a.At != b.At {
		return false
	}
	for i := range a.Kids {
		if !equal(a.Kids[i], b.Kids[i]) {
			return false
		}
	}
	return true
}

func isZero(n tree.Node) bool { return reflect.DeepEqual(n, tree.Node{}) }

// asks holds all that is asked of a right tree against the chapter.
func asks(t *testing.T, n tree.Node) {
	t.Helper()
	was, told := cloned(n), short(n)
	if !tree.Right(n) {
		t.Fatalf("%s isn't right", told)
	}
	if got := tree.Text(n); got != textByWords(n) {
		t.Errorf("%s: Text = %q", told, got)
	}
	if got := tree.Count(n); got != len(walkByWords(n, 0)) {
		t.Errorf("%s: Count = %d", told, got)
	}
	if !tree.Same(n, was) || !tree.Same(was, n) || !tree.Same(n, n) {
		t.Errorf("%s: it isn't the same as itself", told)
	}
	if got := tree.Strip(n); !equal(got, bare(n)) {
		t.Errorf("%s: Strip = %s", told, short(got))
	}
	walks(t, n)
	stands(t, n)
	places(t, n)
	if !equal(n, was) {
		t.Errorf("%s was changed to %s", told, short(n))
	}
}

// walks asks a right tree's iterators.
func walks(t *testing.T, n tree.Node) {
	t.Helper()
	want := walkByWords(n, 0)
	i := 0
	for depth, x := range tree.Walk(n) {
		if i < len(want) && (depth != want[i].depth || !equal(x, want[i].node)) {
			t.Errorf("%s: the walk comes to %s at the depth %d, step %d", short(n), short(x), depth, i)
		}
		i++
	}
	if i != len(want) {
		t.Errorf("%s: the walk has %d steps", short(n), i)
	}
	got := slices.Collect(tree.Leaves(n))
	if !slices.EqualFunc(got, leavesByWords(n), equal) {
		t.Errorf("%s: Leaves: %s", short(n), short(got))
	}
}

// stands asks where a right tree stands, and places it.
func stands(t *testing.T, n tree.Node) {
	t.Helper()
	for _, from := range []int{-5, -2, -1, 0, 1, 2, 3, 7, far - 1, far, far + 1} {
		if got, want := tree.Stands(n, from), slices.Equal(atsOf(n), atsByWords(n, from)); got != want {
			t.Errorf("%s: Stands(%d) = %v", short(n), from, got)
		}
		got := tree.Place(n, from)
		if from < 0 || from > far {
			if !isZero(got) {
				t.Errorf("%s: Place(%d) = %s", short(n), from, short(got))
			}
			continue
		}
		if !equal(got, standing(n, from)) {
			t.Errorf("%s: Place(%d) = %s", short(n), from, short(got))
		}
		if !tree.Right(got) || !tree.Stands(got, from) || tree.Text(got) != tree.Text(n) {
			t.Errorf("%s: placed from %d on it is %s", short(n), from, short(got))
		}
	}
}

// places asks a right tree for its span and for each byte in and near it.
func places(t *testing.T, n tree.Node) {
	t.Helper()
	list := leavesByWords(n)
	wantFrom, wantTo, low, high := 0, 0, 0, 0
	if len(list) > 0 {
		last := list[len(list)-1]
		wantFrom, wantTo = list[0].At, last.At+len(last.Text)
		low, high = min(wantFrom, wantTo), max(wantFrom, wantTo)
	}
	if from, to, ok := tree.Span(n); from != wantFrom || to != wantTo || ok != (len(list) > 0) {
		t.Errorf("%s: Span = %d, %d, %v", short(n), from, to, ok)
	}
	for at := low - 2; at <= high+2 && at < low+1000; at++ {
		if got := tree.Path(n, at); !slices.Equal(got, pathByWords(n, at)) {
			t.Errorf("%s: Path(%d) = %v", short(n), at, got)
		}
	}
	for _, at := range []int{math.MinInt, math.MaxInt, high + 1000} {
		if got := tree.Path(n, at); len(got) != 0 {
			t.Errorf("%s: Path(%d) = %v", short(n), at, got)
		}
	}
}

// refused asks all calls of a tree that isn't right.
func refused(t *testing.T, name string, n tree.Node) {
	t.Helper()
	if tree.Right(n) {
		t.Errorf("%s: it is right", name)
	}
	if got := tree.Text(n); got != "" {
		t.Errorf("%s: Text = %.100q", name, got)
	}
	for _, from := range []int{-1, 0, 1, 2, 3, far, far + 1} {
		if tree.Stands(n, from) {
			t.Errorf("%s: it stands right from %d on", name, from)
		}
		if got := tree.Place(n, from); !isZero(got) {
			t.Errorf("%s: Place(%d) = %s", name, from, short(got))
		}
	}
	if from, to, ok := tree.Span(n); from != 0 || to != 0 || ok {
		t.Errorf("%s: Span = %d, %d, %v", name, from, to, ok)
	}
	for l := range tree.Leaves(n) {
		t.Fatalf("%s: a leaf %s", name, short(l))
	}
	for depth, x := range tree.Walk(n) {
		t.Fatalf("%s: the walk comes to %s at the depth %d", name, short(x), depth)
	}
	for at := range 5 {
		if got := tree.Path(n, at-1); len(got) != 0 {
			t.Errorf("%s: Path(%d) = %v", name, at-1, got)
		}
	}
	if tree.Same(n, n) || tree.Same(n, sum()) || tree.Same(sum(), n) {
		t.Errorf("%s: it is the same as something", name)
	}
	if got := tree.Strip(n); !isZero(got) {
		t.Errorf("%s: Strip = %s", name, short(got))
	}
	if got := tree.Count(n); got != 0 {
		t.Errorf("%s: Count = %d", name, got)
	}
}

// sum is the tree of " ab+/**/(1 )".
func sum() tree.Node {
	return node(tree.Plus,
		node(tree.Ident, leaf(" ", "ab", 1)),
		leaf("", "+", 3),
		node(tree.Paren,
			leaf("/**/", "(", 8),
			node(tree.Number, leaf("", "1", 9)),
			leaf(" ", ")", 11)))
}

// each is a tree with nodes of each kind, and such At as a text of its own gives.
func each() tree.Node {
	s := func(text string) tree.Node { return leaf("", text, 0) }
	b := func(text string) tree.Node { return leaf(" ", text, 0) }
	name := func(text string) tree.Node { return node(tree.Ident, b(text)) }
	figure := func(text string) tree.Node { return node(tree.Number, s(text)) }
	product := node(tree.Minus, figure("1"), s("-"), node(tree.Times, figure("2"), s("*"), figure("3")))
	ask := node(tree.And, node(tree.Not, s("!"), node(tree.Paren, s("("), node(tree.Less, name("x"), s("<"), name("p")), s(")"))), b("&&"), node(tree.True, b("true")))
	return standing(node(tree.File,
		node(tree.Main, s("class"), b("M"), b("{"), leaf("\n\t", "public", 0), b("main"),
			node(tree.Print, leaf("/* a note */", "System.out.println", 0), s("("), node(tree.Call, node(tree.Object, b("new"), b("A"), s("("), s(")")), s("."), s("m"), s("("), figure("1"), s(")")), s(")"), s(";")), b("}")),
		node(tree.Class, leaf("\n// more\n", "class", 0), b("A"), b("{"),
			node(tree.Field, node(tree.Type, b("int")), b("x"), s(";")),
			node(tree.Method, b("public"), node(tree.Type, b("int")), b("m"), s("("), node(tree.Param, node(tree.Type, s("int")), b("p")), s(")"), b("{"),
				node(tree.Var, node(tree.Type, b("int"), s("["), s("]")), b("v"), s(";")),
				node(tree.Assign, b("v"), b("="), node(tree.Array, b("new"), b("int"), s("["), figure("3"), s("]")), s(";")),
				node(tree.Store, b("v"), s("["), figure("0"), s("]"), b("="), node(tree.Length, name("v"), s("."), s("length")), s(";")),
				node(tree.If, b("if"), b("("), ask, s(")"), node(tree.Block, b("{"), b("}")), b("else"), node(tree.Block, b("{"), b("}"))),
				node(tree.While, b("while"), s("("), node(tree.False, s("false")), s(")"), node(tree.Assign, b("x"), s("="), node(tree.Plus, node(tree.Index, name("v"), s("["), product, s("]")), b("+"), node(tree.Call, node(tree.This, b("this")), s("."), s("m"), s("("), s(")"))), s(";"))),
				b("return"), name("x"), s(";"), b("}")),
			leaf("\r\n", "}", 0))), 0)
}

func TestKinds(t *testing.T) {
	for i, k := range kinds() {
		if int(k) != i+1 {
			t.Errorf("kind %d is %d", i+1, k)
		}
	}
}

func TestChapterExample(t *testing.T) {
	n := tree.Make(tree.Not, tree.Token("", "!", 0), tree.Make(tree.Ident, tree.Token(" ", "a", 2)))
	if got := tree.Text(n); got != "! a" {
		t.Errorf("%q", got)
	}
	asks(t, n)
}

func TestToken(t *testing.T) {
	for _, want := range []tree.Node{
		leaf("", "a", 0), leaf(" ", "ab", 7), leaf("/* */\n", "&&", far+1), leaf("", "", 0), leaf(" ", "", 1),
		leaf("", "a", -1), leaf("g", "\x00\xff", math.MinInt), leaf("", " ", math.MaxInt),
	} {
		if got := tree.Token(want.Gap, want.Text, want.At); !reflect.DeepEqual(got, want) {
			t.Errorf("Token(%q, %q, %d) = %+v", want.Gap, want.Text, want.At, got)
		}
	}
}

func TestMake(t *testing.T) {
	for _, kids := range [][]tree.Node{
		nil, {leaf("", "a", 0)}, {sum(), leaf(" ", "b", 9), node(tree.File)}, {{}}, {node(-3, node(99, leaf("", "", -1)))},
		{{Kind: tree.Leaf, Text: "a", Kids: []tree.Node{sum()}}, {Kind: tree.If, Gap: "g", Text: "t", At: -4, Kids: []tree.Node{sum()}}},
	} {
		for _, k := range append(kinds(), math.MinInt, -1, 0, 33, math.MaxInt) {
			got := tree.Make(k, kids...)
			if got.Kind != k || got.Gap != "" || got.Text != "" || got.At != 0 || !slices.EqualFunc(got.Kids, kids, equal) {
				t.Errorf("Make(%d, %s) = %s", k, short(kids), short(got))
			}
		}
	}
}

func TestOrdinaryTree(t *testing.T) {
	n := sum()
	asks(t, n)
	if got := tree.Text(n); got != " ab+/**/(1 )" {
		t.Errorf("Text = %q", got)
	}
	if !tree.Stands(n, 0) || tree.Stands(n, 1) || tree.Stands(n, -1) || tree.Count(n) != 9 {
		t.Error("it stands elsewhere, or has other nodes:", tree.Count(n))
	}
	if from, to, ok := tree.Span(n); from != 1 || to != 12 || !ok {
		t.Error("Span:", from, to, ok)
	}
	var got []string
	for depth, x := range tree.Walk(n) {
		got = append(got, fmt.Sprint(depth, x.Kind, x.Gap, x.Text))
	}
	want := []string{
		fmt.Sprint(0, tree.Plus, "", ""), fmt.Sprint(1, tree.Ident, "", ""), fmt.Sprint(2, tree.Leaf, " ", "ab"),
		fmt.Sprint(1, tree.Leaf, "", "+"), fmt.Sprint(1, tree.Paren, "", ""), fmt.Sprint(2, tree.Leaf, "/**/", "("),
		fmt.Sprint(2, tree.Number, "", ""), fmt.Sprint(3, tree.Leaf, "", "1"), fmt.Sprint(2, tree.Leaf, " ", ")"),
	}
	if !slices.Equal(got, want) {
		t.Errorf("Walk: %q", got)
	}
	got = nil
	for l := range tree.Leaves(n) {
		got = append(got, fmt.Sprint(l.Gap, l.Text, l.At))
	}
	if want := []string{" ab1", "+3", "/**/(8", "19", " )11"}; !slices.Equal(got, want) {
		t.Errorf("Leaves: %q", got)
	}
}

func TestNodesOfEachKind(t *testing.T) {
	n := each()
	asks(t, n)
	seen := map[tree.Kind]int{}
	for _, x := range tree.Walk(n) {
		seen[x.Kind]++
	}
	if len(seen) != len(kinds()) {
		t.Fatal("the tree hasn't nodes of each kind:", seen)
	}
	if text := tree.Text(n); !strings.HasPrefix(text, "class M {\n\tpublic main/* a note */System.out.println( new A().m(1)); }\n// more\nclass A { int x;") || !strings.HasSuffix(text, " return x; }\r\n}") {
		t.Errorf("Text = %q", text)
	}
	if !tree.Stands(n, 0) {
		t.Error("it doesn't stand right from 0 on")
	}
	for _, k := range kinds()[1:] {
		asks(t, node(k))
		asks(t, node(k, node(k), leaf("", "a", 0), node(k, leaf(" ", "b", 2), node(k))))
	}
}

func TestPath(t *testing.T) {
	paren := []tree.Kind{tree.Plus, tree.Paren}
	for at, want := range map[int][]tree.Kind{
		-1: nil,
		0:  nil,
		1:  {tree.Plus, tree.Ident, tree.Leaf},
		2:  {tree.Plus, tree.Ident, tree.Leaf},
		3:  {tree.Plus, tree.Leaf},
		4:  {tree.Plus},
		7:  {tree.Plus},
		8:  append(slices.Clone(paren), tree.Leaf),
		9:  append(slices.Clone(paren), tree.Number, tree.Leaf),
		10: paren,
		11: append(slices.Clone(paren), tree.Leaf),
		12: nil,
		13: nil,
	} {
		if got := tree.Path(sum(), at); !slices.Equal(got, want) {
			t.Errorf("Path(%d) = %v", at, got)
		}
	}
	for at, want := range map[int][]tree.Kind{4: nil, 5: {tree.Leaf}, 6: {tree.Leaf}, 7: nil} {
		if got := tree.Path(leaf("  ", "ab", 5), at); !slices.Equal(got, want) {
			t.Errorf("of a leaf alone Path(%d) = %v", at, got)
		}
	}
}

// Leaves whose At are in no order: a node's span is that of its first and its last leaf, and of several kids the first one counts.
func TestPathOfOverlappingKids(t *testing.T) {
	wide := node(tree.And, leaf("", "a", 0), leaf("", "b", 9))
	for _, c := range []struct {
		name string
		tree tree.Node
		at   int
		want []tree.Kind
	}{
		{"two leaves at one place", node(tree.If, leaf("", "ab", 2), node(tree.This, leaf("", "ab", 2))), 3, []tree.Kind{tree.If, tree.Leaf}},
		{"the same the other way round", node(tree.If, node(tree.This, leaf("", "ab", 2)), leaf("", "ab", 2)), 3, []tree.Kind{tree.If, tree.This, tree.Leaf}},
		{"the first kid has it in a gap", node(tree.If, wide, node(tree.This, leaf("", "c", 5)), leaf("", "d", 11)), 5, []tree.Kind{tree.If, tree.And}},
		{"the second kid alone has it", node(tree.If, leaf("", "x", 1), node(tree.This, leaf("", "cc", 5)), leaf("", "d", 11)), 6, []tree.Kind{tree.If, tree.This, tree.Leaf}},
		{"a kid without leaves is ahead", node(tree.If, node(tree.Block), node(tree.File, node(tree.Block)), leaf("", "x", 1)), 1, []tree.Kind{tree.If, tree.Leaf}},
		{"the root ends ahead of where it begins", node(tree.If, leaf("", "x", 9), leaf("", "y", 1)), 9, nil},
		{"the root is where it begins and ends, though a kid is elsewhere", node(tree.If, leaf("", "x", 1), leaf("", "y", 50), leaf("", "z", 3)), 50, nil},
		{"a leaf beyond the root's last one", node(tree.If, leaf("", "x", 1), node(tree.This, leaf("", "y", 2)), leaf("", "zzz", 1)), 3, []tree.Kind{tree.If, tree.Leaf}},
		{"a kid that ends ahead of where it begins", node(tree.If, node(tree.And, leaf("", "x", 4), leaf("", "y", 1)), leaf("", "z", 9)), 4, []tree.Kind{tree.If}},
		{"deep below", node(tree.If, node(tree.File), node(tree.And, node(tree.Less, leaf("", "x", 4)), leaf("", "y", 4))), 4, []tree.Kind{tree.If, tree.And, tree.Less, tree.Leaf}},
	} {
		if got := tree.Path(c.tree, c.at); !slices.Equal(got, c.want) {
			t.Errorf("%s: Path(%d) = %v", c.name, c.at, got)
		}
		asks(t, c.tree)
	}
}

func TestSpan(t *testing.T) {
	for _, c := range []struct {
		tree     tree.Node
		from, to int
		ok       bool
	}{
		{leaf("", "a", 0), 0, 1, true},
		{leaf("  ", "abc", 2), 2, 5, true},
		{leaf("", "abc", far+1), far + 1, far + 4, true},
		{leaf("", "a", math.MaxInt-1), math.MaxInt - 1, math.MaxInt, true},
		{leaf("", "ab", math.MaxInt), math.MaxInt, math.MinInt + 1, true},
		{node(tree.File), 0, 0, false},
		{node(tree.File, node(tree.Class), node(tree.Class, node(tree.Field))), 0, 0, false},
		{node(tree.File, node(tree.Class), leaf(" ", "ab", 7), node(tree.Class, node(tree.Field))), 7, 9, true},
		{node(tree.File, leaf("", "ab", 7), leaf("", "c", 3)), 7, 4, true},
		{node(tree.File, leaf("", "ab", 7), leaf("", "c", 30), leaf("", "ddd", 0)), 7, 3, true},
	} {
		if from, to, ok := tree.Span(c.tree); from != c.from || to != c.to || ok != c.ok {
			t.Errorf("Span(%s) = %d, %d, %v", short(c.tree), from, to, ok)
		}
	}
}

func TestRight(t *testing.T) {
	for _, n := range []tree.Node{
		leaf("", "a", 0), leaf(" ", "a", 0), leaf("", "a", 1), leaf("", "a", far), leaf("", "a", far+1), leaf("\x00", "\xff", math.MaxInt),
		leaf("", " ", 3), leaf("a", "ab", 3), node(tree.Paren), node(tree.File), node(tree.Not, leaf("", "a", 0)),
		{Kind: tree.Leaf, Text: "a", Kids: []tree.Node{}},
		{Kind: tree.Leaf, Text: "a", Kids: make([]tree.Node, 0, 3)},
		{Kind: tree.Block, Kids: []tree.Node{}},
		// How kinds lie within one another is no matter here.
		node(tree.Number, node(tree.File, node(tree.Number)), leaf("", "a", 5), leaf("", "b", 5)),
	} {
		if !tree.Right(n) {
			t.Errorf("%s isn't right", short(n))
		}
	}
	for _, k := range kinds()[1:] {
		if !tree.Right(node(k)) || !tree.Right(node(k, leaf("", "a", 0), node(k))) {
			t.Errorf("a node of kind %d isn't right", k)
		}
	}
}

// wrongs are nodes that aren't right, whatever is above them.
func wrongs() map[string]tree.Node {
	out := map[string]tree.Node{
		"the zero one":                {},
		"kind 0 of a leaf":            node(0, leaf("", "a", 0)),
		"kind -1":                     node(-1),
		"kind 33":                     node(33),
		"kind 33 of a leaf":           node(33, leaf("", "a", 0)),
		"the greatest kind":           node(math.MaxInt),
		"the least kind":              node(math.MinInt),
		"a kind of 32 bits more":      node(tree.File + 1<<32),
		"a leaf's shape, kind 0":      {Text: "a"},
		"a leaf's shape, kind 33":     {Kind: 33, Text: "a"},
		"a leaf without text":         leaf("", "", 0),
		"a leaf of a gap alone":       leaf(" ", "", 1),
		"a leaf below 0":              leaf("", "a", -1),
		"a leaf at the least":         leaf("", "a", math.MinInt),
		"a leaf with a leaf":          {Kind: tree.Leaf, Text: "a", Kids: []tree.Node{leaf("", "b", 0)}},
		"a leaf with a node":          {Kind: tree.Leaf, Text: "a", Kids: []tree.Node{node(tree.File)}},
		"an empty leaf with a leaf":   {Kind: tree.Leaf, Kids: []tree.Node{leaf("", "b", 0)}},
		"a leaf with a wrong node":    {Kind: tree.Leaf, Text: "a", Kids: []tree.Node{{}}},
		"a leaf of nothing but empty": tree.Token("", "", 0),
		"a Make of a Leaf":            tree.Make(tree.Leaf, leaf("", "a", 0)),
	}
	for _, k := range kinds()[1:] {
		out[fmt.Sprint("a gap in kind ", int(k))] = tree.Node{Kind: k, Gap: " "}
		out[fmt.Sprint("a text in kind ", int(k))] = tree.Node{Kind: k, Text: "a"}
		out[fmt.Sprint("At 1 in kind ", int(k))] = tree.Node{Kind: k, At: 1}
		out[fmt.Sprint("At -1 in kind ", int(k))] = tree.Node{Kind: k, At: -1, Kids: []tree.Node{leaf("", "a", 0)}}
		out[fmt.Sprint("a gap and kids in kind ", int(k))] = tree.Node{Kind: k, Gap: " ", Kids: []tree.Node{leaf("", "a", 0)}}
		out[fmt.Sprint("a text and kids in kind ", int(k))] = tree.Node{Kind: k, Text: "a", Kids: []tree.Node{leaf("", "a", 0)}}
	}
	return out
}

func TestWrongNodes(t *testing.T) {
	for name, n := range wrongs() {
		refused(t, name, n)
		refused(t, name+", the only kid", node(tree.Paren, n))
		refused(t, name+", the first kid", node(tree.Paren, n, leaf("", "a", 0), sum()))
		refused(t, name+", the last kid", node(tree.Paren, leaf("", "a", 0), sum(), n))
		deep := node(tree.Plus, leaf("", "a", 0), n, leaf("", "b", 1))
		for range 100 {
			deep = node(tree.Block, leaf("", "{", 0), deep, leaf("", "}", 2))
		}
		refused(t, name+", deep below", deep)
	}
}

// flat is a tree of so many nodes, all but one of which are kids of it.
func flat(count int) tree.Node {
	kids := make([]tree.Node, count-1)
	for i := range kids {
		if kids[i] = leaf("", "a", i); i%3 == 0 {
			kids[i] = node(tree.Block)
		}
	}
	return node(tree.File, kids...)
}

// chain is a tree of so many nodes, each within the one ahead.
func chain(count int) tree.Node {
	n := leaf("", "a", 0)
	for range count - 1 {
		n = node(tree.Paren, n)
	}
	return n
}

// bushy is a tree of so many nodes, of bushes that are as deep as they are wide.
func bushy(count int) tree.Node {
	n, have := node(tree.Plus), 1
	for ; have+3 <= count; have += 3 {
		n = node(tree.Plus, n, leaf(" ", "+", 0), node(tree.Block))
	}
	for ; have < count; have++ {
		n = node(tree.Paren, n)
	}
	return n
}

func TestAtMost20000Nodes(t *testing.T) {
	for name, build := range map[string]func(int) tree.Node{"flat": flat, "a chain": chain, "bushy": bushy} {
		for _, count := range []int{1, 2, most - 1, most} {
			n := build(count)
			if !tree.Right(n) || tree.Count(n) != count || !tree.Same(n, build(count)) {
				t.Errorf("%s of %d nodes: Right is %v, Count %d", name, count, tree.Right(n), tree.Count(n))
			}
			placed := tree.Place(n, 5)
			if !tree.Stands(placed, 5) || tree.Text(placed) != tree.Text(n) || tree.Count(tree.Strip(n)) != count {
				t.Errorf("%s of %d nodes isn't placed or stripped", name, count)
			}
		}
		for _, count := range []int{most + 1, most + 2, 3 * most} {
			refused(t, fmt.Sprintf("%s of %d nodes", name, count), build(count))
		}
		refused(t, name+" of 20000 nodes within another one", node(tree.Paren, build(most)))
		refused(t, name+" of 20000 nodes in all, the last one wrong", node(tree.File, build(most-2), node(tree.File+1<<40)))
	}
	if got := len(tree.Text(flat(most))); got != 13332 {
		t.Errorf("the flat one's text has %d bytes", got)
	}
	if got := len(slices.Collect(tree.Leaves(flat(most)))); got != 13332 {
		t.Errorf("the flat one has %d leaves", got)
	}
}

// A deep tree is walked through, and each of its nodes is on a path.
func TestDeepTree(t *testing.T) {
	n := chain(2000)
	want := 0
	for depth, x := range tree.Walk(n) {
		if depth != want || (x.Kind == tree.Leaf) != (depth == 1999) {
			t.Fatal(depth, x.Kind)
		}
		want++
	}
	if path := tree.Path(n, 0); want != 2000 || len(path) != 2000 || path[0] != tree.Paren || path[1999] != tree.Leaf {
		t.Error(want, len(path))
	}
	deep := chain(10000)
	if path := tree.Path(deep, 0); len(path) != 10000 {
		t.Error(len(path))
	}
	if !tree.Same(deep, tree.Place(deep, 0)) || !tree.Same(deep, tree.Strip(deep)) {
		t.Error("the deep tree isn't the same")
	}
	for range tree.Walk(deep) {
		break
	}
}

// Lists that share memory make trees that are far larger than what is handed in; all calls end at once.
func TestSharedLists(t *testing.T) {
	n := leaf("", "a", 0)
	for range 60 {
		n = node(tree.Plus, n, n)
	}
	refused(t, "doubled 60 times", n)
	loop := make([]tree.Node, 2)
	loop[0], loop[1] = leaf("", "a", 0), node(tree.Paren, loop...)
	loop[1].Kids = loop
	refused(t, "a list within itself", node(tree.File, loop...))
	twice := []tree.Node{leaf(" ", "a", 1)}
	asks(t, node(tree.Plus, node(tree.Ident, twice...), leaf("", "+", 2), node(tree.Ident, twice...)))
}

func TestStands(t *testing.T) {
	pair := func(a, b int) tree.Node {
		return node(tree.Not, leaf("", "!", a), node(tree.Ident, leaf("  ", "x", b)))
	}
	for _, c := range []struct {
		tree tree.Node
		from int
		want bool
	}{
		{pair(0, 3), 0, true}, {pair(0, 3), 1, false}, {pair(0, 3), -1, false}, {pair(0, 2), 0, false}, {pair(1, 3), 0, false},
		{pair(5, 8), 5, true}, {pair(5, 8), 4, false}, {pair(5, 8), 6, false}, {pair(5, 8), 0, false},
		{pair(far, far+3), far, true}, {pair(far+1, far+4), far + 1, true}, {pair(far+1, far+4), far, false},
		{leaf("", "a", 0), 0, true}, {leaf("  ", "a", 0), 0, false}, {leaf("  ", "a", 2), 0, true},
		{leaf("  ", "a", 0), -2, true}, {leaf("  ", "a", 1), -1, true}, {leaf("", "a", 0), -1, false}, {leaf(" ", "a", 0), -2, false},
		{leaf("", "a", math.MaxInt), math.MaxInt, true}, {leaf(" ", "a", 0), math.MaxInt, false},
		{leaf("", "a", 0), math.MinInt, false},
		{node(tree.File), 0, true}, {node(tree.File), -9, true}, {node(tree.File), math.MaxInt, true}, {node(tree.File, node(tree.Class)), math.MinInt, true},
	} {
		if got := tree.Stands(c.tree, c.from); got != c.want {
			t.Errorf("Stands(%s, %d) = %v", short(c.tree), c.from, got)
		}
	}
}

func TestPlace(t *testing.T) {
	for from, want := range map[int][]int{0: {1, 3, 8, 9, 11}, 10: {11, 13, 18, 19, 21}, far: {far + 1, far + 3, far + 8, far + 9, far + 11}} {
		if got := tree.Place(sum(), from); !slices.Equal(atsOf(got), want) || !equal(got, standing(sum(), from)) {
			t.Errorf("Place(%d) = %s", from, short(got))
		}
	}
	for _, from := range []int{-1, math.MinInt, far + 1, math.MaxInt} {
		for _, n := range []tree.Node{sum(), leaf("", "a", 0), node(tree.File)} {
			if got := tree.Place(n, from); !isZero(got) {
				t.Errorf("Place(%d) = %s", from, short(got))
			}
		}
	}
	for _, from := range []int{0, 1, far} {
		if got := tree.Place(node(tree.File, node(tree.Class)), from); !equal(got, node(tree.File, node(tree.Class))) {
			t.Errorf("without a leaf: Place(%d) = %s", from, short(got))
		}
		if got := tree.Place(leaf("  ", "ab", math.MaxInt), from); !equal(got, leaf("  ", "ab", from+2)) {
			t.Errorf("a leaf alone: Place(%d) = %s", from, short(got))
		}
	}
}

func TestStrip(t *testing.T) {
	want := node(tree.Plus,
		node(tree.Ident, leaf("", "ab", 0)),
		leaf("", "+", 0),
		node(tree.Paren, leaf("", "(", 0), node(tree.Number, leaf("", "1", 0)), leaf("", ")", 0)))
	got := tree.Strip(sum())
	if !equal(got, want) || tree.Text(got) != "ab+(1)" {
		t.Errorf("Strip = %s", short(got))
	}
	if !tree.Same(tree.Strip(got), got) || !tree.Same(tree.Strip(tree.Place(sum(), 77)), got) {
		t.Error("stripped trees differ")
	}
	if got := tree.Strip(leaf(" ", " ", far+7)); !equal(got, leaf("", " ", 0)) {
		t.Errorf("a leaf alone: %s", short(got))
	}
	if got := tree.Strip(node(tree.File)); !equal(got, node(tree.File)) {
		t.Errorf("no leaf: %s", short(got))
	}
}

func TestSame(t *testing.T) {
	id := func(k tree.Kind, gap, text string, at int) tree.Node {
		return node(tree.Plus, leaf("", "x", 0), node(k, leaf(gap, text, at)))
	}
	unlike := []tree.Node{
		id(tree.Ident, "", "a", 1), id(tree.This, "", "a", 1), id(tree.Ident, " ", "a", 1), id(tree.Ident, "", "b", 1), id(tree.Ident, "", "a", 2),
		id(tree.Ident, "", " a", 1), leaf("", "a", 0), leaf("", "a", 1), leaf(" ", "a", 1), leaf("a", " ", 1), node(tree.Ident), node(tree.This),
		node(tree.Plus, leaf("", "x", 0)), node(tree.Plus, leaf("", "x", 0), node(tree.Ident)),
		node(tree.Plus, node(tree.Ident, leaf("", "a", 1)), leaf("", "x", 0)),
		node(tree.Plus, leaf("", "x", 0), node(tree.Ident, leaf("", "a", 1)), node(tree.Ident)),
		node(tree.Plus, leaf("", "x", 0), leaf("", "a", 1)), node(tree.Paren, id(tree.Ident, "", "a", 1)), sum(), each(),
	}
	for i, a := range unlike {
		for j, b := range unlike {
			if got := tree.Same(a, cloned(b)); got != (i == j) {
				t.Errorf("Same(%s, %s) = %v", short(a), short(b), got)
			}
		}
	}
	none := tree.Node{Kind: tree.Leaf, Text: "a", Kids: []tree.Node{}}
	if !tree.Same(none, leaf("", "a", 0)) || !tree.Same(leaf("", "a", 0), none) {
		t.Error("an empty list isn't the same as none")
	}
}

// smalls are all trees of up to so many nodes, of a few leaves with places that lie this way and that, and of nodes of a few kinds.
func smalls(size int) []tree.Node {
	out := []tree.Node{leaf("", "a", 0), leaf(" ", "bc", 2), leaf("\n ", "ab", 1), node(tree.File)}
	for _, list := range forests(size - 1) {
		out = append(out, node(tree.Paren, list...))
	}
	return out
}

// forests are all lists, of one tree or more, of up to so many nodes in all.
func forests(size int) [][]tree.Node {
	var out [][]tree.Node
	if size < 1 {
		return nil
	}
	for _, n := range smalls(size) {
		out = append(out, []tree.Node{n})
		for _, more := range forests(size - len(walkByWords(n, 0))) {
			out = append(out, append([]tree.Node{n}, more...))
		}
	}
	return out
}

func TestSmallTrees(t *testing.T) {
	list := smalls(6)
	for _, n := range list {
		if asks(t, n); t.Failed() {
			return
		}
	}
	if len(list) < 5000 {
		t.Error("there are but", len(list))
	}
}

// What an iterator tells is taken by functions, not by loops, so that one that goes on when it was left is found out.
func TestLeftEarly(t *testing.T) {
	for _, n := range []tree.Node{leaf("", "a", 0), node(tree.File), sum(), each()} {
		for stop := 1; stop <= tree.Count(n); stop++ {
			told := 0
			tree.Walk(n)(func(int, tree.Node) bool { told++; return told < stop })
			if told != stop {
				t.Errorf("%s: left at node %d, the walk came to %d", short(n), stop, told)
			}
		}
		for stop := 1; stop <= len(leavesByWords(n)); stop++ {
			told := 0
			tree.Leaves(n)(func(tree.Node) bool { told++; return told < stop })
			if told != stop {
				t.Errorf("%s: left at leaf %d, there came %d", short(n), stop, told)
			}
		}
	}
	var got []string
	for l := range tree.Leaves(sum()) {
		if got = append(got, l.Text); l.Text == "+" {
			break
		}
	}
	for depth, x := range tree.Walk(sum()) {
		if got = append(got, x.Text); depth == 2 {
			break
		}
	}
	if !slices.Equal(got, []string{"ab", "+", "", "", "ab"}) {
		t.Errorf("%q", got)
	}
}

func TestGoneThroughTwice(t *testing.T) {
	n := sum()
	walk, leaves := tree.Walk(n), tree.Leaves(n)
	for range walk {
		break
	}
	for range leaves {
		break
	}
	for range 2 {
		var got []step
		for depth, x := range walk {
			got = append(got, step{depth, x})
			inner := 0
			for range walk {
				inner++
			}
			if inner != 9 {
				t.Error("the walk within the walk has steps:", inner)
			}
		}
		if !reflect.DeepEqual(got, walkByWords(sum(), 0)) {
			t.Errorf("the walk is %s", short(got))
		}
		if got := slices.Collect(leaves); !slices.EqualFunc(got, leavesByWords(sum()), equal) {
			t.Errorf("the leaves are %s", short(got))
		}
	}
}

// roomy is a tree each of whose lists, the leaves' too, has spare room behind it, and all these lists with their room.
func roomy(n tree.Node) (tree.Node, [][]tree.Node) {
	var rooms [][]tree.Node
	room := make([]tree.Node, len(n.Kids)+2)
	for i, k := range n.Kids {
		kid, more := roomy(k)
		room[i] = kid
		rooms = append(rooms, more...)
	}
	for i := len(n.Kids); i < len(room); i++ {
		room[i] = leaf("spare", "room", i)
	}
	n.Kids = room[:len(n.Kids)]
	return n, append(rooms, room)
}

// spoil changes all of a tree, and what room its lists have.
func spoil(n *tree.Node) {
	for i := range n.Kids {
		spoil(&n.Kids[i])
	}
	room := n.Kids[:cap(n.Kids)]
	for i := range room {
		room[i] = tree.Node{Kind: -7, Gap: "spoilt", Text: "spoilt", At: -7}
	}
	n.Kind, n.Text = -7, "spoilt"
}

// makers are the calls that answer trees, each with one answer as the list of its trees.
func makers() map[string]func(tree.Node) []tree.Node {
	return map[string]func(tree.Node) []tree.Node{
		"Make":   func(n tree.Node) []tree.Node { return []tree.Node{tree.Make(tree.Paren, n, leaf("", ")", 1), n)} },
		"Make..": func(n tree.Node) []tree.Node { return []tree.Node{tree.Make(n.Kind, n.Kids...)} },
		"Place":  func(n tree.Node) []tree.Node { return []tree.Node{tree.Place(n, 3)} },
		"Strip":  func(n tree.Node) []tree.Node { return []tree.Node{tree.Strip(n)} },
		"Leaves": func(n tree.Node) []tree.Node { return slices.Collect(tree.Leaves(n)) },
		"Walk": func(n tree.Node) []tree.Node {
			var out []tree.Node
			for _, x := range tree.Walk(n) {
				out = append(out, x)
			}
			return out
		},
	}
}

func samples() []tree.Node {
	return []tree.Node{leaf(" ", "a", 1), node(tree.File), sum(), each(), node(tree.Plus, sum(), node(tree.Block), sum())}
}

func TestArgumentsStay(t *testing.T) {
	list := samples()
	for _, n := range wrongs() {
		list = append(list, n, node(tree.Paren, sum(), n))
	}
	for _, sample := range list {
		n, rooms := roomy(sample)
		other, _ := roomy(sample)
		var was [][]tree.Node
		for _, room := range rooms {
			was = append(was, slices.Clone(room))
		}
		for _, call := range makers() {
			call(n)
		}
		tree.Right(n)
		tree.Text(n)
		tree.Stands(n, 0)
		tree.Span(n)
		tree.Path(n, 1)
		tree.Same(n, other)
		tree.Count(n)
		if !reflect.DeepEqual(rooms, was) {
			t.Errorf("%s was changed", short(sample))
		}
	}
}

func TestAnswersAreNew(t *testing.T) {
	for name, call := range makers() {
		for _, sample := range samples() {
			want := call(cloned(sample))
			n, rooms := roomy(sample)
			got := call(n)
			for i := range got {
				spoil(&got[i])
			}
			if !equal(n, sample) || slices.ContainsFunc(rooms, func(room []tree.Node) bool {
				return room[len(room)-1].Text != "room" || room[len(room)-2].Text != "room"
			}) {
				t.Errorf("%s of %s: the answer shares memory with the tree", name, short(sample))
			}
			got = call(n)
			spoil(&n)
			if !slices.EqualFunc(got, want, equal) {
				t.Errorf("%s of %s: the answer hangs on the tree: %s", name, short(sample), short(got))
			}
		}
	}
}

// Lists are taken with their spare room.
func TestListsOfOneAnswerShareNothing(t *testing.T) {
	for name, call := range makers() {
		for _, sample := range samples() {
			seen := map[*tree.Node]int{}
			for _, n := range call(sample) {
				for _, s := range walkByWords(n, 0) {
					room := s.node.Kids[:cap(s.node.Kids)]
					for i := range room {
						seen[&room[i]]++
					}
				}
			}
			for _, times := range seen {
				if times > 1 {
					t.Fatalf("%s of %s: a place in memory is in %d lists", name, short(sample), times)
				}
			}
		}
	}
	path := tree.Path(sum(), 9)
	for i := range path[:cap(path)] {
		path[:cap(path)][i] = -7
	}
	if again := tree.Path(sum(), 9); !slices.Equal(again, []tree.Kind{tree.Plus, tree.Paren, tree.Number, tree.Leaf}) {
		t.Error("asked again:", again)
	}
}

// Whoever ranges later, or changes what the loop is told or the tree, is told of the tree as it was handed in.
func TestIteratorsKeepNoTree(t *testing.T) {
	ways := map[string]func(n *tree.Node, told *tree.Node){
		"the tree":     func(n, told *tree.Node) { spoil(n) },
		"what is told": func(n, told *tree.Node) { spoil(told) },
		"both":         func(n, told *tree.Node) { spoil(told); spoil(n) },
	}
	want := walkByWords(sum(), 0)
	for name, change := range ways {
		n, _ := roomy(sum())
		walk := tree.Walk(n)
		for range 2 {
			i := 0
			for depth, x := range walk {
				if depth != want[i].depth || !equal(x, want[i].node) {
					t.Fatalf("%s changed: the walk comes to %s at the depth %d, step %d", name, short(x), depth, i)
				}
				change(&n, &x)
				i++
			}
		}
		n, _ = roomy(sum())
		leaves := tree.Leaves(n)
		for range 2 {
			var got []string
			for l := range leaves {
				got = append(got, l.Gap+l.Text)
				change(&n, &l)
			}
			if !slices.Equal(got, []string{" ab", "+", "/**/(", "1", " )"}) {
				t.Errorf("%s changed: the leaves are %q", name, got)
			}
		}
	}
	n := sum()
	walk, leaves := tree.Walk(n), tree.Leaves(n)
	spoil(&n)
	if got := len(slices.Collect(leaves)); got != 5 {
		t.Error("changed ahead of the loop: leaves:", got)
	}
	for depth, x := range walk {
		if depth != 0 || !equal(x, sum()) {
			t.Error("changed ahead of the loop:", depth, short(x))
		}
		break
	}
	wrong := node(tree.File, leaf("", "", 0))
	walk, leaves = tree.Walk(wrong), tree.Leaves(wrong)
	wrong.Kids[0].Text = "a"
	for range walk {
		t.Error("the tree wasn't right when it was handed in")
	}
	for range leaves {
		t.Error("the tree wasn't right when it was handed in")
	}
}

// Of a tree that was placed: it stands right, has the same text, and the leaves' gaps and texts are that text.
func TestPlacedTreesLoseNothing(t *testing.T) {
	for _, sample := range append(samples(), chain(50), flat(50), bushy(50)) {
		for _, from := range []int{0, 1, 4000, far} {
			placed := tree.Place(sample, from)
			var text strings.Builder
			for l := range tree.Leaves(placed) {
				text.WriteString(l.Gap)
				if l.At != from+text.Len() {
					t.Errorf("%s: placed from %d on, %q stands at %d", short(sample), from, l.Text, l.At)
				}
				text.WriteString(l.Text)
			}
			if !tree.Right(placed) || !tree.Stands(placed, from) || tree.Text(placed) != tree.Text(sample) || text.String() != tree.Text(sample) {
				t.Errorf("%s: placed from %d on: %s", short(sample), from, short(placed))
			}
			if !tree.Same(tree.Strip(placed), tree.Strip(sample)) || !tree.Same(tree.Place(placed, from), placed) {
				t.Errorf("%s: placed from %d on it is another tree", short(sample), from)
			}
		}
	}
}
