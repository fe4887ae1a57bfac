package stmt_test

import (
	"fmt"
	"math/rand"
	"reflect"
	"slices"
	"strings"
	"testing"

	"namesake/api"
	"namesake/cursor"
	"namesake/expr"
	"namesake/lex"
	"namesake/stmt"
	"namesake/tree"
)

const (
	mostBytes = 4000
	mostDeep  = 200
	printer   = "System.out.println"
)

func leaf(gap, text string, at int) tree.Node {
	return tree.Node{Kind: tree.Leaf, Gap: gap, Text: text, At: at}
}

func node(kind tree.Kind, kids ...tree.Node) tree.Node {
	return tree.Node{Kind: kind, Kids: kids}
}

func ident(gap, text string, at int) tree.Node { return node(tree.Ident, leaf(gap, text, at)) }

func equal(a, b tree.Node) bool {
	return a.Kind == b.Kind && a.Gap == b.Gap && a.Text == b.Text && a.At == b.At && slices.EqualFunc(a.Kids, b.Kids, equal)
}

func equals(a, b []tree.Node) bool { return slices.EqualFunc(a, b, equal) }

// zero tells whether nothing is there, not even an empty list.
func zero(n tree.Node) bool { return reflect.DeepEqual(n, tree.Node{}) }

var kinds = map[string]tree.Kind{
	"Var": tree.Var, "Type": tree.Type, "Block": tree.Block, "If": tree.If, "While": tree.While, "Print": tree.Print, "Assign": tree.Assign, "Store": tree.Store,
	"And": tree.And, "Less": tree.Less, "Plus": tree.Plus, "Minus": tree.Minus, "Times": tree.Times, "Not": tree.Not, "Index": tree.Index, "Length": tree.Length,
	"Call": tree.Call, "Number": tree.Number, "True": tree.True, "False": tree.False, "Ident": tree.Ident, "This": tree.This, "Array": tree.Array, "Object": tree.Object, "Paren": tree.Paren,
}

// shape is a tree as a text: of each node its kind and its kids, but of an Ident and a Number its text alone.
func shape(n tree.Node) string {
	if n.Kind == tree.Leaf {
		return n.Text
	}
	if (n.Kind == tree.Ident || n.Kind == tree.Number) && len(n.Kids) == 1 {
		return n.Kids[0].Text
	}
	list := []string{"?"}
	for name, kind := range kinds {
		if kind == n.Kind {
			list[0] = name
		}
	}
	for _, k := range n.Kids {
		list = append(list, shape(k))
	}
	return "<" + strings.Join(list, " ") + ">"
}

func shapes(list []tree.Node) string {
	var out []string
	for _, n := range list {
		out = append(out, shape(n))
	}
	return strings.Join(out, " ")
}

func short(list []tree.Node) string { return fmt.Sprintf("%.300s", shapes(list)) }

// sample is a clean text by its tokens.
type sample struct {
	leaves []tree.Node
	end    string
}

func (s sample) text() string {
	var text strings.Builder
	for _, l := range s.leaves {
		text.WriteString(l.Gap + l.Text)
	}
	return text.String() + s.end
}

// begin is where a token of a sample begins, and the text's length if there is none of that number.
func (s sample) begin(n int) int {
	if n < len(s.leaves) {
		return s.leaves[n].At
	}
	return len(s.text())
}

// wordy tells whether a token could grow together with a word beside it.
func wordy(c byte) bool {
	return 'a' <= c && c <= 'z' || 'A' <= c && c <= 'Z' || '0' <= c && c <= '9' || c == '_'
}

// spaced are tokens with the gaps given in turn; a gap that would be empty between two words is a blank.
func spaced(tokens []string, gaps ...string) sample {
	var s sample
	at := 0
	for i, text := range tokens {
		gap := gaps[i%len(gaps)]
		if i > 0 && gap == "" && wordy(text[0]) && wordy(tokens[i-1][len(tokens[i-1])-1]) {
			gap = " "
		}
		at += len(gap)
		s.leaves = append(s.leaves, leaf(gap, text, at))
		at += len(text)
	}
	s.end = gaps[len(tokens)%len(gaps)]
	return s
}

// gaps are those with which samples are written.
func gaps() [][]string {
	return [][]string{{""}, {" "}, {"/* { ; */"}, {"// int a;\n"}, {"", " ", "\t\r\n", "", "/**/ //}\n "}}
}

// ready is a cursor that has taken some tokens and is within some constructs.
func ready(t *testing.T, s sample, taken, base int) *cursor.Cursor {
	t.Helper()
	c, at, err := cursor.New(s.text())
	if err != nil {
		t.Fatalf("New(%.300q): %d, %v", s.text(), at, err)
	}
	for range base {
		c.Down()
	}
	for range taken {
		kind, _ := c.Peek(0)
		c.Any(kind)
	}
	return c
}

// automaton goes through a sample with a stack of what must come, and tells what is read of it, or where it fails.
// On the stack lie tokens' texts and words in capitals, each of which stands for a line of the chapter; <Kind begins a node, > ends it, ^ is one construct less.
type automaton struct {
	s     sample
	next  int
	deep  int
	stack []string
	open  []tree.Node // nodes that are begun, behind one that holds all
	place int
	fault error
}

// follow goes through a sample from a token on, within some constructs.
func follow(t *testing.T, s sample, from, base int, goal string) *automaton {
	t.Helper()
	a := &automaton{s: s, next: from, deep: base, open: make([]tree.Node, 1)}
	a.push(goal)
	for len(a.stack) > 0 && a.fault == nil {
		top := a.stack[len(a.stack)-1]
		a.stack = a.stack[:len(a.stack)-1]
		if top == "EXPR" {
			a.expression(t)
		} else {
			a.step(top)
		}
	}
	return a
}

// push lays a line onto the stack, its first word on top.
func (a *automaton) push(line string) {
	words := strings.Fields(line)
	slices.Reverse(words)
	a.stack = append(a.stack, words...)
}

// ahead is the text of a token ahead.
func (a *automaton) ahead(n int) string {
	if a.next+n < len(a.s.leaves) {
		return a.s.leaves[a.next+n].Text
	}
	return ""
}

func isName(text string) bool { return text != "" && lex.List(text)[0].Kind == lex.Name }

func (a *automaton) fail(err error) { a.place, a.fault = a.s.begin(a.next), err }

func (a *automaton) add(n tree.Node) {
	last := &a.open[len(a.open)-1]
	last.Kids = append(last.Kids, n)
}

func (a *automaton) step(top string) {
	switch {
	case top == "TYPE":
		a.push(a.typed())
	case top == "VAR":
		a.push("<Var TYPE NAME ; >")
	case top == "VARS":
		if x := a.ahead(0); x == "int" || x == "boolean" || isName(x) && isName(a.ahead(1)) {
			a.push("VAR VARS")
		}
	case top == "STMTS":
		if x := a.ahead(0); x == "{" || x == "if" || x == "while" || x == printer || isName(x) {
			a.push("STMT STMTS")
		}
	case top == "STMT" && a.deep == mostDeep:
		a.fail(api.ErrDeep)
	case top == "STMT":
		a.deep++
		a.push(a.statement() + " ^")
	case top == "^":
		a.deep--
	case top[0] == '<':
		a.open = append(a.open, node(kinds[top[1:]]))
	case top == ">":
		n := a.open[len(a.open)-1]
		a.open = a.open[:len(a.open)-1]
		a.add(n)
	case top == "END" && a.next == len(a.s.leaves):
	case a.ahead(0) == top || top == "NAME" && isName(a.ahead(0)):
		a.add(a.s.leaves[a.next])
		a.next++
	default:
		a.fail(api.ErrForm)
	}
}

func (a *automaton) typed() string {
	switch x := a.ahead(0); {
	case x == "int" && a.ahead(1) == "[":
		return "<Type int [ ] >"
	case x == "int" || x == "boolean":
		return "<Type " + x + " >"
	}
	return "<Type NAME >"
}

func (a *automaton) statement() string {
	switch a.ahead(0) {
	case "{":
		return "<Block { STMTS } >"
	case "if":
		return "<If if ( EXPR ) STMT else STMT >"
	case "while":
		return "<While while ( EXPR ) STMT >"
	case printer:
		return "<Print " + printer + " ( EXPR ) ; >"
	}
	if a.ahead(1) == "[" {
		return "<Store NAME [ EXPR ] = EXPR ; >"
	}
	return "<Assign NAME = EXPR ; >"
}

// expression takes what layer 9 reads.
func (a *automaton) expression(t *testing.T) {
	t.Helper()
	c := ready(t, a.s, a.next, a.deep)
	n := expr.Parse(c)
	a.place, a.fault = c.Failed()
	a.next = len(a.s.leaves) - c.Left()
	a.add(n)
}

// call is one of the calls that read from a cursor, and what the automaton is to look for.
type call struct {
	name, goal string
	list       func(*cursor.Cursor) []tree.Node // of Vars and Stmts
	one        func(*cursor.Cursor) tree.Node   // of the others
}

func calls() []call {
	return []call{
		{"Type", "TYPE", nil, stmt.Type},
		{"Var", "VAR", nil, stmt.Var},
		{"Stmt", "STMT", nil, stmt.Stmt},
		{"Vars", "VARS", stmt.Vars, nil},
		{"Stmts", "STMTS", stmt.Stmts, nil},
	}
}

// do is what a call answers, as a list, and whether nothing is answered.
func (x call) do(c *cursor.Cursor) (list []tree.Node, none bool) {
	if x.one == nil {
		list = x.list(c)
		return list, len(list) == 0
	}
	n := x.one(c)
	return []tree.Node{n}, zero(n)
}

// asks holds all calls at a sample's beginning against the automaton.
func asks(t *testing.T, s sample) {
	t.Helper()
	asksRead(t, s)
	for _, x := range calls() {
		asksCall(t, x, s, 0, 0)
	}
}

func asksRead(t *testing.T, s sample) {
	t.Helper()
	want := follow(t, s, 0, 0, "VARS STMTS END")
	list, end, at, err := stmt.Read(s.text())
	if want.fault != nil {
		if len(list) != 0 || end != "" || at != want.place || err != want.fault {
			t.Errorf("Read(%.300q) = %s, %q, %d, %v, want %d, %v", s.text(), short(list), end, at, err, want.place, want.fault)
		}
		return
	}
	if !equals(list, want.open[0].Kids) || end != s.end || at != 0 || err != nil {
		t.Errorf("Read(%.300q) = %s, %q, %d, %v, want %s, %q", s.text(), short(list), end, at, err, short(want.open[0].Kids), s.end)
	}
	asksStands(t, list, end, s.text())
}

// asksStands asks that trees stand right, one behind the other, and with what stands behind are the text.
func asksStands(t *testing.T, list []tree.Node, end, s string) {
	t.Helper()
	at := 0
	for _, n := range list {
		if !tree.Right(n) || !tree.Stands(n, at) || tree.Place(n, at).Kind != n.Kind {
			t.Errorf("%.300q: %s is right: %v, it stands right from %d on: %v", s, short([]tree.Node{n}), tree.Right(n), at, tree.Stands(n, at))
		}
		at += len(tree.Text(n))
	}
	if text := tree.Text(tree.Make(tree.File, list...)); text+end != s {
		t.Errorf("%.300q: the text is %.300q and %q", s, text, end)
	}
}

// asksCall holds a call against the automaton, from a token on and within some constructs.
func asksCall(t *testing.T, x call, s sample, from, base int) {
	t.Helper()
	want := follow(t, s, from, base, x.goal)
	c := ready(t, s, from, base)
	list, none := x.do(c)
	at, err := c.Failed()
	if c.Deep() != base {
		t.Errorf("%s of %.300q from token %d on, within %d: within %d then", x.name, s.text(), from, base, c.Deep())
	}
	if want.fault != nil {
		if !none || at != want.place || err != want.fault || c.Left() != 0 || c.At() != len(s.text()) || c.End() != "" {
			t.Errorf("%s of %.300q from token %d on, within %d: %s, %d, %v, want %d, %v", x.name, s.text(), from, base, short(list), at, err, want.place, want.fault)
		}
		return
	}
	if !equals(list, want.open[0].Kids) || at != 0 || err != nil {
		t.Errorf("%s of %.300q from token %d on, within %d: %s, %d, %v, want %s", x.name, s.text(), from, base, short(list), at, err, short(want.open[0].Kids))
	}
	asksBehind(t, x, s, want.next, c)
}

// asksBehind asks that a cursor stands ahead of a token, and takes it with the gap that it has.
func asksBehind(t *testing.T, x call, s sample, next int, c *cursor.Cursor) {
	t.Helper()
	if c.Left() != len(s.leaves)-next || c.At() != s.begin(next) {
		t.Errorf("%s of %.300q: %d left, at %d, want %d, at %d", x.name, s.text(), c.Left(), c.At(), len(s.leaves)-next, s.begin(next))
		return
	}
	if next == len(s.leaves) {
		if c.End() != s.end {
			t.Errorf("%s of %.300q: End = %q, want %q", x.name, s.text(), c.End(), s.end)
		}
		return
	}
	kind, _ := c.Peek(0)
	if l := c.Any(kind); !equal(l, s.leaves[next]) {
		t.Errorf("%s of %.300q: behind it stands %+v, want %+v", x.name, s.text(), l, s.leaves[next])
	}
}

// refused asks where a text fails, and with what.
func refused(t *testing.T, s string, place int, fault error) {
	t.Helper()
	if list, end, at, err := stmt.Read(s); len(list) != 0 || end != "" || at != place || err != fault {
		t.Errorf("Read(%.100q) = %s, %q, %d, %v, want %d, %v", s, short(list), end, at, err, place, fault)
	}
}

// whole asks that a text is read.
func whole(t *testing.T, s string) {
	t.Helper()
	list, end, at, err := stmt.Read(s)
	if at != 0 || err != nil {
		t.Errorf("Read(%.100q) = %s, %q, %d, %v", s, short(list), end, at, err)
	}
	asksStands(t, list, end, s)
}

func TestChapterExamples(t *testing.T) {
	list, end, at, err := stmt.Read("int a; a = 1;")
	want := []tree.Node{
		node(tree.Var, node(tree.Type, leaf("", "int", 0)), leaf(" ", "a", 4), leaf("", ";", 5)),
		node(tree.Assign, leaf(" ", "a", 7), leaf(" ", "=", 9), node(tree.Number, leaf(" ", "1", 11)), leaf("", ";", 12)),
	}
	if !reflect.DeepEqual(list, want) || end != "" || at != 0 || err != nil {
		t.Errorf("%+v, %q, %d, %v", list, end, at, err)
	}
	refused(t, "a = 1 int b;", 6, api.ErrForm)
}

// Each type alone, with each leaf's gap, text and place.
func TestTypesWrittenOut(t *testing.T) {
	for _, x := range []struct {
		s    string
		want tree.Node
		left int
		at   int
	}{
		{"int", node(tree.Type, leaf("", "int", 0)), 0, 3},
		{" int // a\n", node(tree.Type, leaf(" ", "int", 1)), 0, 10},
		{"int a", node(tree.Type, leaf("", "int", 0)), 1, 4},
		{"int ]", node(tree.Type, leaf("", "int", 0)), 1, 4},
		{"int[]", node(tree.Type, leaf("", "int", 0), leaf("", "[", 3), leaf("", "]", 4)), 0, 5},
		{"int /*[]*/ [\t]a;", node(tree.Type, leaf("", "int", 0), leaf(" /*[]*/ ", "[", 11), leaf("\t", "]", 13)), 2, 14},
		{"int[][]", node(tree.Type, leaf("", "int", 0), leaf("", "[", 3), leaf("", "]", 4)), 2, 5},
		{"boolean", node(tree.Type, leaf("", "boolean", 0)), 0, 7},
		{"//\nboolean[]", node(tree.Type, leaf("//\n", "boolean", 3)), 2, 10},
		{"A", node(tree.Type, leaf("", "A", 0)), 0, 1},
		{"/**/_1 [ ]", node(tree.Type, leaf("/**/", "_1", 4)), 2, 7},
		{"System.out", node(tree.Type, leaf("", "System", 0)), 2, 6},
	} {
		c, _, err := cursor.New(x.s)
		if err != nil {
			t.Fatal(x.s, err)
		}
		n := stmt.Type(c)
		if _, err := c.Failed(); !reflect.DeepEqual(n, x.want) || err != nil || c.Left() != x.left || c.At() != x.at || c.Deep() != 0 {
			t.Errorf("%q: %+v, %v, %d left, at %d", x.s, n, err, c.Left(), c.At())
		}
	}
}

// Each variable alone, with each leaf's gap, text and place.
func TestVariablesWrittenOut(t *testing.T) {
	for _, x := range []struct {
		s, end string
		want   tree.Node
	}{
		{"int a;", "", node(tree.Var, node(tree.Type, leaf("", "int", 0)), leaf(" ", "a", 4), leaf("", ";", 5))},
		{"int[]a;", "", node(tree.Var, node(tree.Type, leaf("", "int", 0), leaf("", "[", 3), leaf("", "]", 4)), leaf("", "a", 5), leaf("", ";", 6))},
		{" int [ ] b ; ", " ", node(tree.Var, node(tree.Type, leaf(" ", "int", 1), leaf(" ", "[", 5), leaf(" ", "]", 7)), leaf(" ", "b", 9), leaf(" ", ";", 11))},
		{"boolean// c\nb;//", "//", node(tree.Var, node(tree.Type, leaf("", "boolean", 0)), leaf("// c\n", "b", 12), leaf("", ";", 13))},
		{"A a;", "", node(tree.Var, node(tree.Type, leaf("", "A", 0)), leaf(" ", "a", 2), leaf("", ";", 3))},
		{"A/* = */A\n;", "", node(tree.Var, node(tree.Type, leaf("", "A", 0)), leaf("/* = */", "A", 8), leaf("\n", ";", 10))},
		{"System out;", "", node(tree.Var, node(tree.Type, leaf("", "System", 0)), leaf(" ", "out", 7), leaf("", ";", 10))},
	} {
		list, end, at, err := stmt.Read(x.s)
		if !reflect.DeepEqual(list, []tree.Node{x.want}) || end != x.end || at != 0 || err != nil {
			t.Errorf("Read(%q) = %+v, %q, %d, %v", x.s, list, end, at, err)
		}
		c, _, _ := cursor.New(x.s)
		if n := stmt.Var(c); !reflect.DeepEqual(n, x.want) || c.Left() != 0 || c.End() != x.end {
			t.Errorf("Var of %q: %+v, %d left", x.s, n, c.Left())
		}
		c, _, _ = cursor.New(x.s)
		if list := stmt.Vars(c); !reflect.DeepEqual(list, []tree.Node{x.want}) || c.Left() != 0 || c.End() != x.end {
			t.Errorf("Vars of %q: %+v, %d left", x.s, list, c.Left())
		}
	}
}

// Each statement alone, with each leaf's gap, text and place.
func TestStatementsWrittenOut(t *testing.T) {
	for _, x := range []struct {
		s, end string
		want   tree.Node
	}{
		{"{}", "", node(tree.Block, leaf("", "{", 0), leaf("", "}", 1))},
		{" {// }\n} /* { */", " /* { */", node(tree.Block, leaf(" ", "{", 1), leaf("// }\n", "}", 7))},
		{"{a=b;}", "", node(tree.Block, leaf("", "{", 0),
			node(tree.Assign, leaf("", "a", 1), leaf("", "=", 2), ident("", "b", 3), leaf("", ";", 4)), leaf("", "}", 5))},
		{"{a=b; {} c=d;}", "", node(tree.Block, leaf("", "{", 0),
			node(tree.Assign, leaf("", "a", 1), leaf("", "=", 2), ident("", "b", 3), leaf("", ";", 4)),
			node(tree.Block, leaf(" ", "{", 6), leaf("", "}", 7)),
			node(tree.Assign, leaf(" ", "c", 9), leaf("", "=", 10), ident("", "d", 11), leaf("", ";", 12)), leaf("", "}", 13))},
		{"if (a) {} else b = c;", "", node(tree.If, leaf("", "if", 0), leaf(" ", "(", 3), ident("", "a", 4), leaf("", ")", 5),
			node(tree.Block, leaf(" ", "{", 7), leaf("", "}", 8)), leaf(" ", "else", 10),
			node(tree.Assign, leaf(" ", "b", 15), leaf(" ", "=", 17), ident(" ", "c", 19), leaf("", ";", 20)))},
		{"while/*(*/(a\n)b=c;", "", node(tree.While, leaf("", "while", 0), leaf("/*(*/", "(", 10), ident("", "a", 11), leaf("\n", ")", 13),
			node(tree.Assign, leaf("", "b", 14), leaf("", "=", 15), ident("", "c", 16), leaf("", ";", 17)))},
		{printer + "(7);\n", "\n", node(tree.Print, leaf("", printer, 0), leaf("", "(", 18), node(tree.Number, leaf("", "7", 19)), leaf("", ")", 20), leaf("", ";", 21))},
		{"\t" + printer + " ( a ) ;", "", node(tree.Print, leaf("\t", printer, 1), leaf(" ", "(", 20), ident(" ", "a", 22), leaf(" ", ")", 24), leaf(" ", ";", 26))},
		{"a=b;", "", node(tree.Assign, leaf("", "a", 0), leaf("", "=", 1), ident("", "b", 2), leaf("", ";", 3))},
		{"a // =\n= true ;", "", node(tree.Assign, leaf("", "a", 0), leaf(" // =\n", "=", 7), node(tree.True, leaf(" ", "true", 9)), leaf(" ", ";", 14))},
		{"a[b]=c;", "", node(tree.Store, leaf("", "a", 0), leaf("", "[", 1), ident("", "b", 2), leaf("", "]", 3), leaf("", "=", 4), ident("", "c", 5), leaf("", ";", 6))},
		{"a [ 0 ] = b /*;*/;", "", node(tree.Store, leaf("", "a", 0), leaf(" ", "[", 2), node(tree.Number, leaf(" ", "0", 4)), leaf(" ", "]", 6), leaf(" ", "=", 8), ident(" ", "b", 10), leaf(" /*;*/", ";", 17))},
	} {
		list, end, at, err := stmt.Read(x.s)
		if !reflect.DeepEqual(list, []tree.Node{x.want}) || end != x.end || at != 0 || err != nil {
			t.Errorf("Read(%q) = %+v, %q, %d, %v", x.s, list, end, at, err)
		}
		c, _, _ := cursor.New(x.s)
		if n := stmt.Stmt(c); !reflect.DeepEqual(n, x.want) || c.Left() != 0 || c.End() != x.end || c.Deep() != 0 {
			t.Errorf("Stmt of %q: %+v, %d left", x.s, n, c.Left())
		}
		c, _, _ = cursor.New(x.s)
		if list := stmt.Stmts(c); !reflect.DeepEqual(list, []tree.Node{x.want}) || c.Left() != 0 || c.End() != x.end {
			t.Errorf("Stmts of %q: %+v, %d left", x.s, list, c.Left())
		}
	}
}

// What stands one behind the other and within one another, by its shapes.
func TestShapes(t *testing.T) {
	for _, x := range [][2]string{
		{"", ""},
		{"int a; int[] b; boolean c; D d;", "<Var <Type int> a ;> <Var <Type int [ ]> b ;> <Var <Type boolean> c ;> <Var <Type D> d ;>"},
		{"A a; A b; A = b; a = A;", "<Var <Type A> a ;> <Var <Type A> b ;> <Assign A = b ;> <Assign a = A ;>"},
		{"A a; A[b] = c;", "<Var <Type A> a ;> <Store A [ b ] = c ;>"},
		{"int a; {} b = c;", "<Var <Type int> a ;> <Block { }> <Assign b = c ;>"},
		{"System System; System = System;", "<Var <Type System> System ;> <Assign System = System ;>"},
		{"a = b; a = c; {} b[0] = 1;", "<Assign a = b ;> <Assign a = c ;> <Block { }> <Store b [ 0 ] = 1 ;>"},
		{"{} {} {}", "<Block { }> <Block { }> <Block { }>"},
		{"{ { a = b; } {} { { c = d; } e = f; } }", "<Block { <Block { <Assign a = b ;> }> <Block { }> <Block { <Block { <Assign c = d ;> }> <Assign e = f ;> }> }>"},
		{"if (a) b = c; else if (d) e = f; else {}", "<If if ( a ) <Assign b = c ;> else <If if ( d ) <Assign e = f ;> else <Block { }>>>"},
		{"if (a) if (b) c = d; else e = f; else g = h;", "<If if ( a ) <If if ( b ) <Assign c = d ;> else <Assign e = f ;>> else <Assign g = h ;>>"},
		{"if (a) if (b) {} else if (c) {} else {} else {}", "<If if ( a ) <If if ( b ) <Block { }> else <If if ( c ) <Block { }> else <Block { }>>> else <Block { }>>"},
		{"if (a) while (b) c = d; else while (e) {}", "<If if ( a ) <While while ( b ) <Assign c = d ;>> else <While while ( e ) <Block { }>>>"},
		{"if (a) while (b) if (c) {} else {} else {}", "<If if ( a ) <While while ( b ) <If if ( c ) <Block { }> else <Block { }>>> else <Block { }>>"},
		{"if (a) " + printer + "(b); else c[d] = e;", "<If if ( a ) <Print " + printer + " ( b ) ;> else <Store c [ d ] = e ;>>"},
		{"while (a) while (b) {} {}", "<While while ( a ) <While while ( b ) <Block { }>>> <Block { }>"},
		{"while (a) { b = c; " + printer + "(d); }", "<While while ( a ) <Block { <Assign b = c ;> <Print " + printer + " ( d ) ;> }>>"},
		{"while ((a)) {} if ((b)) {} else {}", "<While while ( <Paren ( a )> ) <Block { }>> <If if ( <Paren ( b )> ) <Block { }> else <Block { }>>"},
		{printer + "((a)); " + printer + "(a.m(b));", "<Print " + printer + " ( <Paren ( a )> ) ;> <Print " + printer + " ( <Call a . m ( b )> ) ;>"},
		{"a[b[0]] = c[d];", "<Store a [ <Index b [ 0 ]> ] = <Index c [ d ]> ;>"},
		{"a = !b && c; a = b - c * d;", "<Assign a = <And <Not ! b> && c> ;> <Assign a = <Minus b - <Times c * d>> ;>"},
	} {
		list, end, at, err := stmt.Read(x[0])
		if shapes(list) != x[1] || end != "" || at != 0 || err != nil {
			t.Errorf("Read(%q) = %s, %q, %d, %v, want %s", x[0], shapes(list), end, at, err, x[1])
		}
	}
}

// expressions are one of each kind that layer 9 knows, at least.
func expressions() []string {
	return []string{
		"a", "7", "true", "false", "this", "new A()", "new int[a]", "(a)", "!a", "a[b]", "a.length", "a.m()", "a.m(b)", "a.m(b, c)",
		"a && b", "a < b", "a + b", "a - b", "a * b", "!(a.m(b[c], new int[d]).length < 7 + 8 * new A().n()) && this.k(true)",
	}
}

// Where the chapter says expression stands each one that there is, as layer 9 reads it.
func TestExpressions(t *testing.T) {
	for _, text := range expressions() {
		for _, x := range []struct {
			ahead, behind string
			kid           int
		}{
			{"a =", ";", 2}, {"a[", "] = b;", 2}, {"a[b] =", ";", 5}, {printer + "(", ");", 2}, {"while (", ") {}", 2}, {"if (", ") {} else {}", 2},
		} {
			for _, gap := range []string{"", " ", "/* ) */", "// ;\n"} {
				s := x.ahead + gap + text + gap + x.behind
				n, _, _, err := expr.Read(gap + text)
				if err != nil {
					t.Fatal(text, err)
				}
				list, end, at, err := stmt.Read(s)
				if err != nil || len(list) != 1 || end != "" || !equal(list[0].Kids[x.kid], tree.Place(n, len(x.ahead))) {
					t.Errorf("Read(%q) = %s, %q, %d, %v", s, short(list), end, at, err)
				}
			}
		}
	}
}

// all are tokens of each kind that there is, of each keyword and each sign.
func all() []string {
	out := []string{"a", "System", "0", "7", printer}
	out = append(out, strings.Fields("class extends public static void main String int boolean return if else while true false this new length")...)
	return append(out, strings.Fields("{ } ( ) [ ] ; , . = < + - * ! &&")...)
}

// each are right texts, by their tokens, one for each construct at least.
func each() []string {
	return []string{
		"int a ;", "int [ ] a ;", "boolean a ;", "A a ;", "int a ; A b ; int [ ] c ; A = b ;",
		"{ }", "{ a = b ; }", "{ a = b ; { } c = d ; }", "if ( a ) b = c ; else { }", "if ( a ) if ( b ) { } else { } else { }", "while ( a ) b = c ;", "while ( a ) { }",
		printer + " ( a ) ;", "a = b ;", "a [ b ] = c ;", "a = ( b ) ;", "A a ; a = new A ( ) ; if ( ! a . m ( b ) ) a [ 0 ] = 7 + b ; else while ( true ) { }",
	}
}

// At each place of each construct stands each token there is, in place of the one that was there, or ahead of it; or none stands there.
func TestEachTokenAtEachPlace(t *testing.T) {
	for _, text := range each() {
		tokens := strings.Fields(text)
		for _, g := range gaps() {
			s := spaced(tokens, g...)
			asks(t, s)
			whole(t, s.text())
		}
		for i := range len(tokens) + 1 {
			for _, x := range all() {
				asks(t, spaced(slices.Insert(slices.Clone(tokens), i, x), " "))
				if i < len(tokens) {
					asks(t, spaced(slices.Replace(slices.Clone(tokens), i, i+1, x), "", " "))
				}
			}
			asks(t, spaced(tokens[:i], "", "/*;*/"))
			asks(t, spaced(tokens[i:], " "))
			if i < len(tokens) {
				asks(t, spaced(slices.Delete(slices.Clone(tokens), i, i+1), " "))
			}
		}
	}
}

// All that can be read, token by token, with each token behind it that can be or can't be next.
func TestSmallTexts(t *testing.T) {
	for _, pieces := range [][]string{all(), strings.Fields("a int boolean [ ] ; ="), strings.Fields("a { } ; = if ( ) else"), strings.Fields("a { } = ; while ( ) " + printer), strings.Fields("a b [ ] = ;")} {
		list := [][]string{nil}
		asked := 0
		for n := 0; n < len(list) && asked < 9000; n++ {
			for _, x := range pieces {
				tokens := append(slices.Clone(list[n]), x)
				s := spaced(tokens, gaps()[asked%5]...)
				asks(t, s)
				if a := follow(t, s, 0, 0, "VARS STMTS END"); a.fault == nil || a.place == len(s.text()) {
					list = append(list, tokens)
				}
				asked++
			}
			if t.Failed() {
				return
			}
		}
	}
}

// pick is one of some texts, that is drawn.
func pick(draw *rand.Rand, list ...string) string { return list[draw.Intn(len(list))] }

// drawnExpression are the tokens of an expression that is drawn.
func drawnExpression(draw *rand.Rand) string {
	return pick(draw, "a", "7", "true", "this", "! a", "( a )", "a + b * c", "a [ b ]", "a . length", "a . m ( b , c )", "new A ( )", "new int [ a ]", "a < b && c")
}

// drawnStatement are the tokens of a statement that is drawn.
func drawnStatement(draw *rand.Rand, size int) string {
	e := drawnExpression(draw)
	if size <= 1 {
		return pick(draw, "{ }", "a = "+e+" ;", "a [ "+e+" ] = "+drawnExpression(draw)+" ;", printer+" ( "+e+" ) ;")
	}
	size--
	switch draw.Intn(4) {
	case 0:
		return "while ( " + e + " ) " + drawnStatement(draw, size)
	case 1:
		return "if ( " + e + " ) " + drawnStatement(draw, size/2) + " else " + drawnStatement(draw, size-size/2)
	case 2:
		return "{ " + drawnStatement(draw, size) + " }"
	}
	return "{ " + drawnStatement(draw, size/2) + " " + drawnStatement(draw, size/3) + " " + drawnStatement(draw, size/3) + " }"
}

// mostTokens is how many tokens have room in a file, whatever gaps are between.
const mostTokens = 180

// drawnBody are the tokens of variables and statements that are drawn.
func drawnBody(draw *rand.Rand) []string {
	for {
		text := ""
		for range draw.Intn(4) {
			text += pick(draw, "int a ; ", "int [ ] b ; ", "boolean c ; ", "A d ; ")
		}
		for range draw.Intn(4) {
			text += drawnStatement(draw, 1+draw.Intn(12)) + " "
		}
		if tokens := strings.Fields(text); len(tokens) <= mostTokens {
			return tokens
		}
	}
}

// Drawn the same way each time: long texts, as they are and with tokens that are changed.
func TestDrawnTexts(t *testing.T) {
	draw := rand.New(rand.NewSource(10))
	for range 1000 {
		tokens := drawnBody(draw)
		s := spaced(tokens, gaps()[draw.Intn(5)]...)
		whole(t, s.text())
		asks(t, s)
		for range 4 {
			if len(tokens) > 0 {
				tokens[draw.Intn(len(tokens))] = all()[draw.Intn(len(all()))]
			}
			asks(t, spaced(tokens, gaps()[draw.Intn(5)]...))
		}
		if t.Failed() {
			return
		}
	}
}

// Other blanks and notes between change gaps and places alone.
func TestOtherBlanks(t *testing.T) {
	draw := rand.New(rand.NewSource(102))
	for range 200 {
		tokens := drawnBody(draw)
		one, _, _, err := stmt.Read(spaced(tokens, " ").text())
		if err != nil {
			t.Fatal(tokens, err)
		}
		for _, g := range gaps() {
			s := spaced(tokens, g...)
			list, end, _, err := stmt.Read(s.text())
			if err != nil || end != s.end || shapes(list) != shapes(one) {
				t.Errorf("%.300q: %s, %q, %v, want %s", s.text(), short(list), end, err, short(one))
			}
			asksStands(t, list, end, s.text())
			if again, _, _, err := stmt.Read(tree.Text(tree.Make(tree.File, list...))); !equals(again, list) || err != nil {
				t.Errorf("%.300q read again: %s, %v", s.text(), short(again), err)
			}
		}
	}
}

// Nothing, or blanks and notes alone: no variable and no statement, and all of it stands behind.
func TestNothingToRead(t *testing.T) {
	for _, s := range []string{"", " ", " \t\r\n", "// int a;", "/* a = b; */\n", strings.Repeat(" ", mostBytes)} {
		list, end, at, err := stmt.Read(s)
		if len(list) != 0 || end != s || at != 0 || err != nil {
			t.Errorf("Read(%.100q) = %s, %.100q, %d, %v", s, short(list), end, at, err)
		}
		for _, x := range calls() {
			c, _, _ := cursor.New(s)
			list, none := x.do(c)
			at, err := c.Failed()
			if fails := x.one != nil; !none || c.Deep() != 0 || !fails && (err != nil || c.End() != s) || fails && (at != len(s) || err != api.ErrForm) {
				t.Errorf("%s of %.100q: %s, %d, %v", x.name, s, short(list), at, err)
			}
		}
	}
}

// Where nothing begins none are read, nothing is taken, and nothing fails.
func TestNoneBegin(t *testing.T) {
	for _, first := range all() {
		for _, second := range append(all(), "") {
			s := spaced(strings.Fields(first+" "+second), " ")
			for _, base := range []int{0, mostDeep} {
				name := lex.List(first)[0].Kind == lex.Name
				if first != "int" && first != "boolean" && !(name && (second == "a" || second == "System")) {
					asksUntouched(t, s, base, stmt.Vars)
				}
				if first != "{" && first != "if" && first != "while" && first != printer && !name {
					asksUntouched(t, s, base, stmt.Stmts)
				}
			}
		}
	}
}

func asksUntouched(t *testing.T, s sample, base int, read func(*cursor.Cursor) []tree.Node) {
	t.Helper()
	c := ready(t, s, 0, base)
	list := read(c)
	if _, err := c.Failed(); len(list) != 0 || err != nil || c.Left() != len(s.leaves) || c.At() != s.begin(0) || c.Deep() != base {
		t.Errorf("%q: %s, %v, %d left, at %d, within %d", s.text(), short(list), err, c.Left(), c.At(), c.Deep())
	}
}

// Where a name stands alone, or ahead of what is no name, a statement begins and no variable.
func TestVariableOrAssignment(t *testing.T) {
	c, _, err := cursor.New("A a; int b; A = b; A c;")
	if err != nil {
		t.Fatal(err)
	}
	if list := stmt.Vars(c); shapes(list) != "<Var <Type A> a ;> <Var <Type int> b ;>" || c.At() != 12 || c.Left() != 7 {
		t.Error(short(list), c.At(), c.Left())
	}
	if list := stmt.Vars(c); len(list) != 0 || c.At() != 12 || c.Left() != 7 {
		t.Error(short(list), c.At(), c.Left())
	}
	if n := stmt.Stmt(c); shape(n) != "<Assign A = b ;>" || !tree.Stands(n, 11) || c.At() != 19 {
		t.Error(shape(n), c.At())
	}
	if list := stmt.Vars(c); shapes(list) != "<Var <Type A> c ;>" || c.Left() != 0 {
		t.Error(short(list), c.Left())
	}
	for _, x := range []struct {
		s  string
		at int
	}{
		{"A a; A b", 8}, {"A a b;", 4}, {"A a = b;", 4}, {"A[] a;", 2}, {"A a[];", 3}, {"A;", 1}, {"A", 1}, {"A int;", 2}, {"A a; A;", 6}, {"A.a b;", 1}, {"A 7;", 2}, {"a = b; A a;", 9}, {"{ A a; }", 4}, {"A a, b;", 3},
	} {
		refused(t, x.s, x.at, api.ErrForm)
	}
}

func TestWrong(t *testing.T) {
	for _, x := range []struct {
		s  string
		at int
	}{
		// A token that can't be next.
		{";", 0}, {"7", 0}, {"= a;", 0}, {"(a)", 0}, {"[a]", 0}, {"!a;", 0}, {"this = a;", 0}, {"new A();", 0}, {"else", 0}, {"return a;", 0}, {"class A {}", 0}, {"public int a;", 0},
		{"a;", 1}, {"a b = c;", 4}, {"a == b;", 3}, {"a + b;", 2}, {"a.b = c;", 1}, {"a.m();", 1}, {"a(b);", 1}, {"a[b].m();", 4}, {"a[b][c] = d;", 4}, {"a.length = b;", 1}, {"a = b = c;", 6}, {"a[b];", 4}, {"a[] = b;", 2}, {"a[b, c] = d;", 3}, {"a = ;", 4}, {"a[b] = ;", 7}, {"a = b, c = d;", 5},
		{"if {}", 3}, {"if a {} else {}", 3}, {"if () {} else {}", 4}, {"if (a) ; else {}", 7}, {"if (a) else {}", 7}, {"if (a = b) {} else {}", 6}, {"if (a) then {}", 12}, {"if [a] {} else {}", 3}, {"if (a; b) {} else {}", 5},
		{"while {}", 6}, {"while a {}", 6}, {"while () {}", 7}, {"while (a) ;", 10}, {"while (a) else", 10}, {"while (a) }", 10}, {"while (a) do {}", 13}, {"while (a)", 9},
		{printer, 18}, {printer + ";", 18}, {printer + " a;", 19}, {printer + "();", 19}, {printer + "(a, b);", 20}, {printer + "(a) b", 22}, {printer + " = a;", 19}, {printer + "[a] = b;", 18}, {"System.out.print(a);", 6}, {"System . out . println(a);", 7},
		{"int;", 3}, {"int 7;", 4}, {"int = a;", 4}, {"int a = b;", 6}, {"int a, b;", 5}, {"int a[];", 5}, {"int [a];", 5}, {"int[7] a;", 4}, {"int[][] a;", 5}, {"int[];", 5}, {"int() a;", 3}, {"int {} a;", 4}, {"boolean;", 7}, {"boolean[] a;", 7}, {"boolean a = true;", 10}, {"int int a;", 4}, {"int boolean;", 4},
		// Brackets and semicolons missing or too many.
		{"a = b", 5}, {"a = b }", 6}, {"a = b;;", 6}, {"a[b = c;", 4}, {"a b] = c;", 3}, {"a[b]] = c;", 4}, {"a[[b] = c;", 2}, {"a[b] = c", 8}, {"a = (b;", 6}, {"a = b);", 5}, {"int a", 5}, {"int a;;", 6}, {"int [ a;", 6}, {"int ] a;", 4}, {"A a", 3},
		{"{", 1}, {"}", 0}, {"{}}", 2}, {"{{}", 3}, {"{ a = b;", 8}, {"{ a = b }", 8}, {"{};", 2}, {"{;}", 1}, {"{ {} a }", 7}, {"{)", 1}, {"{]", 1},
		{"if (a {} else {}", 6}, {"if a) {} else {}", 3}, {"if (a)) {} else {}", 6}, {"if ((a) {} else {}", 8}, {"if (a) { else {}", 9}, {"if (a) {} else {", 16}, {"if (a) b = c else d = e;", 13}, {"if (a) {}; else {}", 9}, {"if (a) {} else {};", 17},
		{"while (a {}", 9}, {"while a) {}", 6}, {"while (a)) {}", 9}, {"while (a) {", 11}, {"while (a) b = c", 15}, {printer + "(a)", 21}, {printer + "(a;", 20}, {printer + "(a));", 21}, {printer + "((a);", 22},
		// An if without else.
		{"if (a) {}", 9}, {"if (a) {} b = c;", 10}, {"if (a) b = c;", 13}, {"if (a) if (b) {} else {}", 24}, {"{ if (a) {} }", 12}, {"if (a) {} else", 14}, {"if (a) {} else else {}", 15}, {"if (a) {} else {} else {}", 18}, {"while (a) if (b) {}", 19}, {"else {}", 0},
		// A variable behind a statement, or within one.
		{"a = 1; int b;", 7}, {"{} int a;", 3}, {"int a; {} A b;", 12}, {"{ int a; }", 2}, {"{ a = b; int c; }", 9}, {"while (a) int b;", 10}, {"while (a) A b;", 12}, {"if (a) int b; else {}", 7}, {"if (a) {} else int b;", 15}, {"{} boolean a;", 3}, {"a = b; A a;", 9},
		// Something behind the last statement.
		{"a = b; 7", 7}, {"a = b; )", 7}, {"{} }", 3}, {"int a; ]", 7}, {"{} else", 3}, {"{} a", 4}, {"int a; return a;", 7}, {"a = b; // c\n ,", 13}, {"{} public", 3}, {"a = b; !", 7},
		// Keywords in the place of names.
		{"int length;", 4}, {"int main;", 4}, {"int String;", 4}, {"int this;", 4}, {"int int;", 4}, {"A class;", 2}, {"String a;", 0}, {"void a;", 0}, {"length = a;", 0}, {"main = a;", 0}, {"String = a;", 0}, {"true = a;", 0}, {"length[0] = a;", 0}, {"int = a;", 4}, {"boolean = a;", 8}, {"int " + printer + ";", 4}, {printer + " a;", 19}, {"A " + printer + ";", 2}, {"a = main;", 4}, {"extends a;", 0}, {"static int a;", 0},
	} {
		refused(t, x.s, x.at, api.ErrForm)
	}
}

// Of Type, Var and Stmt: where each one fails that can't be read from the text.
func TestWrongFromACursor(t *testing.T) {
	for _, x := range []struct {
		call, s string
		at      int
	}{
		{"Type", ";", 0}, {"Type", " String", 1}, {"Type", "7", 0}, {"Type", "[]", 0}, {"Type", "int[", 4}, {"Type", "int[a]", 4}, {"Type", "int [ [", 6}, {"Type", "void", 0}, {"Type", printer, 0}, {"Type", "", 0},
		{"Var", "{}", 0}, {"Var", "a = b;", 2}, {"Var", "a[b] = c;", 1}, {"Var", "a", 1}, {"Var", "int a b", 6}, {"Var", "int[] []", 6}, {"Var", ";", 0}, {"Var", "a;", 1}, {"Var", "int a", 5}, {"Var", "", 0}, {"Var", "while a;", 0},
		{"Stmt", "int a;", 0}, {"Stmt", "A a;", 2}, {"Stmt", ";", 0}, {"Stmt", "}", 0}, {"Stmt", "else {}", 0}, {"Stmt", "", 0}, {"Stmt", "; [", 0}, {"Stmt", "7 [ a ] = b ;", 0}, {"Stmt", "this [ a ] = b ;", 0}, {"Stmt", "boolean a;", 0}, {"Stmt", "= a;", 0},
		{"Vars", "int a; int b", 12}, {"Vars", "int a; A b = c;", 11}, {"Vars", "A a A b;", 4}, {"Vars", "int", 3}, {"Vars", "int = a;", 4},
		{"Stmts", "{} {", 4}, {"Stmts", "a = b; c", 8}, {"Stmts", "A a;", 2}, {"Stmts", "a = b; {} if (c) {}", 19},
	} {
		for _, y := range calls() {
			if y.name != x.call {
				continue
			}
			for _, base := range []int{0, 5} {
				c := ready(t, sample{end: x.s}, 0, base)
				list, none := y.do(c)
				if at, err := c.Failed(); !none || at != x.at || err != api.ErrForm || c.Deep() != base || c.Left() != 0 {
					t.Errorf("%s of %q: %s, %d, %v, within %d", x.call, x.s, short(list), at, err, c.Deep())
				}
			}
		}
	}
}

func TestNotClean(t *testing.T) {
	for _, x := range []struct {
		s  string
		at int
	}{
		{"?", 0}, {"a = b; ?", 7}, {"a = b & c;", 6}, {"a = b / c;", 6}, {"a > b", 2}, {"a = 007;", 4}, {"int 1b;", 4}, {"a = 2147483648;", 4}, {"{ /* }", 2}, {"a = b;\x00", 6}, {"\xff", 0}, {"a = \"b\";", 4},
		{"int " + strings.Repeat("n", 65) + ";", 4},
		// What isn't clean is told ahead of what isn't right, and of what is too deep.
		{"; ?", 2}, {"int ; ?", 6}, {"a = 1; int b; ?", 14}, {strings.Repeat("{", 300) + "?", 300},
	} {
		refused(t, x.s, x.at, api.ErrForm)
	}
}

func TestSizes(t *testing.T) {
	for _, s := range []string{
		strings.Repeat("A a;", mostBytes/4), strings.Repeat("int[]a;", mostBytes/7), strings.Repeat("a=b;", mostBytes/4), strings.Repeat("{}", mostBytes/2), strings.Repeat("a[b]=c;", mostBytes/7),
		"int a;" + strings.Repeat("if(a)a=b;else{}", 200), strings.Repeat("while(a){}", mostBytes/10), strings.Repeat(printer+"(a);", mostBytes/22), "a=b" + strings.Repeat("-b", mostBytes/2-2) + ";", "{" + strings.Repeat("a=b;", mostBytes/4-1) + "}", "",
	} {
		full := s + strings.Repeat(" ", mostBytes-len(s))
		list, end, at, err := stmt.Read(full)
		if len(full) != mostBytes || at != 0 || err != nil || s+end != full {
			t.Errorf("%.20s: %q, %d, %v", s, end, at, err)
		}
		asksStands(t, list, end, full)
		refused(t, full+" ", mostBytes, api.ErrLarge)
		refused(t, full+"?", mostBytes, api.ErrLarge)
		refused(t, full+";", mostBytes, api.ErrLarge)
		if len(s) < mostBytes {
			refused(t, full[:mostBytes-1]+"?", mostBytes-1, api.ErrForm)
			refused(t, full[:mostBytes-1]+";", mostBytes-1, api.ErrForm)
		}
	}
	refused(t, strings.Repeat("?", mostBytes+1), mostBytes, api.ErrLarge)
	refused(t, strings.Repeat("{", mostBytes+1), mostBytes, api.ErrLarge)
	refused(t, strings.Repeat("{", mostBytes), mostDeep, api.ErrDeep)
	refused(t, strings.Repeat("a", mostBytes), 0, api.ErrForm)
}

// pair is what stands ahead of a statement and behind it, where that is one construct deeper, with where in it the first one so deep stands.
type pair struct {
	ahead, after string
	at           int
}

func pairs() []pair {
	return []pair{{"{", "}", 1}, {"{a=b;", "}", 1}, {"{", "{}c=d;}", 1}, {"if(a)", "else{}", 5}, {"if(a){}else ", "", 5}, {"if(a)", "else b=c;", 5}, {"while(a)", "", 8}}
}

// laid are pairs, in turn, so many times within one another.
func laid(times int, inner string, list ...pair) string {
	ahead, after := aheadAfter(times, list...)
	return ahead + inner + after
}

func aheadAfter(times int, list ...pair) (ahead, after string) {
	for i := range times {
		p := list[i%len(list)]
		ahead += p.ahead
		after = p.after + after
	}
	return ahead, after
}

func leafStatements() []string { return []string{"{}", "a=b;", "a[b]=c;", printer + "(a);"} }

// Each statement, alone and mixed, 200 deep and one more.
func TestDeep(t *testing.T) {
	lists := [][]pair{pairs()}
	for _, p := range pairs() {
		lists = append(lists, []pair{p})
		for _, q := range pairs() {
			lists = append(lists, []pair{p, q})
		}
	}
	for _, list := range lists {
		for _, inner := range leafStatements() {
			whole(t, laid(mostDeep-1, inner, list...))
			most, _ := aheadAfter(mostDeep-1, list...)
			place := len(most) + list[(mostDeep-1)%len(list)].at
			ahead, after := aheadAfter(mostDeep, list...)
			refused(t, ahead+inner+after, place, api.ErrDeep)
			// Where the text goes wrong behind that place nobody looks, unless it isn't clean.
			refused(t, ahead+inner, place, api.ErrDeep)
			refused(t, ahead+inner+"7", place, api.ErrDeep)
			refused(t, ahead+inner+"?", len(ahead+inner), api.ErrForm)
		}
	}
}

// A block of no statement is one construct, and what stands side by side is none within one another.
func TestNotDeeper(t *testing.T) {
	whole(t, strings.Repeat("{", mostDeep)+strings.Repeat("}", mostDeep))
	refused(t, strings.Repeat("{", mostDeep+1)+strings.Repeat("}", mostDeep+1), mostDeep, api.ErrDeep)
	for _, inner := range leafStatements() {
		whole(t, strings.Repeat(inner, mostBytes/len(inner)))
		for _, p := range pairs()[:3] {
			ahead, after := aheadAfter(mostDeep-1, p)
			list := strings.Repeat(inner, (mostBytes-len(ahead+after))/len(inner))
			whole(t, ahead+list+after)
		}
	}
	whole(t, strings.Repeat("if(a){}else{}", mostDeep+1))
	whole(t, strings.Repeat("while(a){}", mostDeep+1))
	whole(t, strings.Repeat("A a;", mostDeep+1)+laid(mostDeep-1, "a=b;", pairs()[0]))
	deep := strings.Repeat("{", mostDeep) + strings.Repeat("}", mostDeep)
	whole(t, strings.Repeat(deep, mostBytes/len(deep)))
	// Behind what was deep, and behind what was deep within an expression, it is as ahead of it.
	ahead, after := aheadAfter(mostDeep-4, pairs()[0])
	whole(t, ahead+"{{}}a=((b));c=((d));{a=(b);}if((a)){a=(b);}else{c=(d);}while((a)){}a[((b))]=((c));{{a=b;}}"+after)
}

// An expression's constructs lie within those of its statement; a statement's own brackets are none.
func TestDeepWithExpressions(t *testing.T) {
	for _, x := range []struct {
		ahead, after string
		within       int // constructs of another statement within this one
	}{
		{"a=", ";", 0}, {"a[b]=", ";", 0}, {"a[", "]=b;", 0}, {printer + "(", ");", 0}, {"if(", "){}else{}", 1}, {"while(", "){}", 1},
	} {
		for _, outer := range []int{0, 1, 7, 100, mostDeep - 3, mostDeep - 2, mostDeep - 1} {
			for _, y := range []pair{{"(", ")", 0}, {"!", "", 0}, {"a[", "]", 1}, {"b.m(", ")", 3}} {
				ahead, after := aheadAfter(outer, pairs()[:3]...)
				within, behind := aheadAfter(mostDeep-outer-1, y)
				if outer+1+x.within <= mostDeep {
					whole(t, ahead+x.ahead+within+"c"+behind+x.after+after)
				}
				refused(t, ahead+x.ahead+within+y.ahead+"c", len(ahead+x.ahead+within)+y.at, api.ErrDeep)
			}
		}
	}
}

// A statement that must come is one construct deeper, whatever stands in its place.
func TestDeepAheadOfWhatIsNoStatement(t *testing.T) {
	for _, x := range []string{"while(a)", "if(a)", "if(a)b=c;else "} {
		for _, inner := range []string{"", ";", "7", "int b;", "else", "}"} {
			s := strings.Repeat("{", mostDeep-2) + x
			at := len(s)
			// The statement behind else is as deep as the one ahead of it.
			refused(t, s+inner, at, api.ErrForm)
			if !strings.Contains(x, "else") {
				refused(t, "{"+s+inner, at+1, api.ErrDeep)
			} else {
				refused(t, "{"+s+inner, at+1-len("b=c;else "), api.ErrDeep)
			}
		}
	}
	for _, x := range append(all(), "") {
		s := spaced(strings.Fields(x), " ")
		c := ready(t, s, 0, mostDeep)
		n := stmt.Stmt(c)
		if at, err := c.Failed(); !zero(n) || at != s.begin(0) || err != api.ErrDeep || c.Deep() != mostDeep {
			t.Errorf("%q: %s, %d, %v, within %d", x, shape(n), at, err, c.Deep())
		}
	}
}

// Types and variables are no constructs.
func TestTypesAndVariablesWithinTheDeepest(t *testing.T) {
	c := ready(t, sample{end: "int [ ] A a; int [ ] a; boolean b; c = d;"}, 0, mostDeep)
	if n := stmt.Type(c); shape(n) != "<Type int [ ]>" || c.Deep() != mostDeep {
		t.Error(shape(n), c.Deep())
	}
	if n := stmt.Var(c); shape(n) != "<Var <Type A> a ;>" || c.Deep() != mostDeep {
		t.Error(shape(n), c.Deep())
	}
	if list := stmt.Vars(c); shapes(list) != "<Var <Type int [ ]> a ;> <Var <Type boolean> b ;>" || c.Deep() != mostDeep {
		t.Error(short(list), c.Deep())
	}
	if _, err := c.Failed(); err != nil {
		t.Error(err)
	}
	list := stmt.Stmts(c)
	if at, err := c.Failed(); len(list) != 0 || at != 35 || err != api.ErrDeep || c.Deep() != mostDeep {
		t.Error(short(list), at, err, c.Deep())
	}
}

// From each token of some texts on, within few and many constructs.
func TestInTheMidst(t *testing.T) {
	for _, text := range append(each(),
		"public int m ( A a , int [ ] b ) { int c ; A d ; c = 1 ; return c ; }", "class A { int x ; public", "( String [ ] a ) { { } }", "return a ; } int b ;",
		"if ( a ) { while ( b ) c [ d ] = e ; } else if ( f ) { } else { } }", "a = b ; ; int c", "{ { { { a = b ; } } } }",
	) {
		tokens := strings.Fields(text)
		for _, g := range gaps() {
			s := spaced(tokens, g...)
			for from := range len(tokens) + 1 {
				for _, base := range []int{0, 1, mostDeep - 4, mostDeep - 2, mostDeep - 1, mostDeep} {
					for _, x := range calls() {
						asksCall(t, x, s, from, base)
					}
				}
			}
		}
	}
}

// Several calls ask one cursor, one behind the other.
func TestAgainAndAgain(t *testing.T) {
	c, _, err := cursor.New(" int [] int a; A b; { } c = d; while (e) {} A f; ; // end")
	if err != nil {
		t.Fatal(err)
	}
	steps := []struct {
		call, want string
		at, left   int
	}{
		{"Stmts", "", 1, 25}, {"Type", "<Type int [ ]>", 8, 22}, {"Stmts", "", 8, 22}, {"Var", "<Var <Type int> a ;>", 15, 19}, {"Vars", "<Var <Type A> b ;>", 20, 16}, {"Vars", "", 20, 16},
		{"Stmt", "<Block { }>", 24, 14}, {"Stmt", "<Assign c = d ;>", 31, 10}, {"Vars", "", 31, 10}, {"Stmt", "<While while ( e ) <Block { }>>", 44, 4}, {"Type", "<Type A>", 46, 3}, {"Type", "<Type f>", 47, 2},
	}
	for _, x := range steps {
		for _, y := range calls() {
			if y.name != x.call {
				continue
			}
			list, none := y.do(c)
			if x.want == "" && !none || x.want != "" && shapes(list) != x.want || c.At() != x.at || c.Left() != x.left || c.Deep() != 0 {
				t.Errorf("%s: %s, at %d, %d left, want %s, at %d, %d left", x.call, short(list), c.At(), c.Left(), x.want, x.at, x.left)
			}
		}
	}
	if c.Want(";").At != 47 || c.Want(";").At != 49 || c.End() != " // end" {
		t.Error(c.Failed())
	}
}

// What has failed stays as it failed: nothing is read, however right the text is.
func TestBehindAFailure(t *testing.T) {
	for _, text := range each() {
		s := spaced(strings.Fields(text), " ")
		for _, fault := range []api.Errno{api.ErrDup, api.ErrForm, api.ErrDeep, api.ErrState} {
			for _, base := range []int{0, 3, mostDeep} {
				for _, x := range calls() {
					c := ready(t, s, 0, base)
					c.Fail(fault)
					for range 2 {
						if list, none := x.do(c); !none {
							t.Errorf("%s of %s: %s", x.name, text, short(list))
						}
						if at, err := c.Failed(); at != 1 || err != fault || c.Deep() != base || c.Left() != 0 {
							t.Errorf("%s of %s: %d, %v, within %d", x.name, text, at, err, c.Deep())
						}
					}
				}
			}
		}
	}
}

// Whoever reads behind a reading that failed is told of the first failure; what was right by then isn't answered.
func TestFailsOnce(t *testing.T) {
	for _, x := range []struct {
		call, s string
		at      int
	}{
		{"Type", "int [ a ] b ;", 6}, {"Var", "int a = b ; int c ;", 6}, {"Stmt", "{ a = b ; c d ; } e = f ;", 12}, {"Vars", "int a ; int b ; int 7 ; int c ;", 20}, {"Stmts", "a = b ; { } c = ) ; d = e ;", 16},
	} {
		for _, y := range calls() {
			if y.name != x.call {
				continue
			}
			c := ready(t, sample{end: x.s}, 0, 2)
			if _, none := y.do(c); !none {
				t.Errorf("%s of %s", x.call, x.s)
			}
			for _, z := range calls() {
				list, none := z.do(c)
				if at, err := c.Failed(); !none || at != x.at || err != api.ErrForm || c.Deep() != 2 {
					t.Errorf("%s, then %s of %s: %s, %d, %v", x.call, z.name, x.s, short(list), at, err)
				}
			}
		}
	}
}

func TestNil(t *testing.T) {
	for _, x := range calls() {
		for range 2 {
			if list, none := x.do(nil); !none {
				t.Errorf("%s: %s", x.name, short(list))
			}
		}
	}
}

// At a text's end there is nothing to be read: what must be there fails there, and of what may be there is none.
func TestAtTheEnd(t *testing.T) {
	for _, text := range each() {
		s := spaced(append(strings.Fields(text), "a"), " ", "", "/**/")
		for _, x := range calls() {
			c := ready(t, s, len(s.leaves), 1)
			list, none := x.do(c)
			at, err := c.Failed()
			switch {
			case !none || c.Deep() != 1:
				t.Errorf("%s of %s: %s, within %d", x.name, text, short(list), c.Deep())
			case x.one != nil && (at != len(s.text()) || err != api.ErrForm):
				t.Errorf("%s of %s: %d, %v", x.name, text, at, err)
			case x.one == nil && (err != nil || c.End() != s.end):
				t.Errorf("%s of %s: %v, %q", x.name, text, err, c.End())
			}
		}
	}
}

// spoil changes all of some trees, and what room their lists have.
func spoil(list []tree.Node) {
	room := list[:cap(list)]
	for i := range room {
		spoil(room[i].Kids)
		room[i] = tree.Node{Kind: -7, Gap: "spoilt", Text: "spoilt", At: -7}
	}
}

// Who changes an answer changes no other one, nor what is read later.
func TestAnswersAreNew(t *testing.T) {
	for _, text := range each() {
		s := spaced(strings.Fields(text), " ")
		want := follow(t, s, 0, 0, "VARS STMTS END").open[0].Kids
		one, _, _, _ := stmt.Read(s.text())
		two, _, _, _ := stmt.Read(s.text())
		spoil(one)
		three, _, _, _ := stmt.Read(s.text())
		if !equals(two, want) || !equals(three, want) {
			t.Errorf("%s: %s, %s", text, short(two), short(three))
		}
		twice := spaced(append(strings.Fields(text), strings.Fields(text)...), " ")
		for _, x := range calls() {
			first := follow(t, twice, 0, 0, x.goal)
			if first.fault != nil {
				continue
			}
			second := follow(t, twice, first.next, 0, x.goal)
			c := ready(t, twice, 0, 0)
			one, _ := x.do(c)
			spoil(one)
			if two, _ := x.do(c); second.fault == nil && !equals(two, second.open[0].Kids) {
				t.Errorf("%s of %s: the second one is %s", x.name, text, short(two))
			}
		}
	}
}

// Lists are taken with their spare room.
func TestListsShareNothing(t *testing.T) {
	for _, text := range append(each(), strings.Repeat("int a; ", 50)+strings.Repeat("a = b; ", 50)+"{"+strings.Repeat("{} a[b] = c; ", 20)+"}", laid(mostDeep-1, "a=b;", pairs()...)) {
		asksShared(t, text, func() []tree.Node {
			list, _, _, err := stmt.Read(text)
			if err != nil {
				t.Error(text, err)
			}
			return list
		})
		for _, x := range calls() {
			asksShared(t, text, func() []tree.Node {
				c, _, _ := cursor.New(text)
				list, _ := x.do(c)
				return list
			})
		}
	}
}

// asksShared asks that no place in memory is in two lists of one answer, or of two.
func asksShared(t *testing.T, text string, read func() []tree.Node) {
	t.Helper()
	seen := map[*tree.Node]bool{}
	var look func(list []tree.Node)
	look = func(list []tree.Node) {
		room := list[:cap(list)]
		for i := range room {
			if seen[&room[i]] {
				t.Fatalf("%.300s: a place in memory is in two lists", text)
			}
			seen[&room[i]] = true
			look(room[i].Kids)
		}
	}
	look(read())
	look(read())
}

// What is handed in stays as it was, and bytes that change later change nothing.
func TestTextStays(t *testing.T) {
	text := "int a; { a = b [ c ]; } // end"
	bytes := []byte(text)
	s := string(bytes)
	list, end, _, err := stmt.Read(string(bytes))
	for i := range bytes {
		bytes[i] = '?'
	}
	if err != nil || end != " // end" {
		t.Errorf("%s, %q, %v", short(list), end, err)
	}
	asksStands(t, list, end, text)
	spoil(list)
	if s != text {
		t.Errorf("%q", s)
	}
}

// Whoever asks again is told the same, and two cursors know nothing of each other.
func TestTheSame(t *testing.T) {
	for _, text := range append(each(), "a =", "{ a", "int", "a = 1; int b;", "", laid(mostDeep, "a=b;", pairs()...)) {
		list, end, at, err := stmt.Read(text)
		for range 3 {
			list2, end2, at2, err2 := stmt.Read(text)
			if !reflect.DeepEqual(list, list2) || end != end2 || at != at2 || err != err2 {
				t.Errorf("%.100q: %s, %q, %d, %v", text, short(list2), end2, at2, err2)
			}
		}
	}
	s := spaced(strings.Fields("{ a = b ; } ; c"), " ")
	c, d := ready(t, s, 0, 0), ready(t, s, 0, 5)
	stmt.Stmt(c)
	if c.Left() != 2 || d.Left() != 8 || d.Deep() != 5 || shape(stmt.Stmt(d)) != "<Block { <Assign a = b ;> }>" {
		t.Error(c.Left(), d.Left(), d.Deep())
	}
}
