package decl_test

import (
	"fmt"
	"reflect"
	"slices"
	"strings"
	"testing"

	"namesake/api"
	"namesake/cursor"
	"namesake/decl"
	"namesake/expr"
	"namesake/lex"
	"namesake/stmt"
	"namesake/tree"
)

const (
	mostBytes = 4000
	mostDeep  = 200
	printer   = "System.out.println"
)

func leaf(gap, text string, at int) tree.Node {
	return tree.Node{Kind: tree.Leaf, Gap: gap, Text: text, At: at}
}

func node(kind tree.Kind, kids ...tree.Node) tree.Node {
	return tree.Node{Kind: kind, Kids: kids}
}

func equal(a, b tree.Node) bool {
	return a.Kind == b.Kind && a.Gap == b.Gap && a.Text == b.Text && a.At == b.At && slices.EqualFunc(a.Kids, b.Kids, equal)
}

// zero tells whether nothing is there, not even an empty list.
func zero(n tree.Node) bool { return reflect.DeepEqual(n, tree.Node{}) }

// nothing tells whether nothing was read.
func nothing(p decl.Parsed) bool { return reflect.DeepEqual(p, decl.Parsed{}) }

var kinds = map[string]tree.Kind{
	"File": tree.File, "Main": tree.Main, "Class": tree.Class, "Field": tree.Field, "Method": tree.Method, "Param": tree.Param,
	"Var": tree.Var, "Type": tree.Type, "Block": tree.Block, "If": tree.If, "While": tree.While, "Print": tree.Print, "Assign": tree.Assign, "Store": tree.Store,
	"And": tree.And, "Less": tree.Less, "Plus": tree.Plus, "Minus": tree.Minus, "Times": tree.Times, "Not": tree.Not, "Index": tree.Index, "Length": tree.Length,
	"Call": tree.Call, "Number": tree.Number, "True": tree.True, "False": tree.False, "Ident": tree.Ident, "This": tree.This, "Array": tree.Array, "Object": tree.Object, "Paren": tree.Paren,
}

// shape is a tree as a text: of each node its kind and its kids, but of an Ident and a Number its text alone.
func shape(n tree.Node) string {
	if n.Kind == tree.Leaf {
		return n.Text
	}
	if (n.Kind == tree.Ident || n.Kind == tree.Number) && len(n.Kids) == 1 {
		return n.Kids[0].Text
	}
	list := []string{"?"}
	for name, kind := range kinds {
		if kind == n.Kind {
			list[0] = name
		}
	}
	for _, k := range n.Kids {
		list = append(list, shape(k))
	}
	return "<" + strings.Join(list, " ") + ">"
}

func short(n tree.Node) string { return fmt.Sprintf("%.300s", shape(n)) }

// sample is a clean text by its tokens.
type sample struct {
	leaves []tree.Node
	end    string
}

func (s sample) text() string {
	var text strings.Builder
	for _, l := range s.leaves {
		text.WriteString(l.Gap + l.Text)
	}
	return text.String() + s.end
}

// begin is where a token of a sample begins, and the text's length if there is none of that number.
func (s sample) begin(n int) int {
	if n < len(s.leaves) {
		return s.leaves[n].At
	}
	return len(s.text())
}

// wordy tells whether a token could grow together with a word beside it.
func wordy(c byte) bool {
	return 'a' <= c && c <= 'z' || 'A' <= c && c <= 'Z' || '0' <= c && c <= '9' || c == '_'
}

// spaced are tokens with the gaps given in turn; a gap that would be empty between two words is a blank.
func spaced(tokens []string, gaps ...string) sample {
	var s sample
	at := 0
	for i, text := range tokens {
		gap := gaps[i%len(gaps)]
		if i > 0 && gap == "" && wordy(text[0]) && wordy(tokens[i-1][len(tokens[i-1])-1]) {
			gap = " "
		}
		at += len(gap)
		s.leaves = append(s.leaves, leaf(gap, text, at))
		at += len(text)
	}
	s.end = gaps[len(tokens)%len(gaps)]
	return s
}

// gaps are those with which samples are written.
func gaps() [][]string {
	return [][]string{{""}, {" "}, {"/* } ; */"}, {"// class A\n"}, {"", " ", "\t\r\n", "", "/**/ //}\n "}}
}

// ready is a cursor that has taken some tokens and is within some constructs.
func ready(t *testing.T, s sample, taken, base int) *cursor.Cursor {
	t.Helper()
	c, at, err := cursor.New(s.text())
	if err != nil {
		t.Fatalf("New(%.300q): %d, %v", s.text(), at, err)
	}
	for range base {
		c.Down()
	}
	for range taken {
		kind, _ := c.Peek(0)
		c.Any(kind)
	}
	return c
}

// automaton goes through a sample with a stack of what must come, and tells what is read of it, or where it fails.
// On the stack lie tokens' texts and words in capitals, each of which stands for a line of the chapter; <Kind begins a node, > ends it.
type automaton struct {
	s     sample
	next  int
	base  int // within how many constructs it begins
	stack []string
	open  []tree.Node // nodes that are begun, behind one that holds all
	place int
	fault error
}

// follow goes through a sample from a token on, within some constructs.
func follow(t *testing.T, s sample, from, base int, goal string) *automaton {
	t.Helper()
	a := &automaton{s: s, next: from, base: base, open: make([]tree.Node, 1)}
	a.push(goal)
	for len(a.stack) > 0 && a.fault == nil {
		top := a.stack[len(a.stack)-1]
		a.stack = a.stack[:len(a.stack)-1]
		if read := below(top); read != nil {
			a.lower(t, read)
		} else {
			a.step(top)
		}
	}
	return a
}

// push lays a line onto the stack, its first word on top.
func (a *automaton) push(line string) {
	words := strings.Fields(line)
	slices.Reverse(words)
	a.stack = append(a.stack, words...)
}

// ahead is the text of a token ahead.
func (a *automaton) ahead(n int) string {
	if a.next+n < len(a.s.leaves) {
		return a.s.leaves[a.next+n].Text
	}
	return ""
}

func isName(text string) bool { return text != "" && lex.List(text)[0].Kind == lex.Name }

func (a *automaton) fail(err error) { a.place, a.fault = a.s.begin(a.next), err }

func (a *automaton) add(list ...tree.Node) {
	last := &a.open[len(a.open)-1]
	last.Kids = append(last.Kids, list...)
}

func (a *automaton) step(top string) {
	switch {
	case top == "CLASSES":
		if a.next < len(a.s.leaves) {
			a.push("CLASS CLASSES")
		}
	case top == "CLASS" && a.ahead(2) == "{" && a.ahead(3) == "public" && a.ahead(4) == "static":
		a.push("<Main class NAME { public static void main ( String [ ] NAME ) { STMTS } } >")
	case top == "CLASS":
		a.push("<Class class NAME EXTENDS { FIELDS METHODS } >")
	case top == "EXTENDS":
		if a.ahead(0) == "extends" {
			a.push("extends NAME")
		}
	case top == "FIELDS":
		if x := a.ahead(0); x == "int" || x == "boolean" || isName(x) {
			a.push("<Field TYPE NAME ; > FIELDS")
		}
	case top == "METHODS":
		if a.ahead(0) == "public" {
			a.push("<Method public TYPE NAME ( PARAMS ) { VARS STMTS return EXPR ; } > METHODS")
		}
	case top == "PARAMS":
		if a.ahead(0) != ")" {
			a.push("<Param TYPE NAME > MORE")
		}
	case top == "MORE":
		if a.ahead(0) == "," {
			a.push(", <Param TYPE NAME > MORE")
		}
	case top[0] == '<':
		a.open = append(a.open, node(kinds[top[1:]]))
	case top == ">":
		n := a.open[len(a.open)-1]
		a.open = a.open[:len(a.open)-1]
		a.add(n)
	case a.ahead(0) == top || top == "NAME" && isName(a.ahead(0)):
		a.add(a.s.leaves[a.next])
		a.next++
	default:
		a.fail(api.ErrForm)
	}
}

// below is how layers 9 and 10 read what a word stands for, and nil for a word of this layer.
func below(word string) func(*cursor.Cursor) []tree.Node {
	switch word {
	case "TYPE":
		return func(c *cursor.Cursor) []tree.Node { return []tree.Node{stmt.Type(c)} }
	case "EXPR":
		return func(c *cursor.Cursor) []tree.Node { return []tree.Node{expr.Parse(c)} }
	case "VARS":
		return stmt.Vars
	case "STMTS":
		return stmt.Stmts
	}
	return nil
}

// lower takes what a layer below reads.
func (a *automaton) lower(t *testing.T, read func(*cursor.Cursor) []tree.Node) {
	t.Helper()
	c := ready(t, a.s, a.next, a.base)
	list := read(c)
	a.place, a.fault = c.Failed()
	a.next = len(a.s.leaves) - c.Left()
	a.add(list...)
}

// asks holds all that can be asked of a sample against the automaton.
func asks(t *testing.T, s sample) {
	t.Helper()
	asksRead(t, s)
	asksClass(t, s, 0, 0)
}

func asksRead(t *testing.T, s sample) {
	t.Helper()
	want := follow(t, s, 0, 0, "<File CLASSES >")
	p, at, err := decl.Read(s.text())
	if want.fault != nil {
		if !nothing(p) || at != want.place || err != want.fault {
			t.Errorf("Read(%.300q) = %s, %q, %d, %v, want %d, %v", s.text(), short(p.Tree), p.Tail, at, err, want.place, want.fault)
		}
		return
	}
	if !equal(p.Tree, want.open[0].Kids[0]) || p.Tail != s.end || at != 0 || err != nil {
		t.Errorf("Read(%.300q) = %s, %q, %d, %v, want %s, %q", s.text(), short(p.Tree), p.Tail, at, err, short(want.open[0].Kids[0]), s.end)
	}
	asksStands(t, p, s.text())
	asksNames(t, p, s)
}

// asksStands asks that a file stands right, and that its text is the file.
func asksStands(t *testing.T, p decl.Parsed, s string) {
	t.Helper()
	if p.Tree.Kind != tree.File || !tree.Right(p.Tree) || !tree.Stands(p.Tree, 0) || tree.Place(p.Tree, 0).Kind != tree.File {
		t.Errorf("%.300q: %s is right: %v, it stands right: %v", s, short(p.Tree), tree.Right(p.Tree), tree.Stands(p.Tree, 0))
	}
	if tree.Text(p.Tree)+p.Tail != s || decl.Text(p) != s {
		t.Errorf("%.300q: the tree's text is %.300q, the tail %q, the text %.300q", s, tree.Text(p.Tree), p.Tail, decl.Text(p))
	}
}

// asksNames asks that the names are a sample's tokens of that kind.
func asksNames(t *testing.T, p decl.Parsed, s sample) {
	t.Helper()
	var want []tree.Node
	for _, l := range s.leaves {
		if isName(l.Text) {
			want = append(want, l)
		}
	}
	if got := slices.Collect(decl.Names(p)); !slices.EqualFunc(got, want, equal) {
		t.Errorf("%.300q: the names are %+v, want %+v", s.text(), got, want)
	}
}

// asksClass holds Class against the automaton, from a token on and within some constructs.
func asksClass(t *testing.T, s sample, from, base int) {
	t.Helper()
	want := follow(t, s, from, base, "CLASS")
	c := ready(t, s, from, base)
	n := decl.Class(c)
	at, err := c.Failed()
	if c.Deep() != base {
		t.Errorf("%.300q from token %d on, within %d: within %d then", s.text(), from, base, c.Deep())
	}
	if want.fault != nil {
		if !zero(n) || at != want.place || err != want.fault || c.Left() != 0 || c.At() != len(s.text()) || c.End() != "" {
			t.Errorf("%.300q from token %d on, within %d: %s, %d, %v, want %d, %v", s.text(), from, base, short(n), at, err, want.place, want.fault)
		}
		return
	}
	if !equal(n, want.open[0].Kids[0]) || at != 0 || err != nil {
		t.Errorf("%.300q from token %d on, within %d: %s, %d, %v, want %s", s.text(), from, base, short(n), at, err, short(want.open[0].Kids[0]))
	}
	asksBehind(t, s, want.next, c)
}

// asksBehind asks that a cursor stands ahead of a token, and takes it with the gap that it has.
func asksBehind(t *testing.T, s sample, next int, c *cursor.Cursor) {
	t.Helper()
	if c.Left() != len(s.leaves)-next || c.At() != s.begin(next) {
		t.Errorf("%.300q: %d left, at %d, want %d, at %d", s.text(), c.Left(), c.At(), len(s.leaves)-next, s.begin(next))
		return
	}
	if next == len(s.leaves) {
		if c.End() != s.end {
			t.Errorf("%.300q: End = %q, want %q", s.text(), c.End(), s.end)
		}
		return
	}
	kind, _ := c.Peek(0)
	if l := c.Any(kind); !equal(l, s.leaves[next]) {
		t.Errorf("%.300q: behind it stands %+v, want %+v", s.text(), l, s.leaves[next])
	}
}

// refused asks where a text fails, and with what.
func refused(t *testing.T, s string, place int, fault error) {
	t.Helper()
	if p, at, err := decl.Read(s); !nothing(p) || at != place || err != fault {
		t.Errorf("Read(%.100q) = %s, %q, %d, %v, want %d, %v", s, short(p.Tree), p.Tail, at, err, place, fault)
	}
}

// whole asks that a text is read.
func whole(t *testing.T, s string) {
	t.Helper()
	p, at, err := decl.Read(s)
	if at != 0 || err != nil {
		t.Errorf("Read(%.100q) = %s, %q, %d, %v", s, short(p.Tree), p.Tail, at, err)
	}
	asksStands(t, p, s)
}
