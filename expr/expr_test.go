package expr_test

import (
	"fmt"
	"math/rand"
	"reflect"
	"slices"
	"strings"
	"testing"

	"namesake/api"
	"namesake/cursor"
	"namesake/expr"
	"namesake/lex"
	"namesake/tree"
)

const (
	mostBytes = 4000
	mostDeep  = 200
	printer   = "System.out.println"
)

func leaf(gap, text string, at int) tree.Node {
	return tree.Node{Kind: tree.Leaf, Gap: gap, Text: text, At: at}
}

func node(kind tree.Kind, kids ...tree.Node) tree.Node {
	return tree.Node{Kind: kind, Kids: kids}
}

func equal(a, b tree.Node) bool {
	return a.Kind == b.Kind && a.Gap == b.Gap && a.Text == b.Text && a.At == b.At && slices.EqualFunc(a.Kids, b.Kids, equal)
}

// zero tells whether nothing is there, not even an empty list.
func zero(n tree.Node) bool { return reflect.DeepEqual(n, tree.Node{}) }

// shape is a tree as a text: of each node its kind and its kids.
func shape(n tree.Node) string {
	if n.Kind == tree.Leaf {
		return n.Text
	}
	names := map[tree.Kind]string{
		tree.And: "And", tree.Less: "Less", tree.Plus: "Plus", tree.Minus: "Minus", tree.Times: "Times", tree.Not: "Not", tree.Index: "Index",
		tree.Length: "Length", tree.Call: "Call", tree.Number: "Number", tree.True: "True", tree.False: "False", tree.Ident: "Ident",
		tree.This: "This", tree.Array: "Array", tree.Object: "Object", tree.Paren: "Paren",
	}
	list := []string{names[n.Kind]}
	for _, k := range n.Kids {
		list = append(list, shape(k))
	}
	return "<" + strings.Join(list, " ") + ">"
}

func short(n tree.Node) string { return fmt.Sprintf("%.300s", shape(n)) }

// sample is a clean text by its tokens.
type sample struct {
	leaves []tree.Node
	end    string
}

func (s sample) text() string {
	text := ""
	for _, l := range s.leaves {
		text += l.Gap + l.Text
	}
	return text + s.end
}

// begin is where a token of a sample begins, and the text's length if there is none of that number.
func (s sample) begin(n int) int {
	if n < len(s.leaves) {
		return s.leaves[n].At
	}
	return len(s.text())
}

func (s sample) tokens() []string {
	var out []string
	for _, l := range s.leaves {
		out = append(out, l.Text)
	}
	return out
}

// wordy tells whether a token could grow together with a word beside it.
func wordy(c byte) bool {
	return 'a' <= c && c <= 'z' || 'A' <= c && c <= 'Z' || '0' <= c && c <= '9' || c == '_'
}

// spaced are tokens with the gaps given in turn; a gap that would be empty between two words is a blank.
func spaced(tokens []string, gaps ...string) sample {
	var s sample
	at := 0
	for i, text := range tokens {
		gap := gaps[i%len(gaps)]
		if i > 0 && gap == "" && wordy(text[0]) && wordy(tokens[i-1][len(tokens[i-1])-1]) {
			gap = " "
		}
		at += len(gap)
		s.leaves = append(s.leaves, leaf(gap, text, at))
		at += len(text)
	}
	s.end = gaps[len(tokens)%len(gaps)]
	return s
}

// ways are the gaps with which samples are written.
func ways() [][]string {
	return [][]string{{""}, {" "}, {"/* ( */"}, {"// a +\n"}, {"", " ", "\t\r\n", "", "/**/ //)\n "}}
}

// want is what may come next, for the machine.
type want int

const (
	operand  want = iota // an operand, or ! ahead of one
	first                // the same, or the bracket behind no argument
	behind               // what may stand behind an operand
	point                // length or a name, behind a point
	called               // the bracket of a call
	made                 // int or a name, behind new
	madeInt              // the bracket behind new int
	madeName             // the bracket behind new and a name
	madeOpen             // the bracket that shuts this one
)

// verdict is what the machine says of a token.
type verdict int

const (
	goes verdict = iota
	over         // it can't be next, but all ahead of it is an expression
	wrong
	deep
)

// machine goes from token to token, by what may stand behind what: it tells with which one reading ends, without any tree.
// On its stack lie the constructs: ! and brackets, that of a call being a c.
type machine struct {
	base  int // constructs within which it was begun
	stack string
	next  want
}

func (m *machine) push(c string, next want) verdict {
	if m.base+len(m.stack) == mostDeep {
		return deep
	}
	m.stack += c
	m.next = next
	return goes
}

// ends takes what ! there is from the stack: a factor is read.
func (m *machine) ends() { m.stack = strings.TrimRight(m.stack, "!") }

// shuts takes a bracket from the stack, if it is one of these.
func (m *machine) shuts(these string) verdict {
	m.ends()
	switch {
	case m.stack == "":
		return over
	case !strings.Contains(these, m.stack[len(m.stack)-1:]):
		return wrong
	}
	m.stack = m.stack[:len(m.stack)-1]
	m.next = behind
	return goes
}

func (m *machine) goesTo(next want) verdict {
	m.next = next
	return goes
}

func (m *machine) step(text string) verdict {
	switch {
	case m.next == first && text == ")":
		return m.shuts("c")
	case m.next == operand || m.next == first:
		return m.begins(text)
	case m.next == behind:
		return m.stepBehind(text)
	case m.next == point && text == "length":
		return m.goesTo(behind)
	case m.next == point && isName(text):
		return m.goesTo(called)
	case m.next == called && text == "(":
		return m.push("c", first)
	case m.next == made && text == "int":
		return m.goesTo(madeInt)
	case m.next == made && isName(text):
		return m.goesTo(madeName)
	case m.next == madeInt && text == "[":
		return m.push("[", operand)
	case m.next == madeName && text == "(":
		return m.goesTo(madeOpen)
	case m.next == madeOpen && text == ")":
		return m.goesTo(behind)
	}
	return wrong
}

func (m *machine) begins(text string) verdict {
	switch {
	case text == "!" || text == "(":
		return m.push(text, operand)
	case text == "new":
		return m.goesTo(made)
	case singleKind(text) != 0:
		return m.goesTo(behind)
	}
	return wrong
}

func (m *machine) stepBehind(text string) verdict {
	switch text {
	case "[":
		return m.push("[", operand)
	case ".":
		return m.goesTo(point)
	case "&&", "<", "+", "-", "*":
		m.ends()
		return m.goesTo(operand)
	case ")":
		return m.shuts("(c")
	case "]":
		return m.shuts("[")
	case ",":
		if v := m.shuts("c"); v != goes {
			return v
		}
		m.stack += "c"
		return m.goesTo(operand)
	}
	if m.ends(); m.stack == "" {
		return over
	}
	return wrong
}

func isName(text string) bool { return lex.List(text)[0].Kind == lex.Name }

// singleKind is the kind of an operand that is one token.
func singleKind(text string) tree.Kind {
	switch text {
	case "true":
		return tree.True
	case "false":
		return tree.False
	case "this":
		return tree.This
	}
	switch lex.List(text)[0].Kind {
	case lex.Name:
		return tree.Ident
	case lex.Figure:
		return tree.Number
	}
	return 0
}

// reads tells how many tokens an expression has that is read from the first one on, or which one fails, and with what.
func reads(tokens []string, base int) (int, error) {
	m := machine{base: base}
	for i, text := range tokens {
		switch m.step(text) {
		case over:
			return i, nil
		case wrong:
			return i, api.ErrForm
		case deep:
			return i, api.ErrDeep
		}
	}
	if m.ends(); m.next == behind && m.stack == "" {
		return len(tokens), nil
	}
	return len(tokens), api.ErrForm
}

// split is the tree of tokens that are an expression: parted at the sign that binds the least, and of these at the last one.
func split(l []tree.Node) tree.Node {
	for _, level := range []map[string]tree.Kind{{"&&": tree.And}, {"<": tree.Less}, {"+": tree.Plus, "-": tree.Minus}, {"*": tree.Times}} {
		if i := lastOutside(l, level); i >= 0 {
			return node(level[l[i].Text], split(l[:i]), l[i], split(l[i+1:]))
		}
	}
	last := len(l) - 1
	switch {
	case last == 0:
		return node(singleKind(l[0].Text), l[0])
	case l[0].Text == "!":
		return node(tree.Not, l[0], split(l[1:]))
	case l[last].Text == "length":
		return node(tree.Length, split(l[:last-1]), l[last-1], l[last])
	}
	return splitBrackets(l, last)
}

// splitBrackets is the tree of tokens that end with a bracket.
func splitBrackets(l []tree.Node, last int) tree.Node {
	open := last
	for open > 0 && nested(l[open:]) != 0 {
		open--
	}
	switch {
	case open == 0:
		return node(tree.Paren, l[0], split(l[1:last]), l[last])
	case open == 2 && l[0].Text == "new" && l[1].Text == "int":
		return node(tree.Array, l[0], l[1], l[2], split(l[3:last]), l[last])
	case open == 2 && l[0].Text == "new":
		return node(tree.Object, l...)
	case l[open].Text == "[":
		return node(tree.Index, split(l[:open]), l[open], split(l[open+1:last]), l[last])
	}
	kids := []tree.Node{split(l[:open-2]), l[open-2], l[open-1], l[open]}
	from := open + 1
	for i := from; i <= last; i++ {
		if between := l[from:i]; len(between) > 0 && nested(between) == 0 && (l[i].Text == "," || i == last) {
			kids = append(kids, split(between), l[i])
			from = i + 1
		}
	}
	if open+1 == last {
		kids = append(kids, l[last])
	}
	return node(tree.Call, kids...)
}

// lastOutside is where the last one of some signs stands outside all brackets.
func lastOutside(l []tree.Node, signs map[string]tree.Kind) int {
	for i := len(l) - 1; i >= 0; i-- {
		if signs[l[i].Text] != 0 && nested(l[:i]) == 0 {
			return i
		}
	}
	return -1
}

// nested is how many more brackets are opened than shut.
func nested(l []tree.Node) int {
	n := 0
	for _, x := range l {
		switch x.Text {
		case "(", "[":
			n++
		case ")", "]":
			n--
		}
	}
	return n
}

// asks holds Read and Parse of a sample against the machine and the split.
func asks(t *testing.T, s sample) {
	t.Helper()
	asksRead(t, s)
	asksParse(t, s, 0, 0)
}

func asksRead(t *testing.T, s sample) {
	t.Helper()
	taken, fault := reads(s.tokens(), 0)
	if fault == nil && taken < len(s.leaves) {
		fault = api.ErrForm
	}
	n, end, at, err := expr.Read(s.text())
	if fault != nil {
		if !zero(n) || end != "" || at != s.begin(taken) || err != fault {
			t.Errorf("Read(%.300q) = %s, %q, %d, %v, want %d, %v", s.text(), short(n), end, at, err, s.begin(taken), fault)
		}
		return
	}
	if want := split(s.leaves); !equal(n, want) || end != s.end || at != 0 || err != nil {
		t.Errorf("Read(%.300q) = %s, %q, %d, %v, want %s, %q", s.text(), short(n), end, at, err, short(want), s.end)
	}
	if !tree.Right(n) || !tree.Stands(n, 0) || tree.Text(n)+end != s.text() {
		t.Errorf("%.300q: right: %v, stands right: %v, text %.300q", s.text(), tree.Right(n), tree.Stands(n, 0), tree.Text(n))
	}
}

// asksParse holds Parse against the machine and the split, from a token on and within some constructs.
func asksParse(t *testing.T, s sample, from, base int) {
	t.Helper()
	c := ready(t, s, from, base)
	taken, fault := reads(s.tokens()[from:], base)
	taken += from
	if got, want := expr.Starts(c), starting(s.tokens()[from:]); got != want {
		t.Errorf("%.300q from token %d on: Starts = %v", s.text(), from, got)
	}
	n := expr.Parse(c)
	at, err := c.Failed()
	if c.Deep() != base {
		t.Errorf("%.300q from token %d on, within %d: within %d then", s.text(), from, base, c.Deep())
	}
	if fault != nil {
		if !zero(n) || at != s.begin(taken) || err != fault {
			t.Errorf("%.300q from token %d on, within %d: %s, %d, %v, want %d, %v", s.text(), from, base, short(n), at, err, s.begin(taken), fault)
		}
		return
	}
	if want := split(s.leaves[from:taken]); !equal(n, want) || at != 0 || err != nil {
		t.Errorf("%.300q from token %d on, within %d: %s, %d, %v, want %s", s.text(), from, base, short(n), at, err, short(want))
	}
	if c.Left() != len(s.leaves)-taken || c.At() != s.begin(taken) {
		t.Errorf("%.300q from token %d on: %d left at %d", s.text(), from, c.Left(), c.At())
	}
	if want := s.end; c.Left() == 0 && c.End() != want {
		t.Errorf("%.300q: End = %q, want %q", s.text(), c.End(), want)
	}
}

// ready is a cursor that has taken some tokens and is within some constructs.
func ready(t *testing.T, s sample, taken, base int) *cursor.Cursor {
	t.Helper()
	c, at, err := cursor.New(s.text())
	if err != nil {
		t.Fatalf("New(%.300q): %d, %v", s.text(), at, err)
	}
	for range base {
		c.Down()
	}
	for range taken {
		kind, _ := c.Peek(0)
		c.Any(kind)
	}
	return c
}

// starting tells whether an expression may begin with the first of some tokens.
func starting(tokens []string) bool {
	if len(tokens) == 0 {
		return false
	}
	return slices.Contains([]string{"!", "(", "new"}, tokens[0]) || singleKind(tokens[0]) != 0
}

func TestChapterExamples(t *testing.T) {
	for _, x := range []struct {
		s    string
		want tree.Node
	}{
		{"a + b * c", node(tree.Plus,
			node(tree.Ident, leaf("", "a", 0)), leaf(" ", "+", 2),
			node(tree.Times, node(tree.Ident, leaf(" ", "b", 4)), leaf(" ", "*", 6), node(tree.Ident, leaf(" ", "c", 8))))},
		{"1 < 2 && !x", node(tree.And,
			node(tree.Less, node(tree.Number, leaf("", "1", 0)), leaf(" ", "<", 2), node(tree.Number, leaf(" ", "2", 4))),
			leaf(" ", "&&", 6),
			node(tree.Not, leaf(" ", "!", 9), node(tree.Ident, leaf("", "x", 10))))},
	} {
		n, end, at, err := expr.Read(x.s)
		if !reflect.DeepEqual(n, x.want) || end != "" || at != 0 || err != nil {
			t.Errorf("%s: %s, %q, %d, %v", x.s, short(n), end, at, err)
		}
	}
}

// Each construct alone, with each leaf's gap, text and place.
func TestWrittenOut(t *testing.T) {
	a := node(tree.Ident, leaf("", "a", 0))
	for _, x := range []struct {
		s, end string
		want   tree.Node
	}{
		{"7", "", node(tree.Number, leaf("", "7", 0))},
		{" 2147483647 ", " ", node(tree.Number, leaf(" ", "2147483647", 1))},
		{"/**/true// end", "// end", node(tree.True, leaf("/**/", "true", 4))},
		{"// !\nfalse", "", node(tree.False, leaf("// !\n", "false", 5))},
		{"\tthis\n", "\n", node(tree.This, leaf("\t", "this", 1))},
		{"a", "", a},
		{"System", "", node(tree.Ident, leaf("", "System", 0))},
		{"new int [ a ]", "", node(tree.Array,
			leaf("", "new", 0), leaf(" ", "int", 4), leaf(" ", "[", 8), node(tree.Ident, leaf(" ", "a", 10)), leaf(" ", "]", 12))},
		{"new A()", "", node(tree.Object, leaf("", "new", 0), leaf(" ", "A", 4), leaf("", "(", 5), leaf("", ")", 6))},
		{"(/* ( */a )\n", "\n", node(tree.Paren, leaf("", "(", 0), node(tree.Ident, leaf("/* ( */", "a", 8)), leaf(" ", ")", 10))},
		{"a[7]", "", node(tree.Index, a, leaf("", "[", 1), node(tree.Number, leaf("", "7", 2)), leaf("", "]", 3))},
		{"a . length", "", node(tree.Length, a, leaf(" ", ".", 2), leaf(" ", "length", 4))},
		{"a.m()", "", node(tree.Call, a, leaf("", ".", 1), leaf("", "m", 2), leaf("", "(", 3), leaf("", ")", 4))},
		{"a.m( )/*m()*/", "/*m()*/", node(tree.Call, a, leaf("", ".", 1), leaf("", "m", 2), leaf("", "(", 3), leaf(" ", ")", 5))},
		{"a.m(7)", "", node(tree.Call, a, leaf("", ".", 1), leaf("", "m", 2), leaf("", "(", 3), node(tree.Number, leaf("", "7", 4)), leaf("", ")", 5))},
		{"a.m(7, b ,this)", "", node(tree.Call, a, leaf("", ".", 1), leaf("", "m", 2), leaf("", "(", 3),
			node(tree.Number, leaf("", "7", 4)), leaf("", ",", 5), node(tree.Ident, leaf(" ", "b", 7)), leaf(" ", ",", 9), node(tree.This, leaf("", "this", 10)), leaf("", ")", 14))},
		{"!\n a", "", node(tree.Not, leaf("", "!", 0), node(tree.Ident, leaf("\n ", "a", 3)))},
		{"a&&b", "", node(tree.And, a, leaf("", "&&", 1), node(tree.Ident, leaf("", "b", 3)))},
		{"a <b", "", node(tree.Less, a, leaf(" ", "<", 2), node(tree.Ident, leaf("", "b", 3)))},
		{"a//+\n+ b", "", node(tree.Plus, a, leaf("//+\n", "+", 5), node(tree.Ident, leaf(" ", "b", 7)))},
		{"a- b", "", node(tree.Minus, a, leaf("", "-", 1), node(tree.Ident, leaf(" ", "b", 3)))},
		{"a /* * */ * b", "", node(tree.Times, a, leaf(" /* * */ ", "*", 10), node(tree.Ident, leaf(" ", "b", 12)))},
	} {
		n, end, at, err := expr.Read(x.s)
		if !reflect.DeepEqual(n, x.want) || end != x.end || at != 0 || err != nil {
			t.Errorf("%q: %+v, %q, %d, %v", x.s, n, end, at, err)
		}
	}
}

// Constructs within one another, by their shapes.
func TestShapes(t *testing.T) {
	for s, want := range map[string]string{
		"!a.b()":              "<Not ! <Call <Ident a> . b ( )>>",
		"!a[0]":               "<Not ! <Index <Ident a> [ <Number 0> ]>>",
		"!!a.length":          "<Not ! <Not ! <Length <Ident a> . length>>>",
		"!a * !b":             "<Times <Not ! <Ident a>> * <Not ! <Ident b>>>",
		"!(a && b)":           "<Not ! <Paren ( <And <Ident a> && <Ident b>> )>>",
		"a[0][1]":             "<Index <Index <Ident a> [ <Number 0> ]> [ <Number 1> ]>",
		"a[b[0]]":             "<Index <Ident a> [ <Index <Ident b> [ <Number 0> ]> ]>",
		"a[b + 1].length":     "<Length <Index <Ident a> [ <Plus <Ident b> + <Number 1>> ]> . length>",
		"a.length.length":     "<Length <Length <Ident a> . length> . length>",
		"a.length[0]":         "<Index <Length <Ident a> . length> [ <Number 0> ]>",
		"a.length.m()":        "<Call <Length <Ident a> . length> . m ( )>",
		"a.m().n(b.k())":      "<Call <Call <Ident a> . m ( )> . n ( <Call <Ident b> . k ( )> )>",
		"a.m()[0].n()":        "<Call <Index <Call <Ident a> . m ( )> [ <Number 0> ]> . n ( )>",
		"a.m(b, c.n(d, e))":   "<Call <Ident a> . m ( <Ident b> , <Call <Ident c> . n ( <Ident d> , <Ident e> )> )>",
		"a.m(b && c, !d)":     "<Call <Ident a> . m ( <And <Ident b> && <Ident c>> , <Not ! <Ident d>> )>",
		"this.m((a), b)":      "<Call <This this> . m ( <Paren ( <Ident a> )> , <Ident b> )>",
		"true.m()":            "<Call <True true> . m ( )>",
		"false.length":        "<Length <False false> . length>",
		"7[7]":                "<Index <Number 7> [ <Number 7> ]>",
		"new A().m()":         "<Call <Object new A ( )> . m ( )>",
		"new A()[0]":          "<Index <Object new A ( )> [ <Number 0> ]>",
		"new A().length":      "<Length <Object new A ( )> . length>",
		"new int[7].length":   "<Length <Array new int [ <Number 7> ]> . length>",
		"new int[7][0]":       "<Index <Array new int [ <Number 7> ]> [ <Number 0> ]>",
		"new int[a[0]]":       "<Array new int [ <Index <Ident a> [ <Number 0> ]> ]>",
		"new int[new int[7]]": "<Array new int [ <Array new int [ <Number 7> ]> ]>",
		"new int[7].m()":      "<Call <Array new int [ <Number 7> ]> . m ( )>",
		"!new A().m()":        "<Not ! <Call <Object new A ( )> . m ( )>>",
		"((a))":               "<Paren ( <Paren ( <Ident a> )> )>",
		"(a + b) * c":         "<Times <Paren ( <Plus <Ident a> + <Ident b>> )> * <Ident c>>",
		"(a).m()":             "<Call <Paren ( <Ident a> )> . m ( )>",
		"(a)[0]":              "<Index <Paren ( <Ident a> )> [ <Number 0> ]>",
		"(a).length":          "<Length <Paren ( <Ident a> )> . length>",
		"a - b.m(c - d) - e":  "<Minus <Minus <Ident a> - <Call <Ident b> . m ( <Minus <Ident c> - <Ident d>> )>> - <Ident e>>",
		"a < b + c * d && e":  "<And <Less <Ident a> < <Plus <Ident b> + <Times <Ident c> * <Ident d>>>> && <Ident e>>",
		"a * b + c < d && e":  "<And <Less <Plus <Times <Ident a> * <Ident b>> + <Ident c>> < <Ident d>> && <Ident e>>",
		"a && b < c - d * e":  "<And <Ident a> && <Less <Ident b> < <Minus <Ident c> - <Times <Ident d> * <Ident e>>>>>",
		"a + b - c + d":       "<Plus <Minus <Plus <Ident a> + <Ident b>> - <Ident c>> + <Ident d>>",
		"a && b && c && d":    "<And <And <And <Ident a> && <Ident b>> && <Ident c>> && <Ident d>>",
		"a < b < c < d":       "<Less <Less <Less <Ident a> < <Ident b>> < <Ident c>> < <Ident d>>",
		"a * b * c * d":       "<Times <Times <Times <Ident a> * <Ident b>> * <Ident c>> * <Ident d>>",
		"a * b + c * d":       "<Plus <Times <Ident a> * <Ident b>> + <Times <Ident c> * <Ident d>>>",
		"!a && !b && !!c":     "<And <And <Not ! <Ident a>> && <Not ! <Ident b>>> && <Not ! <Not ! <Ident c>>>>",
		"System.out()":        "<Call <Ident System> . out ( )>",
		"System . println(a)": "<Call <Ident System> . println ( <Ident a> )>",
	} {
		n, _, _, err := expr.Read(s)
		if shape(n) != want || err != nil {
			t.Errorf("%s: %s, %v, want %s", s, shape(n), err, want)
		}
	}
}

// levels tell how close a sign binds.
var levels = map[string]int{"&&": 1, "<": 2, "+": 3, "-": 3, "*": 4}

var kinds = map[string]tree.Kind{"&&": tree.And, "<": tree.Less, "+": tree.Plus, "-": tree.Minus, "*": tree.Times}

// Of two signs the one that binds closer, of equal ones the first one, makes what the other one takes.
func TestWhichSignBindsCloser(t *testing.T) {
	for x := range levels {
		for y := range levels {
			for _, gaps := range ways() {
				s := spaced([]string{"a", x, "b", y, "c"}, gaps...)
				l := s.leaves
				a, b, c := node(tree.Ident, l[0]), node(tree.Ident, l[2]), node(tree.Ident, l[4])
				want := node(kinds[y], node(kinds[x], a, l[1], b), l[3], c)
				if levels[y] > levels[x] {
					want = node(kinds[x], a, l[1], node(kinds[y], b, l[3], c))
				}
				if n, _, _, err := expr.Read(s.text()); !equal(n, want) || err != nil {
					t.Errorf("%q: %s, %v, want %s", s.text(), short(n), err, short(want))
				}
			}
		}
	}
}

// Behind ! nothing but a factor is taken, whatever sign stands behind.
func TestNotBindsClosest(t *testing.T) {
	for x := range levels {
		for _, gaps := range ways() {
			s := spaced([]string{"!", "a", x, "!", "b"}, gaps...)
			l := s.leaves
			want := node(kinds[x], node(tree.Not, l[0], node(tree.Ident, l[1])), l[2], node(tree.Not, l[3], node(tree.Ident, l[4])))
			if n, _, _, err := expr.Read(s.text()); !equal(n, want) || err != nil {
				t.Errorf("%q: %s, %v, want %s", s.text(), short(n), err, short(want))
			}
		}
	}
}

// All signs in all orders of five.
func TestAllOrdersOfSigns(t *testing.T) {
	signs := []string{"&&", "<", "+", "-", "*"}
	for n := range 5 * 5 * 5 * 5 * 5 {
		tokens := []string{"a"}
		for range 5 {
			tokens = append(tokens, signs[n%5], "b")
			n /= 5
		}
		asks(t, spaced(tokens, " "))
	}
}

// all are tokens of each kind that there is, of each keyword and each sign.
func all() []string {
	out := []string{"a", "System", "0", "7", printer}
	out = append(out, strings.Fields("class extends public static void main String int boolean return if else while true false this new length")...)
	return append(out, strings.Fields("{ } ( ) [ ] ; , . = < + - * ! &&")...)
}

// each are right texts, by their tokens, one for each construct at least.
func each() []string {
	return []string{
		"a", "7", "true", "false", "this", "new A ( )", "new int [ a ]", "( a )", "! a", "a [ b ]", "a . length", "a . m ( )", "a . m ( b )", "a . m ( b , c , d )",
		"a && b", "a < b", "a + b", "a - b", "a * b", "! ( a . m ( b [ c ] , new int [ d ] ) . length < 7 + 8 * new A ( ) . n ( ) ) && this . k ( true )",
	}
}

// At each place of each construct stands each token there is, in place of the one that was there, or ahead of it; or none stands there.
func TestEachTokenAtEachPlace(t *testing.T) {
	for _, text := range each() {
		tokens := strings.Fields(text)
		for _, gaps := range ways() {
			asks(t, spaced(tokens, gaps...))
		}
		for i := range len(tokens) + 1 {
			for _, x := range all() {
				asks(t, spaced(slices.Insert(slices.Clone(tokens), i, x), " "))
				if i < len(tokens) {
					asks(t, spaced(slices.Replace(slices.Clone(tokens), i, i+1, x), "", " "))
				}
			}
			asks(t, spaced(tokens[:i], "", "/*)*/"))
			asks(t, spaced(tokens[i:], " "))
			if i < len(tokens) {
				asks(t, spaced(slices.Delete(slices.Clone(tokens), i, i+1), " "))
			}
		}
	}
}

// All that can be read, token by token, with each token behind it that can be or can't be next.
func TestSmallTexts(t *testing.T) {
	for _, pieces := range [][]string{all(), strings.Fields("a 7 ! ( ) [ ] . , length new int && *"), strings.Fields("a ! ( ) . , - <")} {
		list := [][]string{nil}
		asked := 0
		for n := 0; n < len(list) && asked < 60000; n++ {
			for _, x := range pieces {
				tokens := append(slices.Clone(list[n]), x)
				asks(t, spaced(tokens, ways()[asked%5]...))
				if taken, _ := reads(tokens, 0); taken == len(tokens) {
					list = append(list, tokens)
				}
				asked++
			}
			if t.Failed() {
				return
			}
		}
	}
}

// grown are the tokens of an expression that is drawn.
func grown(draw *rand.Rand, size int) []string {
	if size <= 1 {
		return []string{[]string{"a", "b", "this", "true", "false", "0", "2147483647", "_x"}[draw.Intn(8)]}
	}
	part := func(n int) []string { return grown(draw, n) }
	size--
	switch draw.Intn(10) {
	case 0:
		return append([]string{"!"}, part(size)...)
	case 1:
		return slices.Concat([]string{"("}, part(size), []string{")"})
	case 2:
		return slices.Concat([]string{"new", "int", "["}, part(size), []string{"]"})
	case 3:
		return slices.Concat(part(size/2), []string{"["}, part(size-size/2), []string{"]"})
	case 4:
		return append(part(size), ".", "length")
	case 5:
		return slices.Concat([]string{"new", "A", "(", ")", ".", "m", "("}, part(size), []string{")"})
	case 6:
		return slices.Concat(part(size/2), []string{".", "m", "("}, part(size-size/2), []string{",", "b", ")"})
	case 7:
		return append(part(size), ".", "n", "(", ")")
	}
	sign := []string{"&&", "<", "+", "-", "*"}[draw.Intn(5)]
	return slices.Concat(part(size/2), []string{sign}, part(size-size/2))
}

// Drawn the same way each time: large expressions, as they are and with tokens that are changed.
func TestDrawnTexts(t *testing.T) {
	draw := rand.New(rand.NewSource(9))
	for range 1500 {
		tokens := grown(draw, 1+draw.Intn(60))
		if taken, err := reads(tokens, 0); taken != len(tokens) || err != nil {
			t.Fatalf("%q is no expression from token %d on", tokens, taken)
		}
		asks(t, spaced(tokens, ways()[draw.Intn(5)]...))
		for range 4 {
			i := draw.Intn(len(tokens))
			tokens[i] = all()[draw.Intn(len(all()))]
			asks(t, spaced(tokens, ways()[draw.Intn(5)]...))
		}
		if t.Failed() {
			return
		}
	}
}

// Other blanks and notes between change gaps and places alone.
func TestOtherBlanks(t *testing.T) {
	draw := rand.New(rand.NewSource(92))
	for range 300 {
		tokens := grown(draw, 1+draw.Intn(40))
		one, _, _, err := expr.Read(spaced(tokens, " ").text())
		if err != nil {
			t.Fatal(tokens, err)
		}
		for _, gaps := range ways() {
			s := spaced(tokens, gaps...)
			n, end, _, err := expr.Read(s.text())
			if err != nil || end != s.end || !tree.Same(tree.Strip(n), tree.Strip(one)) || !tree.Stands(n, 0) || tree.Text(n)+end != s.text() {
				t.Errorf("%q: %s, %q, %v, want %s", s.text(), short(n), end, err, short(one))
			}
			if again, _, _, err := expr.Read(tree.Text(n)); !equal(again, n) || err != nil {
				t.Errorf("%q read again: %s, %v", s.text(), short(again), err)
			}
		}
	}
}

// refused asks where a text fails, and with what.
func refused(t *testing.T, s string, place int, fault error) {
	t.Helper()
	if n, end, at, err := expr.Read(s); !zero(n) || end != "" || at != place || err != fault {
		t.Errorf("Read(%.100q) = %s, %q, %d, %v, want %d, %v", s, short(n), end, at, err, place, fault)
	}
}

func TestWrong(t *testing.T) {
	for _, x := range []struct {
		s  string
		at int
	}{
		{"", 0}, {" ", 1}, {" \t\r\n", 4}, {"// a", 4}, {"/* a */\n", 8},
		// A token that can't be next.
		{"+ a", 0}, {"a + * b", 4}, {"- 1", 0}, {"a ! b", 2}, {"! + a", 2}, {"! )", 2}, {"&& a", 0}, {"* a", 0}, {"< a", 0}, {". a", 0}, {", a", 0}, {"[a]", 0}, {"{a}", 0},
		{"a + ; b", 4}, {"a = b", 2}, {"a < = b", 4}, {"a.", 2}, {"a . b", 5}, {"a.7", 2}, {"a.7()", 2}, {"a.(b)", 2}, {"a..m()", 2}, {"a.length()", 8}, {"a.m[0]", 3}, {"a.m.n()", 3}, {"a.this", 2}, {"System.out.m()", 10},
		{"new", 3}, {"new 7", 4}, {"new int", 7}, {"new int()", 7}, {"new int(a)", 7}, {"new int a", 8}, {"new int[]", 8}, {"new A", 5}, {"new A[7]", 5}, {"new A(a)", 6}, {"new A(", 6}, {"new (A)", 4}, {"new new A()", 4}, {"new A.m()", 5}, {"int[a]", 0},
		{"()", 1}, {"a[]", 2}, {"m()", 1}, {"m(a)", 1}, {"! ", 2}, {"a + ", 4}, {"a &&\n", 5}, {"a * // b", 8},
		// Brackets missing or too many.
		{"(a", 2}, {"((a)", 4}, {"(a]", 2}, {"(a)]", 3}, {"a)", 1}, {"(a))", 3}, {"a]", 1}, {"a[b", 3}, {"a[b)", 3}, {"a[b]]", 4}, {"a[[b]]", 2}, {"a[b[c]", 6}, {"a.m(", 4}, {"a.m(b", 5}, {"a.m(b]", 5}, {"a.m)", 3}, {"a.m())", 5}, {"a.m((b)", 7}, {"new int[a", 9}, {"new int[a)", 9}, {"new int a]", 8}, {"(a + b", 6}, {"(a +)", 4}, {"{", 0}, {"(a}", 2},
		// A comma too many or too few.
		{"a.m(,)", 4}, {"a.m(,b)", 4}, {"a.m(b,)", 6}, {"a.m(b,,c)", 6}, {"a.m(b c)", 6}, {"a.m(b, c d)", 9}, {"a.m(b; c)", 5}, {"(a, b)", 2}, {"a[b, c]", 3}, {"a, b", 1}, {"new int[a, b]", 9}, {"new A(,)", 6}, {"a.m((b, c))", 6}, {"a.m(b,", 6},
		// Something behind it all.
		{"a b", 2}, {"a 7", 2}, {"a;", 1}, {"a true", 2}, {"a this", 2}, {"a new A()", 2}, {"a (b)", 2}, {"a {", 2}, {"(a) b", 4}, {"a.m() b", 6}, {"a // x\n b", 8}, {"new A() new A()", 8}, {"a = 1;", 2}, {"a length", 2}, {"a.length length", 9}, {"! a ! b", 4},
		// Keywords in the place of names.
		{"class", 0}, {"int", 0}, {"main", 0}, {"length", 0}, {"String", 0}, {"void + a", 0}, {"a + if", 4}, {"a.int()", 2}, {"a.main()", 2}, {"a.true()", 2}, {"a.new()", 2}, {"new boolean()", 4}, {"new String()", 4}, {"new length()", 4}, {"new this()", 4}, {printer, 0}, {printer + "(a)", 0}, {"a." + printer + "()", 2}, {"new " + printer + "()", 4},
	} {
		refused(t, x.s, x.at, api.ErrForm)
	}
}

func TestNotClean(t *testing.T) {
	for _, x := range []struct {
		s  string
		at int
	}{
		{"?", 0}, {"a ?", 2}, {"a ? b : c", 2}, {"a & b", 2}, {"a / b", 2}, {"a > b", 2}, {"007", 0}, {"a + 1b", 4}, {"2147483648", 0}, {"a /* b", 2}, {"\x00", 0}, {"a\xff", 1}, {"\"a\"", 0},
		{strings.Repeat("n", 65), 0},
		// What isn't clean is told ahead of what isn't right.
		{"+ ?", 2}, {") ( ?", 4}, {"a b ?", 4}, {strings.Repeat("(", 300) + "?", 300},
	} {
		refused(t, x.s, x.at, api.ErrForm)
	}
}

func TestSizes(t *testing.T) {
	for _, s := range []string{
		"a" + strings.Repeat("-a", mostBytes/2-1), "a" + strings.Repeat("&&a", mostBytes/3-1), "a" + strings.Repeat("[0]", mostBytes/3-1),
		"a" + strings.Repeat(".m()", mostBytes/4-1), "a" + strings.Repeat(".length", mostBytes/7-1), "a.m(b" + strings.Repeat(",c", mostBytes/2-3) + ")",
		"a" + strings.Repeat("*!a", mostBytes/3-1), "a", "(" + strings.Repeat("a+", mostBytes/2-2) + "a)",
	} {
		full := s + strings.Repeat(" ", mostBytes-len(s))
		n, end, at, err := expr.Read(full)
		if len(full) != mostBytes || at != 0 || err != nil || !tree.Right(n) || !tree.Stands(n, 0) || tree.Text(n) != s || s+end != full {
			t.Errorf("%.20s: %q, %d, %v", s, end, at, err)
		}
		refused(t, full+" ", mostBytes, api.ErrLarge)
		refused(t, full+"?", mostBytes, api.ErrLarge)
		refused(t, full[:mostBytes-1]+"?", mostBytes-1, api.ErrForm)
	}
	refused(t, strings.Repeat("?", mostBytes+1), mostBytes, api.ErrLarge)
	refused(t, strings.Repeat("(", mostBytes+1), mostBytes, api.ErrLarge)
	refused(t, strings.Repeat("(", mostBytes), mostDeep, api.ErrDeep)
	refused(t, strings.Repeat(" ", mostBytes), mostBytes, api.ErrForm)
	refused(t, "a"+strings.Repeat("-", mostBytes-1), 2, api.ErrForm)
	refused(t, strings.Repeat("a-", mostBytes/2), mostBytes, api.ErrForm)
}

// Long ones are held against the tree that each sign, or what stands behind, makes of all ahead of it.
func TestLongChains(t *testing.T) {
	for _, x := range []struct {
		kind tree.Kind
		add  string
	}{
		{tree.And, "&& b"}, {tree.Less, "< b"}, {tree.Plus, "+ b"}, {tree.Minus, "- b"}, {tree.Times, "* b"}, {tree.Index, "[ b ]"}, {tree.Length, ". length"}, {tree.Call, ". m ( )"},
	} {
		add := strings.Fields(x.add)
		tokens := []string{"a"}
		for range 400 {
			tokens = append(tokens, add...)
		}
		s := spaced(tokens, "")
		want := node(tree.Ident, s.leaves[0])
		for i := 1; i < len(tokens); i += len(add) {
			kids := []tree.Node{want}
			for _, l := range s.leaves[i : i+len(add)] {
				if l.Text == "b" {
					l = node(tree.Ident, l)
				}
				kids = append(kids, l)
			}
			want = node(x.kind, kids...)
		}
		if n, _, _, err := expr.Read(s.text()); !equal(n, want) || err != nil {
			t.Errorf("%s: %s, %v", x.add, short(n), err)
		}
	}
}

// pair is what stands ahead of an operand and behind it, with where in it the token stands that goes deeper.
type pair struct {
	ahead, after string
	at           int
}

func pairs() []pair {
	return []pair{{"!", "", 0}, {"(", ")", 0}, {"a[", "]", 1}, {"a.m(", ")", 3}, {"a.m(b,", ")", 3}, {"a.m(", ",b)", 3}, {"new int[", "]", 7}, {"new int[", "][0]", 7}, {"(b+", ")", 0}, {"(", ")*c", 0}, {"(", ")[0]", 0}, {"a[", "].m()", 1}}
}

// laid are pairs, in turn, so many times within one another.
func laid(times int, inner string, list ...pair) string {
	ahead, after := "", ""
	for i := range times {
		p := list[i%len(list)]
		ahead += p.ahead
		after = p.after + after
	}
	return ahead + inner + after
}

// whole asks that a text is read.
func whole(t *testing.T, s string) {
	t.Helper()
	if n, end, at, err := expr.Read(s); end != "" || at != 0 || err != nil || tree.Text(n) != s || !tree.Stands(n, 0) {
		t.Errorf("Read(%.100q) = %s, %q, %d, %v", s, short(n), end, at, err)
	}
}

// Each construct, alone and mixed, 200 deep and one more.
func TestDeep(t *testing.T) {
	lists := [][]pair{pairs()}
	for _, p := range pairs() {
		lists = append(lists, []pair{p})
		for _, q := range pairs() {
			lists = append(lists, []pair{p, q})
		}
	}
	for _, list := range lists {
		whole(t, laid(mostDeep, "a", list...))
		whole(t, laid(mostDeep-1, "(a)", list...))
		whole(t, laid(mostDeep-1, "(a)+!b+c[d]*e.m(f).n(g)-new int[h]", list...))
		p := list[mostDeep%len(list)]
		// Where the text goes wrong behind that place nobody looks.
		for _, inner := range []string{"a", "?", ")"} {
			s := laid(mostDeep+1, inner, list...)
			at := len(strings.SplitN(laid(mostDeep, "\x00", list...), "\x00", 2)[0]) + p.at
			if inner == "?" {
				refused(t, s, strings.Index(s, "?"), api.ErrForm)
				continue
			}
			refused(t, s, at, api.ErrDeep)
		}
	}
}

// Of what makes an object there is no construct, nor of what has no brackets; those side by side are none within one another.
func TestNotDeeper(t *testing.T) {
	for _, inner := range []string{"new A()", "a.length", "a+b*c<d&&e", "true", "7", "this", "new A().length"} {
		for _, p := range pairs() {
			whole(t, laid(mostDeep, inner, p))
		}
	}
	for _, inner := range []string{"new A().m()", "a.m()"} {
		for _, p := range pairs() {
			ahead := strings.SplitN(laid(mostDeep, "?", p), "?", 2)[0]
			refused(t, laid(mostDeep, inner, p), len(ahead)+len(inner)-2, api.ErrDeep)
			whole(t, laid(mostDeep-1, inner, p))
		}
	}
	whole(t, "a"+strings.Repeat("[0]", mostDeep+1))
	whole(t, "a"+strings.Repeat(".m(b)", mostDeep+1))
	whole(t, "a.m((b)"+strings.Repeat(",(b)", mostDeep+1)+")")
	whole(t, "!a"+strings.Repeat("&&!a", mostDeep+1))
	whole(t, "(a)"+strings.Repeat("+(a)", mostDeep+1))
	whole(t, "new int[a]"+strings.Repeat("-new int[a]", mostDeep+1))
	whole(t, laid(mostDeep-1, "a.m(b,c,d)", pair{"(", ")", 0}))
}

// Behind ! it is deeper up to the factor's end, what stands in brackets behind it included, and no longer.
func TestHowFarNotReaches(t *testing.T) {
	bangs := strings.Repeat("!", mostDeep)
	whole(t, bangs+"a.length")
	whole(t, bangs+"a&&(b)")
	whole(t, bangs+"a*"+bangs+"b")
	refused(t, bangs+"a[0]", mostDeep+1, api.ErrDeep)
	refused(t, bangs+"(a)", mostDeep, api.ErrDeep)
	refused(t, bangs+"a.m()", mostDeep+3, api.ErrDeep)
	refused(t, bangs+"new int[0]", mostDeep+7, api.ErrDeep)
	refused(t, bangs+"a&&"+bangs+"!b", 2*mostDeep+3, api.ErrDeep)
	whole(t, "("+bangs[2:]+"a[0])")
	refused(t, "("+bangs[1:]+"a[0])", mostDeep+1, api.ErrDeep)
}

// Where a token can't be next nothing goes deeper: that is what fails, within 200 constructs, too.
func TestWrongWithinTheDeepest(t *testing.T) {
	for _, p := range pairs() {
		ahead := strings.SplitN(laid(mostDeep, "?", p), "?", 2)[0]
		for _, x := range []struct {
			inner string
			at    int
		}{
			{"new int;", 7}, {"new int(", 7}, {"new A;", 5}, {"new A[", 5}, {"a.m;", 3}, {"a.m[", 3}, {"a.;", 2}, {";", 0}, {"[", 0}, {"a!", 1}, {"a+;", 2}, {"a;", 1}, {"", 0}, {"a.m", 3}, {"new int", 7},
		} {
			refused(t, ahead+x.inner, len(ahead)+x.at, api.ErrForm)
		}
		for _, x := range []struct {
			inner string
			at    int
		}{
			{"new int[", 7}, {"a.m(", 3}, {"a[", 1}, {"(", 0}, {"!", 0}, {"!a", 0}, {"a.m()", 3}, {"new A()[", 7},
		} {
			refused(t, ahead+x.inner, len(ahead)+x.at, api.ErrDeep)
		}
	}
}

// From each token of some texts on, within few and many constructs.
func TestParseInTheMidst(t *testing.T) {
	for _, text := range []string{
		"x = a + b ; y", "if ( a < b && ! c ) { } else", "while ( ! a . m ( b , c [ d ] ) . length ) x [ a ] = new int [ 7 ] ;", printer + " ( new A ( ) . m ( ) ) ;",
		"{ return ( a ) ; } }", "a b c", "a ) ] , ;", "a . m ( b ; c )", "! ! ! ! a", "( ( ( ( a ) ) ) ) )", "a [ b [ c [ d", "new int [ new int [ a . m ( b . n ( c ) ) ] ]",
	} {
		tokens := strings.Fields(text)
		for _, gaps := range ways() {
			s := spaced(tokens, gaps...)
			for from := range len(tokens) + 1 {
				for _, base := range []int{0, 1, 7, mostDeep - 3, mostDeep - 2, mostDeep - 1, mostDeep} {
					asksParse(t, s, from, base)
				}
			}
		}
	}
}

// Several are read from one cursor, one behind the other.
func TestParseAgainAndAgain(t *testing.T) {
	c, _, err := cursor.New("a + 1 ; ( b ) c [ 0 ] // end")
	if err != nil {
		t.Fatal(err)
	}
	if n := expr.Parse(c); shape(n) != "<Plus <Ident a> + <Number 1>>" || c.At() != 6 || c.Left() != 8 || c.Deep() != 0 || c.End() != "" {
		t.Error(short(n), c.At(), c.Left(), c.Deep())
	}
	if expr.Starts(c) || c.Want(";").At != 6 || !expr.Starts(c) {
		t.Error("the semicolon")
	}
	if n := expr.Parse(c); shape(n) != "<Paren ( <Ident b> )>" || !tree.Stands(n, 7) || c.At() != 14 || c.Left() != 4 {
		t.Error(short(n), c.At(), c.Left())
	}
	if n := expr.Parse(c); shape(n) != "<Index <Ident c> [ <Number 0> ]>" || c.Left() != 0 || c.End() != " // end" {
		t.Error(short(n), c.Left(), c.End())
	}
	if _, err := c.Failed(); err != nil || expr.Starts(c) {
		t.Error(err)
	}
	if n := expr.Parse(c); !zero(n) {
		t.Error(short(n))
	}
	if at, err := c.Failed(); at != 28 || err != api.ErrForm {
		t.Error(at, err)
	}
}

// What has failed stays as it failed: nothing is read, however right the text is.
func TestParseBehindAFailure(t *testing.T) {
	for _, text := range each() {
		s := spaced(strings.Fields(text), " ")
		for _, fault := range []api.Errno{api.ErrDup, api.ErrForm, api.ErrDeep, api.ErrState} {
			for _, base := range []int{0, 3, mostDeep} {
				c := ready(t, s, 0, base)
				c.Fail(fault)
				for range 2 {
					if n := expr.Parse(c); !zero(n) || expr.Starts(c) {
						t.Errorf("%s: %s", text, short(n))
					}
					if at, err := c.Failed(); at != 1 || err != fault || c.Deep() != base || c.Left() != 0 {
						t.Errorf("%s: %d, %v, within %d", text, at, err, c.Deep())
					}
				}
			}
		}
	}
}

// Whoever reads behind a reading that failed is told of the first failure.
func TestParseFailsOnce(t *testing.T) {
	c, _, err := cursor.New("a + ( b ; ) c")
	if err != nil {
		t.Fatal(err)
	}
	c.Down()
	for range 3 {
		if n := expr.Parse(c); !zero(n) || c.Deep() != 1 || expr.Starts(c) {
			t.Error(short(n), c.Deep())
		}
		if at, err := c.Failed(); at != 8 || err != api.ErrForm {
			t.Error(at, err)
		}
	}
}

func TestNil(t *testing.T) {
	for range 2 {
		if n := expr.Parse(nil); !zero(n) || expr.Starts(nil) {
			t.Error(short(n))
		}
	}
}

// Each token there is, alone and with others behind it.
func TestStarts(t *testing.T) {
	yes := strings.Fields("a System 0 7 true false this new ( !")
	for _, x := range all() {
		for _, after := range []string{"", " a", " )", " new", " ;"} {
			for _, base := range []int{0, mostDeep} {
				c, _, err := cursor.New(x + after)
				if err != nil {
					t.Fatal(x, after, err)
				}
				for range base {
					c.Down()
				}
				at, left := c.At(), c.Left()
				if got := expr.Starts(c); got != slices.Contains(yes, x) {
					t.Errorf("%s%s: %v", x, after, got)
				}
				// It is asked alone: nothing is taken, and nothing fails.
				if _, err := c.Failed(); err != nil || c.At() != at || c.Left() != left || c.Deep() != base {
					t.Errorf("%s%s: %d, %d, %d, %v", x, after, c.At(), c.Left(), c.Deep(), err)
				}
				c.Fail(api.ErrForm)
				if expr.Starts(c) {
					t.Errorf("%s%s: it has failed", x, after)
				}
			}
		}
	}
	for _, s := range []string{"", " ", "// a", "/* a */"} {
		if c, _, err := cursor.New(s); err != nil || expr.Starts(c) {
			t.Errorf("%q: %v", s, err)
		}
	}
}

// With a token at which no expression starts none can be read.
func TestStartsAndParse(t *testing.T) {
	for _, x := range all() {
		for _, text := range each() {
			tokens := append([]string{x}, strings.Fields(text)...)
			c := ready(t, spaced(tokens, " "), 0, 0)
			starts := expr.Starts(c)
			expr.Parse(c)
			if at, err := c.Failed(); !starts && (at != 1 || err != api.ErrForm) || starts && err != nil && at == 1 {
				t.Errorf("%q: starts: %v, then %d, %v", tokens, starts, at, err)
			}
		}
	}
}

// spoil changes all of a tree, and what room its lists have.
func spoil(n *tree.Node) {
	for i := range n.Kids {
		spoil(&n.Kids[i])
	}
	room := n.Kids[:cap(n.Kids)]
	for i := range room {
		room[i] = tree.Node{Kind: -7, Gap: "spoilt", Text: "spoilt", At: -7}
	}
	n.Kind, n.Text = -7, "spoilt"
}

// Who changes a tree changes no other one, nor what is read later.
func TestAnswersAreNew(t *testing.T) {
	for _, text := range each() {
		s := spaced(strings.Fields(text), " ")
		want := split(s.leaves)
		one, _, _, _ := expr.Read(s.text())
		two, _, _, _ := expr.Read(s.text())
		spoil(&one)
		three, _, _, _ := expr.Read(s.text())
		if !equal(two, want) || !equal(three, want) {
			t.Errorf("%s: %s, %s", text, short(two), short(three))
		}
		twice := spaced(append(strings.Fields(text), strings.Fields("; "+text)...), " ")
		c := ready(t, twice, 0, 0)
		half := len(s.leaves)
		one = expr.Parse(c)
		c.Want(";")
		two = expr.Parse(c)
		spoil(&one)
		if !equal(two, split(twice.leaves[half+1:])) {
			t.Errorf("%s: the second one is %s", text, short(two))
		}
	}
}

// Lists are taken with their spare room.
func TestListsShareNothing(t *testing.T) {
	for _, text := range append(each(), "a"+strings.Repeat(" - b", 50), "a . m ( b"+strings.Repeat(" , c . n ( d , e )", 20)+" )") {
		n, _, _, err := expr.Read(text)
		if err != nil {
			t.Fatal(text, err)
		}
		seen := map[*tree.Node]bool{}
		var look func(n tree.Node)
		look = func(n tree.Node) {
			room := n.Kids[:cap(n.Kids)]
			for i := range room {
				if seen[&room[i]] {
					t.Fatalf("%s: a place in memory is in two lists", text)
				}
				seen[&room[i]] = true
			}
			for _, k := range n.Kids {
				look(k)
			}
		}
		look(n)
	}
}

// What is handed in stays as it was, and bytes that change later change nothing.
func TestTextStays(t *testing.T) {
	bytes := []byte("a + b [ c ] // end")
	s := string(bytes)
	n, end, _, err := expr.Read(string(bytes))
	copy(bytes, "??????????????????")
	if err != nil || tree.Text(n)+end != s || end != " // end" {
		t.Errorf("%s, %q, %v", short(n), end, err)
	}
	spoil(&n)
	if s != "a + b [ c ] // end" {
		t.Errorf("%q", s)
	}
}

// Whoever asks again is told the same, and two cursors know nothing of each other.
func TestTheSame(t *testing.T) {
	for _, text := range append(each(), "a +", "( a", "a b", "", laid(mostDeep+1, "a", pairs()...)) {
		n, end, at, err := expr.Read(text)
		for range 3 {
			n2, end2, at2, err2 := expr.Read(text)
			if !reflect.DeepEqual(n, n2) || end != end2 || at != at2 || err != err2 {
				t.Errorf("%.100q: %s, %q, %d, %v", text, short(n2), end2, at2, err2)
			}
		}
	}
	s := spaced(strings.Fields("a + b ; c"), " ")
	c, d := ready(t, s, 0, 0), ready(t, s, 0, 5)
	expr.Parse(c)
	if c.Left() != 2 || d.Left() != 5 || d.Deep() != 5 || shape(expr.Parse(d)) != "<Plus <Ident a> + <Ident b>>" {
		t.Error(c.Left(), d.Left(), d.Deep())
	}
}
