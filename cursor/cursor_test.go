package cursor_test

import (
	"fmt"
	"math"
	"math/rand"
	"reflect"
	"strings"
	"testing"

	"namesake/api"
	"namesake/cursor"
	"namesake/lex"
	"namesake/tree"
)

const (
	mostBytes = 4000
	mostDeep  = 200
	printer   = "System.out.println"
)

// part is a real token, written out with all that stands ahead of it.
type part struct {
	gap  string
	kind lex.Kind
	text string
}

// sample is a clean text, written out by its tokens.
type sample struct {
	parts []part
	end   string
}

func (s sample) text() string {
	text := ""
	for _, p := range s.parts {
		text += p.gap + p.text
	}
	return text + s.end
}

// begin is where a token of a sample begins, and the text's length if there is none of that number.
func (s sample) begin(n int) int {
	if n >= len(s.parts) {
		return len(s.text())
	}
	return len(sample{parts: s.parts[:n]}.text()) + len(s.parts[n].gap)
}

func (s sample) leaf(n int) tree.Node {
	p := s.parts[n]
	return tree.Node{Kind: tree.Leaf, Gap: p.gap, Text: p.text, At: s.begin(n)}
}

// joined are samples one behind the other, each from a line of its own on.
func joined(list ...sample) sample {
	var all sample
	for _, s := range list {
		gap := all.end + "\n"
		for _, p := range s.parts {
			all.parts = append(all.parts, part{gap + p.gap, p.kind, p.text})
			gap = ""
		}
		all.end = gap + s.end
	}
	return all
}

// samples are ordinary texts and those that are empty but for blanks and notes.
func samples() []sample {
	return []sample{
		{},
		{end: " "},
		{end: " \t\r\n"},
		{end: "// alone"},
		{end: "/* a = 1 */ // b\n\n"},
		{parts: []part{{"", lex.Name, "a"}}},
		{parts: []part{{"\n", lex.Sign, "&&"}}, end: "\n"},
		{parts: []part{{"", lex.Name, "a"}, {" ", lex.Sign, "="}, {" ", lex.Figure, "1"}}},
		{parts: []part{{"", lex.Name, "a"}, {"", lex.Sign, "="}, {"", lex.Figure, "1"}, {"", lex.Sign, ";"}}, end: "//x"},
		{parts: []part{
			{" /* first */\n", lex.Key, "if"}, {"", lex.Sign, "("}, {"", lex.Sign, "!"}, {"", lex.Name, "if1"}, {" ", lex.Sign, "&&"}, {"\t", lex.Figure, "2147483647"},
			{"//<\n", lex.Sign, "<"}, {"/**/", lex.Name, "_"}, {"", lex.Sign, ")"}, {"\r\n\r\n", lex.Sign, "{"}, {"", lex.Sign, "}"},
		}, end: " // last"},
		{parts: []part{
			{"", lex.Key, printer}, {"", lex.Sign, "("}, {"", lex.Key, "this"}, {"", lex.Sign, "."}, {"", lex.Key, "length"}, {"/*.*/", lex.Sign, ")"}, {" ", lex.Sign, ";"},
			{"\n", lex.Name, "System"}, {"", lex.Sign, "."}, {"", lex.Name, "out"}, {" ", lex.Sign, "."}, {"", lex.Name, "println"}, {"", lex.Sign, "="}, {"", lex.Figure, "0"}, {"", lex.Sign, ";"},
		}, end: "/* ; */\t"},
	}
}

// state is a cursor as the chapter's sentences tell it: the tests hold the program against it.
type state struct {
	of    sample
	taken int
	deep  int
	place int
	err   error
}

func (s *state) rest() []part {
	if s.err != nil {
		return nil
	}
	return s.of.parts[s.taken:]
}

func (s *state) at() int {
	if s.err != nil {
		return len(s.of.text())
	}
	return s.of.begin(s.taken)
}

func (s *state) peek(ahead int) (lex.Kind, string) {
	for i, p := range s.rest() {
		if i == ahead {
			return p.kind, p.text
		}
	}
	return 0, ""
}

func (s *state) is(ahead int, text string) bool {
	for i, p := range s.rest() {
		if i == ahead {
			return (p.kind == lex.Key || p.kind == lex.Sign) && p.text == text
		}
	}
	return false
}

func (s *state) end() string {
	if s.err != nil || len(s.rest()) > 0 {
		return ""
	}
	return s.of.end
}

func (s *state) fail(err api.Errno) {
	if s.err != nil {
		return
	}
	if err < 1 || err > 15 {
		err = 2
	}
	s.place, s.err = s.at(), err
}

func (s *state) take(right bool) tree.Node {
	if !right {
		s.fail(2)
		return tree.Node{}
	}
	s.taken++
	return s.of.leaf(s.taken - 1)
}

func (s *state) any(kind lex.Kind) tree.Node {
	return s.take(len(s.rest()) > 0 && s.rest()[0].kind == kind)
}

func (s *state) down() bool {
	if s.err == nil && s.deep == mostDeep {
		s.fail(3)
	}
	if s.err != nil {
		return false
	}
	s.deep++
	return true
}

func (s *state) up() { s.deep = max(0, s.deep-1) }

// made is a cursor of a sample, and what is to be told of it.
func made(t *testing.T, of sample) (*cursor.Cursor, *state) {
	t.Helper()
	c, at, err := cursor.New(of.text())
	if c == nil || at != 0 || err != nil {
		t.Fatalf("New(%q) = %v, %d, %v", of.text(), c, at, err)
	}
	return c, &state{of: of}
}

// asks holds all that may be asked of a cursor, without changing it, against what is to be told.
func asks(t *testing.T, c *cursor.Cursor, s *state) {
	t.Helper()
	if got := c.At(); got != s.at() {
		t.Errorf("%q: At = %d, want %d", s.of.text(), got, s.at())
	}
	if got := c.Left(); got != len(s.rest()) {
		t.Errorf("%q: Left = %d, want %d", s.of.text(), got, len(s.rest()))
	}
	if got := c.Deep(); got != s.deep {
		t.Errorf("%q: Deep = %d, want %d", s.of.text(), got, s.deep)
	}
	if got := c.End(); got != s.end() {
		t.Errorf("%q: End = %q, want %q", s.of.text(), got, s.end())
	}
	if at, err := c.Failed(); at != s.place || err != s.err {
		t.Errorf("%q: Failed = %d, %v, want %d, %v", s.of.text(), at, err, s.place, s.err)
	}
	looksAhead(t, c, s)
}

// aheads are ordinary numbers of tokens ahead and those from which a sum wraps around.
func aheads(most int) []int {
	out := []int{math.MinInt, math.MinInt + 1, math.MinInt32, -most - 1, -2, -1, math.MaxInt32, math.MaxInt - most, math.MaxInt - 1, math.MaxInt}
	for i := range most + 3 {
		out = append(out, i)
	}
	return out
}

func looksAhead(t *testing.T, c *cursor.Cursor, s *state) {
	t.Helper()
	for _, ahead := range aheads(len(s.of.parts)) {
		kind, text := s.peek(ahead)
		if k, x := c.Peek(ahead); k != kind || x != text {
			t.Errorf("%q behind %d tokens: Peek(%d) = %d, %q, want %d, %q", s.of.text(), s.taken, ahead, k, x, kind, text)
		}
		for _, x := range []string{text, "", ";", "this"} {
			if got := c.Is(ahead, x); got != s.is(ahead, x) {
				t.Errorf("%q behind %d tokens: Is(%d, %q) = %v", s.of.text(), s.taken, ahead, x, got)
			}
		}
	}
}

// call is one that changes a cursor, with what it is to answer.
type call struct {
	name string
	do   func(c *cursor.Cursor) any
	want func(s *state) any
}

func anyOf(kind lex.Kind) call {
	return call{fmt.Sprintf("Any(%d)", kind), func(c *cursor.Cursor) any { return c.Any(kind) }, func(s *state) any { return s.any(kind) }}
}

func wants(text string) call {
	return call{fmt.Sprintf("Want(%q)", text), func(c *cursor.Cursor) any { return c.Want(text) }, func(s *state) any { return s.take(s.is(0, text)) }}
}

func fails(err api.Errno) call {
	return call{fmt.Sprintf("Fail(%d)", err), func(c *cursor.Cursor) any { c.Fail(err); return nil }, func(s *state) any { s.fail(err); return nil }}
}

func down() call {
	return call{"Down()", func(c *cursor.Cursor) any { return c.Down() }, func(s *state) any { return s.down() }}
}

func up() call {
	return call{"Up()", func(c *cursor.Cursor) any { c.Up(); return nil }, func(s *state) any { s.up(); return nil }}
}

// next takes what is next, and fails at the end.
func next() call {
	return call{"Any(next)",
		func(c *cursor.Cursor) any { kind, _ := c.Peek(0); return c.Any(kind) },
		func(s *state) any { kind, _ := s.peek(0); return s.any(kind) }}
}

// does calls a cursor, and asks all of it.
func does(t *testing.T, c *cursor.Cursor, s *state, list ...call) {
	t.Helper()
	for _, x := range list {
		want := x.want(s)
		// DeepEqual tells a list that is there from none: a token has none.
		if got := x.do(c); !reflect.DeepEqual(got, want) {
			t.Errorf("%q behind %d tokens: %s = %+v, want %+v", s.of.text(), s.taken, x.name, got, want)
		}
		asks(t, c, s)
	}
}

func TestChapterExample(t *testing.T) {
	c, at, err := cursor.New("a = 1")
	if c == nil || at != 0 || err != nil {
		t.Fatal(c, at, err)
	}
	for _, x := range []struct{ got, want tree.Node }{
		{c.Any(lex.Name), tree.Node{Kind: tree.Leaf, Text: "a", At: 0}},
		{c.Want("="), tree.Node{Kind: tree.Leaf, Gap: " ", Text: "=", At: 2}},
		{c.Any(lex.Figure), tree.Node{Kind: tree.Leaf, Gap: " ", Text: "1", At: 4}},
	} {
		if !reflect.DeepEqual(x.got, x.want) {
			t.Errorf("%+v, want %+v", x.got, x.want)
		}
	}
	if at, err := c.Failed(); at != 0 || err != nil || c.Left() != 0 || c.At() != 5 || c.End() != "" {
		t.Error(at, err, c.Left(), c.At(), c.End())
	}
}

// Each sample is gone through to its end, and one token farther.
func TestWholeTexts(t *testing.T) {
	for _, of := range samples() {
		c, s := made(t, of)
		asks(t, c, s)
		for range of.parts {
			does(t, c, s, next())
		}
		if s.err != nil || c.Left() != 0 || c.At() != len(of.text()) || c.End() != of.end {
			t.Errorf("%q: %d left at %d, %q", of.text(), c.Left(), c.At(), c.End())
		}
		does(t, c, s, next())
		if at, err := c.Failed(); at != len(of.text()) || err != api.ErrForm {
			t.Errorf("%q: %d, %v", of.text(), at, err)
		}
	}
}

// What is taken, by Any and by Want in turn, is the text with what stands behind it.
func TestStandsRight(t *testing.T) {
	for _, of := range append(samples(), joined(samples()...), large(';', mostBytes)) {
		c, _ := made(t, of)
		var kids []tree.Node
		for c.Left() > 0 {
			kind, text := c.Peek(0)
			if c.Is(0, text) && len(kids)%2 == 0 {
				kids = append(kids, c.Want(text))
			} else {
				kids = append(kids, c.Any(kind))
			}
		}
		n := tree.Make(tree.File, kids...)
		if !tree.Right(n) || !tree.Stands(n, 0) || len(kids) != len(of.parts) {
			t.Errorf("%.100q: %d tokens, right: %v, stand right: %v", of.text(), len(kids), tree.Right(n), tree.Stands(n, 0))
		}
		if got := tree.Text(n) + c.End(); got != of.text() {
			t.Errorf("%.100q: taken was %.100q", of.text(), got)
		}
	}
}

// All small texts of some pieces are asked, be they clean or not: layer 6 tells what they are.
func TestSmallTexts(t *testing.T) {
	pieces := []string{" ", "\n", "//", "/*", "*/", "a", "1", "if", "&&", "&", ";", printer, "\xff"}
	list := []string{""}
	for n := 0; n < len(list) && len(list) < 30000; n++ {
		for _, piece := range pieces {
			list = append(list, list[n]+piece)
		}
	}
	for _, s := range list {
		real, place, fault := lex.Real(s)
		if fault != nil {
			refused(t, s, place, fault)
			continue
		}
		c, at, err := cursor.New(s)
		if c == nil || at != 0 || err != nil || c.Left() != len(real) {
			t.Fatalf("New(%q) = %v, %d, %v", s, c, at, err)
		}
		text := ""
		for _, x := range real {
			n := c.Any(x.Kind)
			if text += n.Gap; n.Kind != tree.Leaf || n.At != len(text) || n.At != x.From || n.Text != x.Text(s) {
				t.Errorf("%q: %+v, want %+v", s, n, x)
			}
			text += n.Text
		}
		if text += c.End(); text != s {
			t.Errorf("%q: taken was %q", s, text)
		}
	}
}

// large is a text of one sign again and again.
func large(sign byte, size int) sample {
	var s sample
	for range size {
		s.parts = append(s.parts, part{"", lex.Sign, string(rune(sign))})
	}
	return s
}

func TestSizes(t *testing.T) {
	for _, x := range []struct {
		s    string
		left int
	}{
		{strings.Repeat("{", mostBytes), mostBytes},
		{strings.Repeat(" ", mostBytes), 0},
		{strings.Repeat("a ", mostBytes/2), mostBytes / 2},
		{strings.Repeat("//\n1\n", mostBytes/5), mostBytes / 5},
		{"/*" + strings.Repeat("*", mostBytes-5) + "*/;", 1},
		{strings.Repeat(" ", mostBytes-1) + ";", 1},
	} {
		c, at, err := cursor.New(x.s)
		if len(x.s) != mostBytes || c == nil || at != 0 || err != nil || c.Left() != x.left {
			t.Errorf("%d bytes of %.10q: %d, %v, %d left", len(x.s), x.s, at, err, c.Left())
		}
		refused(t, x.s+" ", mostBytes, api.ErrLarge)
		refused(t, " "+x.s, mostBytes, api.ErrLarge)
		refused(t, x.s+x.s, mostBytes, api.ErrLarge)
		// A byte that isn't clean matters only to a text that isn't too large.
		refused(t, "?"+x.s[1:], 0, api.ErrForm)
		refused(t, "?"+x.s, mostBytes, api.ErrLarge)
		refused(t, x.s+"?", mostBytes, api.ErrLarge)
	}
	refused(t, strings.Repeat(" ", mostBytes-1)+"?", mostBytes-1, api.ErrForm)
	refused(t, strings.Repeat("a", mostBytes), 0, api.ErrForm)
	refused(t, strings.Repeat("\x00", 1<<20), mostBytes, api.ErrLarge)
}

// refused asks that there is no cursor of a text.
func refused(t *testing.T, s string, place int, fault error) {
	t.Helper()
	if c, at, err := cursor.New(s); c != nil || at != place || err != fault {
		t.Errorf("New(%.50q) = %v, %d, %v, want %d, %v", s, c, at, err, place, fault)
	}
}

func TestNotClean(t *testing.T) {
	for _, x := range []struct {
		s  string
		at int
	}{
		{"?", 0}, {"? a = 1;", 0}, {"a = ? 1;", 4}, {"a = 1;?", 6}, {"a = 1; ?", 7}, {"a = 1; ?\n", 7},
		{"a ? b ? c", 2}, {"a & b", 2}, {"a &&& b", 4}, {"a / b", 2}, {"\x00", 0}, {"a\xff", 1}, {"\xc3\xa4", 0},
		{"a = 007; 1b", 4}, {"if (1a)", 4}, {"2147483648", 0}, {"a/*b", 1}, {"// ?\n/* ? */ /*/", 13}, {"a = \"b\"", 4},
		{strings.Repeat("n", 65), 0}, {"a." + strings.Repeat("n", 65) + "?", 2},
	} {
		refused(t, x.s, x.at, api.ErrForm)
	}
	made(t, sample{parts: []part{{"// ?\n/* & */", lex.Name, strings.Repeat("n", 64)}}, end: "/*?*/"})
}

// kinds are those of layer 6, and numbers that are no kinds.
func kinds() []lex.Kind {
	return []lex.Kind{math.MinInt, -1, 0, lex.Space, lex.Note, lex.Key, lex.Name, lex.Figure, lex.Sign, lex.Bad, lex.Bad + 1, math.MaxInt}
}

// At each token, and at the end, each kind is asked for.
func TestAny(t *testing.T) {
	for _, of := range samples() {
		for n := range len(of.parts) + 1 {
			for _, kind := range kinds() {
				c, s := at(t, of, n)
				does(t, c, s, anyOf(kind))
				right := n < len(of.parts) && of.parts[n].kind == kind
				if place, err := c.Failed(); right && err != nil || !right && (place != of.begin(n) || err != api.ErrForm) {
					t.Errorf("%q behind %d tokens: Any(%d): %d, %v", of.text(), n, kind, place, err)
				}
				does(t, c, s, anyOf(kind), next())
			}
		}
	}
}

// at is a cursor that has taken so many tokens.
func at(t *testing.T, of sample, n int) (*cursor.Cursor, *state) {
	t.Helper()
	c, s := made(t, of)
	for range n {
		if x := next(); !reflect.DeepEqual(x.do(c), x.want(s)) {
			t.Fatalf("%q: token %d can't be taken", of.text(), s.taken-1)
		}
	}
	return c, s
}

// At each token, and at the end, texts are wanted: that of the token itself, of its neighbours, and those of no token.
func TestWant(t *testing.T) {
	for _, of := range samples() {
		for n := range len(of.parts) + 1 {
			for _, text := range texts(of, n) {
				c, s := at(t, of, n)
				does(t, c, s, wants(text))
				right := n < len(of.parts) && of.parts[n].text == text && (of.parts[n].kind == lex.Key || of.parts[n].kind == lex.Sign)
				if place, err := c.Failed(); right && err != nil || !right && (place != of.begin(n) || err != api.ErrForm) {
					t.Errorf("%q behind %d tokens: Want(%q): %d, %v", of.text(), n, text, place, err)
				}
				does(t, c, s, wants(text), next())
			}
		}
	}
}

func texts(of sample, n int) []string {
	out := []string{"", " ", "?", "\x00", of.end, "a", "1", "if", "If", "&", "&&", "&&&", "System", strings.Repeat("a", 5000)}
	for i := max(0, n-1); i < min(n+2, len(of.parts)); i++ {
		p := of.parts[i]
		out = append(out, p.text, p.gap+p.text, p.text+" ", p.text[1:], p.text[:len(p.text)-1], p.text+p.text)
	}
	return out
}

func TestIsAsksKeysAndSignsAlone(t *testing.T) {
	c, _, err := cursor.New("while x 7 && " + printer)
	if err != nil {
		t.Fatal(err)
	}
	for _, x := range []struct {
		ahead int
		text  string
		want  bool
	}{
		{0, "while", true}, {1, "x", false}, {2, "7", false}, {3, "&&", true}, {4, printer, true}, {5, "", false}, {-1, "", false},
		{0, "", false}, {0, "While", false}, {0, "whil", false}, {0, "x", false}, {3, "&", false}, {4, "System", false},
	} {
		if got := c.Is(x.ahead, x.text); got != x.want {
			t.Errorf("Is(%d, %q) = %v", x.ahead, x.text, got)
		}
	}
}

// Behind each number of tokens as many constructs as may be, and one more.
func TestDown(t *testing.T) {
	for _, of := range samples() {
		for n := range len(of.parts) + 1 {
			c, s := at(t, of, n)
			for deep := range mostDeep {
				if !c.Down() || !s.down() || c.Deep() != deep+1 {
					t.Fatalf("%q: Down to %d", of.text(), deep+1)
				}
			}
			asks(t, c, s)
			does(t, c, s, up(), up(), down(), down(), down())
			if place, err := c.Failed(); place != of.begin(n) || err != api.ErrDeep || c.Deep() != mostDeep {
				t.Errorf("%q behind %d tokens: %d, %v within %d", of.text(), n, place, err, c.Deep())
			}
			// There is room for one more construct again, but it has failed.
			does(t, c, s, up(), down(), up(), down())
			if c.Deep() != mostDeep-2 {
				t.Errorf("%q: %d", of.text(), c.Deep())
			}
		}
	}
}

// Takings and constructs have nothing to do with each other.
func TestDownBetweenTokens(t *testing.T) {
	of := joined(samples()...)
	c, s := made(t, of)
	for range of.parts {
		does(t, c, s, down(), next(), down(), up())
	}
	if c.Deep() != len(of.parts) || c.End() != of.end {
		t.Errorf("%d, %q", c.Deep(), c.End())
	}
}

func TestUp(t *testing.T) {
	for _, of := range samples() {
		c, s := made(t, of)
		does(t, c, s, up(), up(), down(), up(), up(), down(), down(), up())
		if c.Deep() != 1 {
			t.Errorf("%q: %d", of.text(), c.Deep())
		}
		// Who went down goes up behind a failure as well.
		does(t, c, s, down(), fails(api.ErrNone), up(), down(), up(), up())
		if c.Deep() != 0 {
			t.Errorf("%q: %d behind the failure", of.text(), c.Deep())
		}
	}
}

func TestUpFromTheDeepest(t *testing.T) {
	c, s := made(t, samples()[0])
	for range 3 {
		for range mostDeep {
			c.Down()
			s.down()
		}
		asks(t, c, s)
		for range mostDeep + 1 {
			c.Up()
			s.up()
		}
		asks(t, c, s)
	}
	if _, err := c.Failed(); err != nil || c.Deep() != 0 {
		t.Error(err, c.Deep())
	}
}

// Behind each number of tokens each error, and numbers that are none.
func TestFail(t *testing.T) {
	for _, of := range samples() {
		for n := range len(of.parts) + 1 {
			for _, err := range faults() {
				c, s := at(t, of, n)
				does(t, c, s, down(), fails(err))
				want := error(err)
				if err < 1 || err > 15 {
					want = api.ErrForm
				}
				if place, got := c.Failed(); place != of.begin(n) || got != want {
					t.Errorf("%q behind %d tokens: Fail(%d): %d, %v", of.text(), n, err, place, got)
				}
			}
		}
	}
}

func faults() []api.Errno {
	list := []api.Errno{math.MinInt, -2, math.MaxInt}
	for err := api.Errno(-1); err <= 17; err++ {
		list = append(list, err)
	}
	return list
}

// The first failure is kept, whoever fails, and whatever is asked behind it.
func TestFirstFailure(t *testing.T) {
	failing := []call{fails(api.ErrDup), fails(0), anyOf(0), anyOf(lex.Bad), wants(""), wants("?")}
	for _, of := range samples() {
		for n := range len(of.parts) + 1 {
			for _, first := range failing {
				c, s := at(t, of, n)
				does(t, c, s, down(), first)
				place, err := c.Failed()
				if place != of.begin(n) || err == nil {
					t.Errorf("%q behind %d tokens: %s: %d, %v", of.text(), n, first.name, place, err)
				}
				does(t, c, s, failing...)
				does(t, c, s, next(), down(), up(), up(), fails(api.ErrState))
				if p, e := c.Failed(); p != place || e != err {
					t.Errorf("%q behind %d tokens: %s: %d, %v at first, then %d, %v", of.text(), n, first.name, place, err, p, e)
				}
			}
		}
	}
}

// What could have been taken ahead of the failure can't be taken behind it.
func TestNothingIsTakenBehindAFailure(t *testing.T) {
	for _, of := range samples() {
		for n, p := range of.parts {
			c, s := at(t, of, n)
			does(t, c, s, fails(api.ErrRules), anyOf(p.kind), wants(p.text))
			if kind, text := c.Peek(0); kind != 0 || text != "" || c.Is(0, p.text) || c.Left() != 0 || c.At() != len(of.text()) || c.End() != "" {
				t.Errorf("%q behind %d tokens: %d, %q, %d left at %d, %q", of.text(), n, kind, text, c.Left(), c.At(), c.End())
			}
			if place, err := c.Failed(); place != of.begin(n) || err != api.ErrRules {
				t.Errorf("%q behind %d tokens: %d, %v", of.text(), n, place, err)
			}
		}
	}
}

func TestNil(t *testing.T) {
	var c *cursor.Cursor
	for range 2 {
		for _, ahead := range aheads(1) {
			if kind, text := c.Peek(ahead); kind != 0 || text != "" || c.Is(ahead, "") || c.Is(ahead, ";") {
				t.Errorf("Peek(%d) = %d, %q", ahead, kind, text)
			}
		}
		for _, kind := range kinds() {
			if n := c.Any(kind); !reflect.DeepEqual(n, tree.Node{}) {
				t.Errorf("Any(%d) = %+v", kind, n)
			}
		}
		for _, text := range []string{"", ";", "if"} {
			if n := c.Want(text); !reflect.DeepEqual(n, tree.Node{}) {
				t.Errorf("Want(%q) = %+v", text, n)
			}
		}
		if c.At() != 0 || c.Down() || c.Deep() != 0 || c.End() != "" || c.Left() != 0 {
			t.Error(c.At(), c.Deep(), c.End(), c.Left())
		}
		c.Up()
		for _, err := range faults() {
			c.Fail(err)
			if at, got := c.Failed(); at != 0 || got != api.ErrForm {
				t.Errorf("Fail(%d): %d, %v", err, at, got)
			}
		}
	}
}

// every are calls of each kind, for a text of a name, a sign, a figure and a keyword.
func every() []call {
	return []call{
		next(), anyOf(lex.Name), anyOf(lex.Figure), anyOf(lex.Key), anyOf(0), wants("="), wants("this"), wants("a"), wants(""),
		down(), up(), fails(api.ErrName), fails(16),
	}
}

// All calls in all orders of up to four of them.
func TestAllOrders(t *testing.T) {
	of := sample{parts: []part{{"", lex.Name, "a"}, {" ", lex.Sign, "="}, {"//\n", lex.Key, "this"}}, end: "\n"}
	list := every()
	for n := range len(list) * len(list) * len(list) * len(list) {
		c, s := made(t, of)
		for range 4 {
			does(t, c, s, list[n%len(list)])
			n /= len(list)
		}
		if t.Failed() {
			return
		}
	}
}

// Long orders of calls, drawn the same way each time, with many constructs and few failures.
func TestLongOrders(t *testing.T) {
	draw := rand.New(rand.NewSource(8))
	list := every()
	for range 60 {
		c, s := made(t, joined(samples()...))
		for range 600 {
			x := down()
			switch n := draw.Intn(400); {
			case n < len(list):
				x = list[n]
			case n < 30:
				x = next()
			case n < 150:
				x = up()
			}
			does(t, c, s, x)
		}
		if t.Failed() {
			return
		}
	}
}

// Two cursors of one text, and one of another, know nothing of each other.
func TestSideBySide(t *testing.T) {
	of := samples()[9]
	a, sa := made(t, of)
	b, sb := made(t, of)
	c, sc := made(t, samples()[10])
	does(t, a, sa, next(), down(), next(), next())
	asks(t, b, sb)
	does(t, c, sc, down(), down(), fails(api.ErrMain))
	does(t, b, sb, next())
	asks(t, a, sa)
	does(t, b, sb, wants("?"))
	asks(t, a, sa)
	asks(t, c, sc)
	for range len(of.parts) - 3 {
		does(t, a, sa, next())
		asks(t, b, sb)
	}
	if a.End() != of.end || b.End() != "" || c.End() != "" {
		t.Errorf("%q, %q, %q", a.End(), b.End(), c.End())
	}
}

// What is done with answers is not seen by who asks later, and another who looks is told the same.
func TestMemory(t *testing.T) {
	of := samples()[10]
	was := of.text()
	text := of.text()
	c, s := made(t, of)
	d, _, _ := cursor.New(text)
	for i := range of.parts {
		n, _ := c.Any(of.parts[i].kind), s.any(of.parts[i].kind)
		n.Kids = append(n.Kids, tree.Node{Kind: tree.Leaf, Text: "x"})
		n.Gap, n.Text, n.At, n.Kind = "y", "z", -1, tree.File
		asks(t, c, s)
		if got := d.Any(of.parts[i].kind); !reflect.DeepEqual(got, of.leaf(i)) {
			t.Errorf("%+v, want %+v", got, of.leaf(i))
		}
	}
	if text != was || d.End() != of.end {
		t.Errorf("%q, %q", text, d.End())
	}
}

// What is handed in as bytes, and changed then, is a text of its own.
func TestTextIsNotOfBytesThatChange(t *testing.T) {
	bytes := []byte("a = b;")
	c, _, err := cursor.New(string(bytes))
	if err != nil {
		t.Fatal(err)
	}
	copy(bytes, "??????")
	if n := c.Any(lex.Name); n.Text != "a" || c.Left() != 3 {
		t.Errorf("%+v, %d left", n, c.Left())
	}
}
