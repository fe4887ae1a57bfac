package text_test

import (
	"math"
	"slices"
	"strings"
	"sync"
	"testing"

	"namesake/api"
	"namesake/text"
)

type piece struct {
	at   int
	line string
}

func gather(s string) []piece {
	var out []piece
	for at, line := range text.Lines(s) {
		out = append(out, piece{at, line})
	}
	return out
}

// shortTexts are all texts of up to n bytes of a, a line feed and a byte that is no letter of any alphabet.
func shortTexts(n int) []string {
	out := []string{""}
	for from := 0; n > 0; n-- {
		end := len(out)
		for _, s := range out[from:end] {
			out = append(out, s+"a", s+"\n", s+"\xff")
		}
		from = end
	}
	return out
}

// plainPlace reckons a place's line and column from the chapter's words alone.
func plainPlace(s string, at int) (line, column int) {
	ahead := s[:at]
	return strings.Count(ahead, "\n"), at - (strings.LastIndex(ahead, "\n") + 1)
}

func TestLines(t *testing.T) {
	for _, c := range []struct {
		s    string
		want []piece
	}{
		{"", []piece{{0, ""}}},
		{"one", []piece{{0, "one"}}},
		{"\n", []piece{{0, ""}, {1, ""}}},
		{"one\n", []piece{{0, "one"}, {4, ""}}},
		{"\none", []piece{{0, ""}, {1, "one"}}},
		{"one\n\nthree", []piece{{0, "one"}, {4, ""}, {5, "three"}}},
		{"a\r\nb\x00\v\f\u2028\u0085\n", []piece{{0, "a\r"}, {3, "b\x00\v\f\u2028\u0085"}, {13, ""}}},
		{"\xff\n\xc3\n", []piece{{0, "\xff"}, {2, "\xc3"}, {4, ""}}},
	} {
		if got := gather(c.s); !slices.Equal(got, c.want) {
			t.Errorf("Lines(%q) = %+v, want %+v", c.s, got, c.want)
		}
	}
}

func TestLinesLeftEarly(t *testing.T) {
	lines := text.Lines("a\nb\nc")
	for leave := 1; leave <= 3; leave++ {
		n := 0
		for range lines {
			n++
			if n == leave {
				break
			}
		}
		if n != leave {
			t.Errorf("left behind line %d, but %d came", leave, n)
		}
	}
	calls := 0
	lines(func(int, string) bool {
		calls++
		return false
	})
	if calls != 1 {
		t.Errorf("an iterator that was left at once told %d lines", calls)
	}
	n := 0
	for at := range lines {
		if at != 2*n {
			t.Errorf("behind an early end, line %d begins at %d", n, at)
		}
		n++
	}
	if n != 3 {
		t.Errorf("behind an early end, %d lines came", n)
	}
}

func TestLinesWithLineFeedsAreTheText(t *testing.T) {
	for _, s := range shortTexts(6) {
		var lines []string
		for at, line := range text.Lines(s) {
			if at+len(line) > len(s) || s[at:at+len(line)] != line {
				t.Fatalf("%q: the line %q doesn't stand at %d", s, line, at)
			}
			lines = append(lines, line)
		}
		if strings.Join(lines, "\n") != s {
			t.Errorf("%q: the lines are %q", s, lines)
		}
		x := text.New(s)
		if x.Len() != strings.Count(s, "\n")+1 || x.Len() != len(lines) {
			t.Errorf("%q: Len() = %d", s, x.Len())
		}
		for n, want := range lines {
			if got, err := x.Line(n); got != want || err != nil {
				t.Errorf("%q: Line(%d) = %q, %v, want %q", s, n, got, err, want)
			}
		}
	}
}

func TestPlaceAndAtLeadToOneAnother(t *testing.T) {
	for _, s := range shortTexts(6) {
		x := text.New(s)
		for at := 0; at <= len(s); at++ {
			line, column, err := x.Place(at)
			wantLine, wantColumn := plainPlace(s, at)
			if line != wantLine || column != wantColumn || err != nil {
				t.Fatalf("%q: Place(%d) = %d, %d, %v, want %d, %d", s, at, line, column, err, wantLine, wantColumn)
			}
			if back, err := x.At(line, column); back != at || err != nil {
				t.Fatalf("%q: At(%d, %d) = %d, %v, want %d", s, line, column, back, err, at)
			}
		}
		places := 0
		for n, want := range strings.Split(s, "\n") {
			for column := 0; column <= len(want); column++ {
				at, err := x.At(n, column)
				if at != places || err != nil {
					t.Fatalf("%q: At(%d, %d) = %d, %v, want %d", s, n, column, at, err, places)
				}
				if l, c, err := x.Place(at); l != n || c != column || err != nil {
					t.Fatalf("%q: Place(%d) = %d, %d, %v, want %d, %d", s, at, l, c, err, n, column)
				}
				places++
			}
		}
		if places != len(s)+1 {
			t.Fatalf("%q: lines and columns lead to %d places", s, places)
		}
	}
}

func TestChapterExample(t *testing.T) {
	if line, column, err := text.New("ab\nc").Place(3); line != 1 || column != 0 || err != nil {
		t.Error(line, column, err)
	}
}

func TestLongText(t *testing.T) {
	s := strings.Repeat("line of a text\n", 5000)
	x := text.New(s)
	if x.Len() != 5001 {
		t.Fatal(x.Len())
	}
	for n := range 5000 {
		if line, column, err := x.Place(15*n + 14); line != n || column != 14 || err != nil {
			t.Fatal(n, line, column, err)
		}
		if at, err := x.At(n, 14); at != 15*n+14 || err != nil {
			t.Fatal(n, at, err)
		}
	}
	if at, err := x.At(5000, 0); at != len(s) || err != nil {
		t.Error(at, err)
	}
}

func refusesPlace(t *testing.T, x *text.Table, at int) {
	t.Helper()
	if line, column, err := x.Place(at); line != 0 || column != 0 || err != api.ErrRange {
		t.Errorf("Place(%d) = %d, %d, %v", at, line, column, err)
	}
}

func refusesAt(t *testing.T, x *text.Table, line, column int) {
	t.Helper()
	if at, err := x.At(line, column); at != 0 || err != api.ErrRange {
		t.Errorf("At(%d, %d) = %d, %v", line, column, at, err)
	}
}

func refusesLine(t *testing.T, x *text.Table, n int) {
	t.Helper()
	if s, err := x.Line(n); s != "" || err != api.ErrRange {
		t.Errorf("Line(%d) = %q, %v", n, s, err)
	}
}

func TestWrongArguments(t *testing.T) {
	for _, s := range []string{"", "\n", "one", "one\n", "one\n\nthree", "\none\n\n"} {
		x := text.New(s)
		lines := strings.Split(s, "\n")
		for _, at := range []int{-1, -2, math.MinInt, len(s) + 1, len(s) + 2, math.MaxInt} {
			refusesPlace(t, x, at)
		}
		for _, n := range []int{-1, -2, math.MinInt, len(lines), len(lines) + 1, math.MaxInt} {
			refusesLine(t, x, n)
			for _, column := range []int{0, 1, -1, math.MinInt, math.MaxInt} {
				refusesAt(t, x, n, column)
			}
		}
		for n, line := range lines {
			for _, column := range []int{-1, -2, math.MinInt, len(line) + 1, len(line) + 2, math.MaxInt} {
				refusesAt(t, x, n, column)
			}
		}
		if x.Len() != len(lines) || x.Made() != 1 {
			t.Errorf("%q: behind refused questions: Len() = %d, Made() = %d", s, x.Len(), x.Made())
		}
		if at, err := x.At(len(lines)-1, len(lines[len(lines)-1])); at != len(s) || err != nil {
			t.Errorf("%q: behind refused questions the last place is %d, %v", s, at, err)
		}
	}
}

func TestNilTable(t *testing.T) {
	var x *text.Table
	for _, n := range []int{0, 1, -1, math.MinInt, math.MaxInt} {
		refusesPlace(t, x, n)
		refusesLine(t, x, n)
		refusesAt(t, x, n, 0)
		refusesAt(t, x, 0, n)
	}
	if x.Len() != 0 || x.Made() != 0 {
		t.Error(x.Len(), x.Made())
	}
}

// questions are all that makes a table look through its text; a question that is refused is one too.
func questions() map[string]func(x *text.Table) {
	return map[string]func(x *text.Table){
		"Len":           func(x *text.Table) { x.Len() },
		"Place":         func(x *text.Table) { x.Place(1) },
		"Place refused": func(x *text.Table) { x.Place(-1) },
		"Place beyond":  func(x *text.Table) { x.Place(100) },
		"At":            func(x *text.Table) { x.At(0, 0) },
		"At refused":    func(x *text.Table) { x.At(-1, 0) },
		"At beyond":     func(x *text.Table) { x.At(0, 100) },
		"Line":          func(x *text.Table) { x.Line(0) },
		"Line refused":  func(x *text.Table) { x.Line(-1) },
		"Line beyond":   func(x *text.Table) { x.Line(100) },
	}
}

func TestMade(t *testing.T) {
	for _, s := range []string{"", "ab\nc"} {
		for name, ask := range questions() {
			x := text.New(s)
			gather(s)
			if x.Made() != 0 || x.Made() != 0 {
				t.Errorf("%q, ahead of %s: Made() = %d", s, name, x.Made())
			}
			ask(x)
			if x.Made() != 1 {
				t.Errorf("%q, behind %s: Made() = %d", s, name, x.Made())
			}
			for next, again := range questions() {
				again(x)
				if x.Made() != 1 {
					t.Errorf("%q, behind %s and %s: Made() = %d", s, name, next, x.Made())
				}
			}
		}
	}
}

func TestFirstQuestionMayBeAny(t *testing.T) {
	for name, ask := range questions() {
		x := text.New("ab\nc")
		ask(x)
		line, column, err := x.Place(3)
		at, err2 := x.At(1, 1)
		s, err3 := x.Line(0)
		if line != 1 || column != 0 || at != 4 || s != "ab" || x.Len() != 2 || err != nil || err2 != nil || err3 != nil {
			t.Errorf("behind %s: %d %d %d %q %d %v %v %v", name, line, column, at, s, x.Len(), err, err2, err3)
		}
	}
}

func TestTablesAreApart(t *testing.T) {
	a, b := text.New("a\nb"), text.New("a\nb\nc")
	if a.Len() != 2 || a.Made() != 1 || b.Made() != 0 {
		t.Error(a.Len(), a.Made(), b.Made())
	}
	if b.Len() != 3 || b.Made() != 1 || a.Len() != 2 {
		t.Error(b.Len(), b.Made(), a.Len())
	}
}

func TestManyAskAtOnce(t *testing.T) {
	x := text.New(strings.Repeat("a\n", 1000))
	var all sync.WaitGroup
	for n := range 32 {
		all.Go(func() {
			if line, column, err := x.Place(2 * n); line != n || column != 0 || err != nil {
				t.Error(n, line, column, err)
			}
			if x.Len() != 1001 || x.Made() != 1 {
				t.Error(n, x.Len(), x.Made())
			}
		})
	}
	all.Wait()
}
