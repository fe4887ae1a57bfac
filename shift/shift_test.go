package shift_test

import (
	"math"
	"slices"
	"strings"
	"testing"

	"namesake/api"
	"namesake/edit"
	"namesake/shift"
)

// put is an edit, written shortly.
func put(from, to int, text string) api.Edit {
	return api.Edit{From: from, To: to, Text: text}
}

func edits(list ...api.Edit) []api.Edit { return list }

// mark is a byte, and where it stood in the first text (-1: it is new).
type mark struct {
	from int
	what byte
}

// marked is a text's bytes, each with its place.
func marked(s string) []mark {
	var out []mark
	for at := range len(s) {
		out = append(out, mark{at, s[at]})
	}
	return out
}

// told is marks as a text.
func told(marks []mark) string {
	var out []byte
	for _, m := range marks {
		out = append(out, m.what)
	}
	return string(out)
}

// applyByWords applies a right list from its end on, so that no place ahead of an edit moves.
func applyByWords(marks []mark, list []api.Edit) []mark {
	out := slices.Clone(marks)
	for _, e := range slices.Backward(list) {
		var fresh []mark
		for at := range len(e.Text) {
			fresh = append(fresh, mark{-1, e.Text[at]})
		}
		out = slices.Replace(out, e.From, e.To, fresh...)
	}
	return out
}

// joinByWords is the chapter's sentence on two lists: last is what both make of a text of that size.
func joinByWords(last []mark, size int) []api.Edit {
	var list []api.Edit
	from, begin := 0, 0 // behind the last byte that goes by both, in the first text and in the last one
	between := func(to, end int) {
		if to > from || end > begin {
			list = append(list, put(from, to, told(last[begin:end])))
		}
	}
	for now, m := range last {
		if m.from >= 0 {
			between(m.from, now)
			from, begin = m.from+1, now+1
		}
	}
	between(size, len(last))
	return list
}

// rights are all right lists of at most so many edits for a size, with the texts given.
func rights(size, most int, texts ...string) [][]api.Edit {
	var out [][]api.Edit
	var grow func(list []api.Edit)
	grow = func(list []api.Edit) {
		out = append(out, slices.Clone(list))
		if len(list) == most {
			return
		}
		for from := range size + 1 {
			for to := from; to <= size; to++ {
				for _, text := range texts {
					if next := append(slices.Clone(list), put(from, to, text)); edit.Right(next, size) {
						grow(next)
					}
				}
			}
		}
	}
	grow(nil)
	return out
}

// wrongs are lists that aren't right for a size.
func wrongs(size int) [][]api.Edit {
	var one []api.Edit
	for from := -1; from <= size+1; from++ {
		for to := -1; to <= size+1; to++ {
			one = append(one, put(from, to, ""), put(from, to, "x"))
		}
	}
	one = append(one, put(math.MinInt, math.MaxInt, "x"), put(math.MaxInt, math.MaxInt, "x"), put(math.MinInt, math.MinInt, ""), put(math.MaxInt, math.MinInt, ""))
	var out [][]api.Edit
	for _, a := range one {
		if !edit.Right(edits(a), size) {
			out = append(out, edits(a))
		}
		for _, b := range one {
			if !edit.Right(edits(a, b), size) {
				out = append(out, edits(a, b))
			}
		}
	}
	return out
}

// kept is what Kept tells, as pairs.
func kept(list []api.Edit, size int) [][2]int {
	var out [][2]int
	for at, now := range shift.Kept(list, size) {
		out = append(out, [2]int{at, now})
	}
	return out
}

func TestChapterExample(t *testing.T) {
	list := edits(put(1, 2, "xy"))
	if got, err := shift.Goes(list, 3, 0); got != 0 || err != nil {
		t.Error(got, err)
	}
	if got, err := shift.Goes(list, 3, 1); got != 0 || err != api.ErrNone {
		t.Error(got, err)
	}
	if got, err := shift.Goes(list, 3, 2); got != 3 || err != nil {
		t.Error(got, err)
	}
}

// Where each byte goes, written out: a number for each byte of the text, -1 for one that doesn't go.
func TestWhereBytesGo(t *testing.T) {
	for _, c := range []struct {
		name  string
		list  []api.Edit
		goes  []int
		size  int // of the new text
		spans [][2]int
	}{
		{"the empty list", nil, []int{0, 1, 2, 3}, 4, nil},
		{"an empty list that isn't nil", edits(), []int{0, 1, 2, 3}, 4, nil},
		{"a size of 0", nil, nil, 0, nil},
		{"put into no bytes", edits(put(0, 0, "xy")), nil, 2, [][2]int{{0, 2}}},
		{"nothing for nothing of no bytes", edits(put(0, 0, "")), nil, 0, [][2]int{{0, 0}}},
		{"the first byte", edits(put(0, 1, "xyz")), []int{-1, 3, 4, 5}, 6, [][2]int{{0, 3}}},
		{"ahead of the first byte", edits(put(0, 0, "xyz")), []int{3, 4, 5, 6}, 7, [][2]int{{0, 3}}},
		{"the last byte", edits(put(3, 4, "xy")), []int{0, 1, 2, -1}, 5, [][2]int{{3, 5}}},
		{"at the text's end", edits(put(4, 4, "xy")), []int{0, 1, 2, 3}, 6, [][2]int{{4, 6}}},
		{"all bytes", edits(put(0, 4, "x")), []int{-1, -1, -1, -1}, 1, [][2]int{{0, 1}}},
		{"all bytes, taken away", edits(put(0, 4, "")), []int{-1, -1, -1, -1}, 0, [][2]int{{0, 0}}},
		{"as many bytes as there were", edits(put(1, 3, "xy")), []int{0, -1, -1, 3}, 4, [][2]int{{1, 3}}},
		{"only takes away", edits(put(1, 2, "")), []int{0, -1, 1, 2}, 3, [][2]int{{1, 1}}},
		{"only puts in", edits(put(2, 2, "x")), []int{0, 1, 3, 4}, 5, [][2]int{{2, 3}}},
		{"nothing for nothing", edits(put(2, 2, "")), []int{0, 1, 2, 3}, 4, [][2]int{{2, 2}}},
		{"nothing for nothing, here and there", edits(put(0, 0, ""), put(2, 2, ""), put(4, 4, "")), []int{0, 1, 2, 3}, 4, [][2]int{{0, 0}, {2, 2}, {4, 4}}},
		{"edits that touch", edits(put(0, 1, "xy"), put(1, 2, ""), put(2, 2, "z")), []int{-1, -1, 3, 4}, 5, [][2]int{{0, 2}, {2, 2}, {2, 3}}},
		{"takes away ahead of one that puts in", edits(put(0, 2, ""), put(2, 2, "x")), []int{-1, -1, 1, 2}, 3, [][2]int{{0, 0}, {0, 1}}},
		{"a byte between", edits(put(0, 1, "xy"), put(2, 3, "")), []int{-1, 2, -1, 3}, 4, [][2]int{{0, 2}, {3, 3}}},
		{"what stands there already", edits(put(1, 2, "b")), []int{0, -1, 2, 3}, 4, [][2]int{{1, 2}}},
	} {
		size := len(c.goes)
		came := make([]int, c.size)
		for now := range came {
			came[now] = -1
		}
		for at, want := range c.goes {
			if want >= 0 {
				came[want] = at
			}
		}
		asks(t, c.name, "Goes", shift.Goes, c.list, size, c.goes)
		asks(t, c.name, "Came", shift.Came, c.list, size, came)
		if got, err := shift.Spans(c.list, size); !slices.Equal(got, c.spans) || err != nil {
			t.Errorf("%s: Spans = %v, %v, want %v", c.name, got, err, c.spans)
		}
		if got := kept(c.list, size); !slices.Equal(got, pairs(c.goes)) {
			t.Errorf("%s: Kept = %v", c.name, got)
		}
	}
}

// asks asks a call of each byte, and of places at which there is none.
func asks(t *testing.T, name, what string, call func([]api.Edit, int, int) (int, error), list []api.Edit, size int, want []int) {
	t.Helper()
	for at, to := range want {
		got, err := call(list, size, at)
		if to < 0 && (got != 0 || err != api.ErrNone) || to >= 0 && (got != to || err != nil) {
			t.Errorf("%s: %s(%v, %d, %d) = %d, %v, want %d", name, what, list, size, at, got, err, to)
		}
	}
	for _, at := range []int{-1, -2, -5, math.MinInt, math.MinInt + 1, len(want), len(want) + 1, len(want) + 5, math.MaxInt - 1, math.MaxInt} {
		if got, err := call(list, size, at); got != 0 || err != api.ErrNone {
			t.Errorf("%s: %s(%v, %d, %d) = %d, %v", name, what, list, size, at, got, err)
		}
	}
}

// pairs is each byte that goes, and to where.
func pairs(goes []int) [][2]int {
	var out [][2]int
	for at, now := range goes {
		if now >= 0 {
			out = append(out, [2]int{at, now})
		}
	}
	return out
}

func TestWhereBytesGoByTheWords(t *testing.T) {
	for size := range 5 {
		for _, list := range rights(size, 3, "", "x", "yz") {
			made := applyByWords(marked("abcd"[:size]), list)
			goes := slices.Repeat([]int{-1}, size)
			came := slices.Repeat([]int{-1}, len(made))
			for now, m := range made {
				if m.from >= 0 {
					goes[m.from], came[now] = now, m.from
				}
			}
			asks(t, "by the words", "Goes", shift.Goes, list, size, goes)
			asks(t, "by the words", "Came", shift.Came, list, size, came)
			if got := kept(list, size); !slices.Equal(got, pairs(goes)) {
				t.Errorf("Kept(%v, %d) = %v, want %v", list, size, got, pairs(goes))
			}
			if t.Failed() {
				return
			}
		}
	}
}

// The new bytes stand where the spans tell, and all bytes beside them came.
func TestSpansHoldTheNewBytes(t *testing.T) {
	for size := range 5 {
		for _, list := range rights(size, 3, "", "x", "yz") {
			made := applyByWords(marked("abcd"[:size]), list)
			spans, err := shift.Spans(list, size)
			if err != nil || len(spans) != len(list) {
				t.Fatalf("Spans(%v, %d) = %v, %v", list, size, spans, err)
			}
			fresh, ahead := 0, 0
			for n, span := range spans {
				if span[0] < ahead || span[1] > len(made) || told(made[span[0]:span[1]]) != list[n].Text {
					t.Fatalf("Spans(%v, %d) = %v", list, size, spans)
				}
				for _, m := range made[span[0]:span[1]] {
					if m.from >= 0 {
						t.Fatalf("Spans(%v, %d) = %v: an old byte", list, size, spans)
					}
					fresh++
				}
				ahead = span[1]
			}
			came := len(kept(list, size))
			if fresh+came != len(made) {
				t.Fatalf("%v: %d new bytes and %d old ones are not %d", list, fresh, came, len(made))
			}
		}
	}
}

func TestGoesAndCameLeadToOneAnother(t *testing.T) {
	for size := range 5 {
		s := "abcd"[:size]
		for _, list := range rights(size, 3, "", "x", "yz") {
			made, err := edit.Apply(s, list)
			if err != nil {
				t.Fatal(err)
			}
			var back [][2]int
			for now := range made {
				if at, err := shift.Came(list, size, now); err == nil {
					back = append(back, [2]int{at, now})
				}
			}
			var there [][2]int
			for at := range size {
				if now, err := shift.Goes(list, size, at); err == nil {
					there = append(there, [2]int{at, now})
				}
			}
			if !slices.Equal(back, there) || !slices.Equal(there, kept(list, size)) {
				t.Fatalf("%v for %d: Goes %v, Came %v, Kept %v", list, size, there, back, kept(list, size))
			}
			last := [2]int{-1, -1}
			for _, pair := range there {
				if pair[0] <= last[0] || pair[1] <= last[1] || s[pair[0]] != made[pair[1]] {
					t.Fatalf("%v for %d: %v", list, size, there)
				}
				last = pair
			}
		}
	}
}

func TestKeptIsLeftEarly(t *testing.T) {
	list := edits(put(1, 2, "xyz"), put(4, 4, "-"), put(5, 6, ""))
	want := [][2]int{{0, 0}, {2, 4}, {3, 5}, {4, 7}, {6, 8}}
	for many := range len(want) + 1 {
		var got [][2]int
		for at, now := range shift.Kept(list, 7) {
			if len(got) == many {
				break
			}
			got = append(got, [2]int{at, now})
		}
		if !slices.Equal(got, want[:many]) {
			t.Errorf("left behind %d: %v", many, got)
		}
	}
	// A loop that was left isn't asked again: its function would panic then, and mustn't be called.
	for many := range len(want) {
		calls := 0
		shift.Kept(list, 7)(func(int, int) bool { calls++; return calls <= many })
		if calls != many+1 {
			t.Errorf("asked %d times, left at %d", calls, many+1)
		}
	}
}

func TestKeptIsGoneThroughAgain(t *testing.T) {
	seq := shift.Kept(edits(put(1, 2, "xyz")), 3)
	for round := range 3 {
		var got [][2]int
		for at, now := range seq {
			got = append(got, [2]int{at, now})
			if round == 1 {
				break
			}
		}
		if want := [][2]int{{0, 0}, {2, 4}}; round != 1 && !slices.Equal(got, want) {
			t.Error(round, got)
		}
	}
}

// Bytes are told one by one: who leaves early isn't kept waiting by a great size.
func TestGreatestSize(t *testing.T) {
	const most = math.MaxInt
	n := 0
	for at, now := range shift.Kept(edits(put(1, 2, "xyz"), put(4, most-1, "")), most) {
		if want := [][2]int{{0, 0}, {2, 4}, {3, 5}, {most - 1, 6}}; want[n] != [2]int{at, now} {
			t.Error(at, now)
		}
		n++
	}
	if n != 4 {
		t.Error(n)
	}
	for at, now := range shift.Kept(nil, most) {
		if at != now {
			t.Error(at, now)
		}
		if at == 9 {
			break
		}
	}
	if got, err := shift.Goes(edits(put(0, 1, "")), most, most-1); got != most-2 || err != nil {
		t.Error(got, err)
	}
	if got, err := shift.Came(edits(put(0, 1, "")), most, most-2); got != most-1 || err != nil {
		t.Error(got, err)
	}
	if got, err := shift.Came(edits(put(0, 1, "")), most, most-1); got != 0 || err != api.ErrNone {
		t.Error(got, err)
	}
	if got, err := shift.Join(edits(put(0, 1, "")), edits(put(0, 0, "x"), put(most-2, most-1, "")), most); !slices.Equal(got, edits(put(0, 1, "x"), put(most-1, most, ""))) || err != nil {
		t.Error(got, err)
	}
	if got, err := shift.Spans(edits(put(0, most, "x")), most); !slices.Equal(got, [][2]int{{0, 1}}) || err != nil {
		t.Error(got, err)
	}
}

// Numbers wrap around; what stands at places that are numbers leads to and fro nevertheless.
func TestNewTextBeyondTheGreatestSize(t *testing.T) {
	const most = math.MaxInt
	list := edits(put(1, 1, "xy"))
	if got, err := shift.Goes(list, most, most-1); got != math.MinInt || err != nil {
		t.Error(got, err)
	}
	for _, pair := range [][2]int{{0, 0}, {1, 3}, {most - 3, most - 1}, {most - 2, most}} {
		if got, err := shift.Goes(list, most, pair[0]); got != pair[1] || err != nil {
			t.Error(pair, got, err)
		}
		if got, err := shift.Came(list, most, pair[1]); got != pair[0] || err != nil {
			t.Error(pair, got, err)
		}
	}
	for _, at := range []int{1, 2, -1, math.MinInt} {
		if got, err := shift.Came(list, most, at); got != 0 || err != api.ErrNone {
			t.Error(at, got, err)
		}
	}
	if got, err := shift.Join(list, nil, most); len(got) != 0 || err != api.ErrForm {
		t.Error(got, err)
	}
}

// The first list makes abcdef into abXYZdeV.
func TestJoin(t *testing.T) {
	first := edits(put(2, 3, "XYZ"), put(5, 6, "V"))
	for _, c := range []struct {
		name         string
		second, want []api.Edit
	}{
		{"the empty list", nil, edits(put(2, 3, "XYZ"), put(5, 6, "V"))},
		{"within what was put in", edits(put(3, 4, "-")), edits(put(2, 3, "X-Z"), put(5, 6, "V"))},
		{"put in within what was put in", edits(put(3, 3, "--")), edits(put(2, 3, "X--YZ"), put(5, 6, "V"))},
		{"taken away within what was put in", edits(put(3, 4, "")), edits(put(2, 3, "XZ"), put(5, 6, "V"))},
		{"at its beginning, ahead of it", edits(put(2, 2, "-")), edits(put(2, 3, "-XYZ"), put(5, 6, "V"))},
		{"at its end, behind it", edits(put(5, 5, "-")), edits(put(2, 3, "XYZ-"), put(5, 6, "V"))},
		{"ends at its beginning", edits(put(1, 2, "-")), edits(put(1, 3, "-XYZ"), put(5, 6, "V"))},
		{"begins at its end", edits(put(5, 6, "-")), edits(put(2, 4, "XYZ-"), put(5, 6, "V"))},
		{"a byte ahead of it", edits(put(0, 1, "-")), edits(put(0, 1, "-"), put(2, 3, "XYZ"), put(5, 6, "V"))},
		{"across its beginning", edits(put(1, 3, "-")), edits(put(1, 3, "-YZ"), put(5, 6, "V"))},
		{"across its end", edits(put(4, 6, "-")), edits(put(2, 4, "XY-"), put(5, 6, "V"))},
		{"across it", edits(put(1, 6, "-")), edits(put(1, 4, "-"), put(5, 6, "V"))},
		{"across both", edits(put(3, 8, "-")), edits(put(2, 6, "X-"))},
		{"takes away just what was put in", edits(put(2, 5, "")), edits(put(2, 3, ""), put(5, 6, "V"))},
		{"takes away all that was put in", edits(put(2, 5, ""), put(7, 8, "")), edits(put(2, 3, ""), put(5, 6, ""))},
		{"takes away all", edits(put(0, 8, "")), edits(put(0, 6, ""))},
		{"puts back what was there", edits(put(2, 5, "c")), edits(put(2, 3, "c"), put(5, 6, "V"))},
		{"at the text's end", edits(put(8, 8, "-")), edits(put(2, 3, "XYZ"), put(5, 6, "V-"))},
		{"what parts the two is taken away", edits(put(5, 7, "")), edits(put(2, 6, "XYZV"))},
		{"the first byte and the last one", edits(put(0, 1, "-"), put(7, 8, "")), edits(put(0, 1, "-"), put(2, 3, "XYZ"), put(5, 6, ""))},
		{"several within", edits(put(2, 3, "1"), put(3, 4, "2"), put(4, 5, "3")), edits(put(2, 3, "123"), put(5, 6, "V"))},
		{"nothing for nothing", edits(put(0, 0, ""), put(4, 4, ""), put(6, 6, "")), edits(put(2, 3, "XYZ"), put(5, 6, "V"))},
	} {
		if got, err := shift.Join(first, c.second, 6); !slices.Equal(got, c.want) || err != nil {
			t.Errorf("%s: Join = %v, %v, want %v", c.name, got, err, c.want)
		}
	}
}

func TestJoinOfOtherFirstLists(t *testing.T) {
	for _, c := range []struct {
		name                string
		first, second, want []api.Edit
		size                int
	}{
		{"no edits", nil, nil, nil, 4},
		{"no edits of no bytes", nil, nil, nil, 0},
		{"an empty first list", nil, edits(put(1, 2, "x"), put(3, 3, "y")), edits(put(1, 2, "x"), put(3, 3, "y")), 4},
		{"put in and taken away again", edits(put(2, 2, "new")), edits(put(2, 5, "")), nil, 4},
		{"put in and taken away again, at the end", edits(put(4, 4, "new")), edits(put(4, 7, "")), nil, 4},
		{"put in and taken away again, of no bytes", edits(put(0, 0, "new")), edits(put(0, 3, "")), nil, 0},
		{"of no bytes", edits(put(0, 0, "new")), edits(put(1, 2, "o")), edits(put(0, 0, "now")), 0},
		{"edits of the first that touch", edits(put(0, 1, "x"), put(1, 2, "y")), nil, edits(put(0, 2, "xy")), 4},
		{"edits of the second that touch", nil, edits(put(0, 1, "x"), put(1, 2, ""), put(2, 2, "y")), edits(put(0, 2, "xy")), 4},
		{"one of each, that touch", edits(put(0, 1, "x")), edits(put(1, 2, "y")), edits(put(0, 2, "xy")), 4},
		{"one of each, a byte between", edits(put(0, 1, "x")), edits(put(2, 3, "y")), edits(put(0, 1, "x"), put(2, 3, "y")), 4},
		{"taken away, and put in there", edits(put(1, 3, "")), edits(put(1, 1, "x")), edits(put(1, 3, "x")), 4},
		{"taken away, and more", edits(put(1, 2, "")), edits(put(0, 2, "")), edits(put(0, 3, "")), 4},
		{"taken away from both sides", edits(put(0, 1, ""), put(3, 4, "")), edits(put(0, 2, "")), edits(put(0, 4, "")), 4},
		{"nothing for nothing, twice", edits(put(1, 1, ""), put(4, 4, "")), edits(put(0, 0, ""), put(1, 1, "")), nil, 4},
		{"nothing for nothing, where one ends", edits(put(0, 1, "x"), put(1, 1, "")), edits(put(1, 1, "")), edits(put(0, 1, "x")), 4},
		{"what changes no byte stays an edit", edits(put(0, 1, "a")), nil, edits(put(0, 1, "a")), 4},
		{"two put in at one place, the second one ahead", edits(put(2, 2, "x")), edits(put(2, 2, "y")), edits(put(2, 2, "yx")), 4},
		{"two put in at one place, the second one behind", edits(put(2, 2, "x")), edits(put(3, 3, "y")), edits(put(2, 2, "xy")), 4},
	} {
		if got, err := shift.Join(c.first, c.second, c.size); !slices.Equal(got, c.want) || err != nil {
			t.Errorf("%s: Join = %v, %v, want %v", c.name, got, err, c.want)
		}
	}
}

func TestJoinByTheWords(t *testing.T) {
	for size := range 4 {
		s := "abc"[:size]
		seconds := map[int][][]api.Edit{}
		for _, first := range rights(size, 2, "", "x", "yz") {
			made := applyByWords(marked(s), first)
			if seconds[len(made)] == nil {
				seconds[len(made)] = rights(len(made), 2, "", "P")
			}
			for _, second := range seconds[len(made)] {
				last := applyByWords(made, second)
				got, err := shift.Join(first, second, size)
				if want := joinByWords(last, size); !slices.Equal(got, want) || err != nil {
					t.Fatalf("Join(%v, %v, %d) = %v, %v, want %v", first, second, size, got, err, want)
				}
				if !edit.Plain(got, size) || told(applyByWords(marked(s), got)) != told(last) {
					t.Fatalf("Join(%v, %v, %d) = %v makes %q", first, second, size, got, told(last))
				}
			}
		}
	}
}

// The bytes that go by both lists are those that go by the one list of both, and go to the same places.
func TestJoinKeepsTheSameBytes(t *testing.T) {
	for _, first := range rights(3, 2, "", "xyz") {
		more, _ := edit.Grow(first, 3)
		for _, second := range rights(3+more, 1, "", "P") {
			one, err := shift.Join(first, second, 3)
			if err != nil {
				t.Fatal(first, second, err)
			}
			var both [][2]int
			for at, mid := range shift.Kept(first, 3) {
				if now, err := shift.Goes(second, 3+more, mid); err == nil {
					both = append(both, [2]int{at, now})
				}
			}
			if got := kept(one, 3); !slices.Equal(got, both) {
				t.Fatalf("%v and %v keep %v, %v keeps %v", first, second, both, one, got)
			}
		}
	}
}

// Joined with the empty list, on either side, a list is its plain one.
func TestJoinWithNothingIsThePlainList(t *testing.T) {
	for size := range 5 {
		for _, list := range rights(size, 3, "", "x") {
			plain, err := edit.Merge(list, size)
			if err != nil {
				t.Fatal(err)
			}
			if got, err := shift.Join(list, nil, size); !slices.Equal(got, plain) || err != nil {
				t.Fatalf("Join(%v, nil, %d) = %v, %v", list, size, got, err)
			}
			if got, err := shift.Join(nil, list, size); !slices.Equal(got, plain) || err != nil {
				t.Fatalf("Join(nil, %v, %d) = %v, %v", list, size, got, err)
			}
		}
	}
}

func TestInverseJoinedMakesTheText(t *testing.T) {
	s := "abcd"
	for _, list := range rights(4, 2, "x", "yz") {
		back, err := edit.Invert(s, list)
		if err != nil {
			t.Fatal(err)
		}
		one, err := shift.Join(list, back, 4)
		if got, wrong := edit.Apply(s, one); got != s || err != nil || wrong != nil {
			t.Fatalf("Join(%v, %v, 4) = %v, %v", list, back, one, err)
		}
	}
}

func TestLongLists(t *testing.T) {
	s := strings.Repeat("0123456789", 400)
	var first, second []api.Edit
	for n := range 1000 {
		first = append(first, put(4*n, 4*n+n%4, strings.Repeat("x", n%5)))
	}
	made := applyByWords(marked(s), first)
	for from := 0; from+3 <= len(made); from += 3 {
		second = append(second, put(from, from+from%4, strings.Repeat("P", from%3)))
	}
	last := applyByWords(made, second)
	got, err := shift.Join(first, second, len(s))
	if !slices.Equal(got, joinByWords(last, len(s))) || err != nil {
		t.Error("Join:", len(got), err)
	}
	for now, m := range made {
		if from, err := shift.Came(first, len(s), now); m.from >= 0 && (from != m.from || err != nil) || m.from < 0 && err != api.ErrNone {
			t.Fatal("Came:", now, from, err)
		}
	}
}

// A new text of more than 65536 bytes is no matter here: nothing is applied.
func TestLargeTextsAreNotRefused(t *testing.T) {
	long := strings.Repeat("x", api.MaxText)
	list := edits(put(0, 1, long), put(1, 1, long))
	if got, err := shift.Goes(list, 2, 1); got != 2*api.MaxText || err != nil {
		t.Error(got, err)
	}
	if got, err := shift.Came(list, 2, 2*api.MaxText); got != 1 || err != nil {
		t.Error(got, err)
	}
	got, err := shift.Join(list, edits(put(1, 2*api.MaxText-1, "y")), 2)
	if !slices.Equal(got, edits(put(0, 1, "xyx"))) || err != nil {
		t.Error(len(got), err)
	}
	got, err = shift.Join(list, nil, 2)
	if !slices.Equal(got, edits(put(0, 1, long+long))) || err != nil {
		t.Error(len(got), err)
	}
}

// refused asks all calls of a list that isn't right for a size.
func refused(t *testing.T, list []api.Edit, size int) {
	t.Helper()
	for _, at := range []int{-1, 0, 1, size, math.MaxInt, math.MinInt} {
		if got, err := shift.Goes(list, size, at); got != 0 || err != api.ErrForm {
			t.Fatalf("Goes(%v, %d, %d) = %d, %v", list, size, at, got, err)
		}
		if got, err := shift.Came(list, size, at); got != 0 || err != api.ErrForm {
			t.Fatalf("Came(%v, %d, %d) = %d, %v", list, size, at, got, err)
		}
	}
	for at, now := range shift.Kept(list, size) {
		t.Fatalf("Kept(%v, %d): %d, %d", list, size, at, now)
	}
	if got, err := shift.Spans(list, size); len(got) != 0 || err != api.ErrForm {
		t.Fatalf("Spans(%v, %d) = %v, %v", list, size, got, err)
	}
	if got, err := shift.Join(list, nil, size); len(got) != 0 || err != api.ErrForm {
		t.Fatalf("Join(%v, nil, %d) = %v, %v", list, size, got, err)
	}
	// The empty first list leaves the size as it is.
	if got, err := shift.Join(nil, list, size); len(got) != 0 || err != api.ErrForm {
		t.Fatalf("Join(nil, %v, %d) = %v, %v", list, size, got, err)
	}
}

func TestWrongListsAreRefused(t *testing.T) {
	for size := range 4 {
		for _, list := range wrongs(size) {
			refused(t, list, size)
		}
	}
	refused(t, edits(put(0, 1, "x"), put(2, 3, "x"), put(1, 2, "x")), 6)
	for _, size := range []int{-1, -2, math.MinInt} {
		refused(t, nil, size)
		refused(t, edits(put(0, 0, "x")), size)
		refused(t, edits(put(-1, -1, "")), size)
	}
}

func TestSecondListIsForTheNewSize(t *testing.T) {
	for _, c := range []struct {
		name          string
		first, second []api.Edit
		want          error
	}{
		{"at the end of a longer text", edits(put(0, 0, "xyz")), edits(put(6, 7, "")), nil},
		{"beyond the end of a longer text", edits(put(0, 0, "xyz")), edits(put(7, 8, "")), api.ErrForm},
		{"at the end of a shorter text", edits(put(0, 3, "")), edits(put(1, 1, "y")), nil},
		{"beyond the end of a shorter text", edits(put(0, 3, "")), edits(put(1, 2, "y")), api.ErrForm},
		{"of an empty text", edits(put(0, 4, "")), edits(put(0, 0, "y")), nil},
		{"beyond an empty text", edits(put(0, 4, "")), edits(put(0, 1, "y")), api.ErrForm},
		{"two at one place", edits(put(0, 1, "x")), edits(put(2, 2, "y"), put(2, 2, "z")), api.ErrForm},
		{"below 0", edits(put(0, 1, "x")), edits(put(-1, 0, "y")), api.ErrForm},
		{"both wrong", edits(put(0, 9, "x")), edits(put(-1, 0, "y")), api.ErrForm},
	} {
		got, err := shift.Join(c.first, c.second, 4)
		if err != c.want || err != nil && len(got) != 0 {
			t.Errorf("%s: Join = %v, %v", c.name, got, err)
		}
	}
	for _, first := range rights(2, 2, "", "x", "yz") {
		more, _ := edit.Grow(first, 2)
		for _, second := range wrongs(2 + more) {
			if got, err := shift.Join(first, second, 2); len(got) != 0 || err != api.ErrForm {
				t.Fatalf("Join(%v, %v, 2) = %v, %v", first, second, got, err)
			}
		}
	}
}

// roomy is a list with spare room behind it, which is the caller's too, and all of that.
func roomy(list []api.Edit) (handed, room []api.Edit) {
	room = append(slices.Clone(list), put(71, 72, "spare"), put(81, 82, "room"))
	return room[:len(list)], room
}

func TestArgumentsStay(t *testing.T) {
	for _, list := range [][]api.Edit{
		nil,
		edits(put(1, 2, "x"), put(4, 5, "y")),
		edits(put(0, 1, ""), put(1, 2, "x"), put(2, 2, ""), put(6, 6, "z")),
		edits(put(4, 5, "y"), put(1, 2, "x")),
		edits(put(4, 9, "y")),
	} {
		a, first := roomy(list)
		b, second := roomy(list)
		was := slices.Clone(first)
		shift.Goes(a, 6, 3)
		shift.Came(a, 6, 3)
		shift.Spans(a, 6)
		shift.Join(a, b, 6)
		kept(a, 6)
		if !slices.Equal(first, was) || !slices.Equal(second, was) {
			t.Errorf("%v: left are %v and %v", list, first, second)
		}
	}
}

func TestAnswersAreNew(t *testing.T) {
	a, first := roomy(edits(put(1, 2, "x"), put(4, 5, "y")))
	b, second := roomy(edits(put(0, 1, "z"), put(5, 6, "")))
	for _, c := range []struct {
		name string
		x, y []api.Edit
		want []api.Edit
	}{
		{"both", a, b, edits(put(0, 2, "zx"), put(4, 6, "y"))},
		{"the first one alone", a, nil, edits(put(1, 2, "x"), put(4, 5, "y"))},
		{"the second one alone", nil, b, edits(put(0, 1, "z"), put(5, 6, ""))},
	} {
		wasFirst, wasSecond := slices.Clone(first), slices.Clone(second)
		got, err := shift.Join(c.x, c.y, 6)
		if !slices.Equal(got, c.want) || err != nil {
			t.Fatal(c.name, got, err)
		}
		for n := range got {
			got[n] = put(-1, -1, "spoilt")
		}
		_ = append(got, put(-1, -1, "spoilt"))
		if !slices.Equal(first, wasFirst) || !slices.Equal(second, wasSecond) {
			t.Errorf("%s: the answer shares memory with what was handed in", c.name)
		}
		if again, err := shift.Join(c.x, c.y, 6); !slices.Equal(again, c.want) || err != nil {
			t.Errorf("%s: asked again: %v, %v", c.name, again, err)
		}
	}
	spans, _ := shift.Spans(a, 6)
	joined, _ := shift.Join(a, b, 6)
	for n := range first {
		first[n], second[n] = put(-1, -1, "spoilt"), put(-1, -1, "spoilt")
	}
	if !slices.Equal(spans, [][2]int{{1, 2}, {4, 5}}) || !slices.Equal(joined, edits(put(0, 2, "zx"), put(4, 6, "y"))) {
		t.Error("the answers hang on the lists that were handed in:", spans, joined)
	}
}

// Whoever ranges later, or changes the list in the loop, is told of the list as it was handed in.
func TestKeptKeepsNoList(t *testing.T) {
	want := [][2]int{{0, 0}, {2, 3}, {3, 4}, {5, 5}}
	list := edits(put(1, 2, "xy"), put(4, 5, ""))
	seq := shift.Kept(list, 6)
	list[0], list[1] = put(0, 0, "spoilt"), put(9, 9, "spoilt")
	var got [][2]int
	for at, now := range seq {
		got = append(got, [2]int{at, now})
	}
	if !slices.Equal(got, want) {
		t.Error("changed ahead of the loop:", got)
	}
	list = edits(put(1, 2, "xy"), put(4, 5, ""))
	got = nil
	for at, now := range shift.Kept(list, 6) {
		list[1] = put(5, 6, "spoilt")
		got = append(got, [2]int{at, now})
	}
	if !slices.Equal(got, want) {
		t.Error("changed in the loop:", got)
	}
	list = edits(put(9, 9, ""))
	seq = shift.Kept(list, 6)
	list[0] = put(1, 2, "")
	for at, now := range seq {
		t.Error("the list wasn't right when it was handed in:", at, now)
	}
}
