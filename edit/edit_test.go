package edit_test

import (
	"math"
	"slices"
	"strings"
	"testing"

	"namesake/api"
	"namesake/edit"
)

// put is an edit, written shortly.
func put(from, to int, text string) api.Edit {
	return api.Edit{From: from, To: to, Text: text}
}

func edits(list ...api.Edit) []api.Edit { return list }

// rightByWords is the chapter's sentence on right lists, word by word.
func rightByWords(list []api.Edit, size int) bool {
	if size < 0 {
		return false
	}
	for i, e := range list {
		if !(e.From <= e.To) || e.From < 0 || e.From > size || e.To < 0 || e.To > size {
			return false
		}
		if i > 0 && !(e.From >= list[i-1].To && e.From > list[i-1].From) {
			return false
		}
	}
	return true
}

// plainByWords is the chapter's sentence on plain lists.
func plainByWords(list []api.Edit, size int) bool {
	if !rightByWords(list, size) {
		return false
	}
	for i, e := range list {
		if e.Text == "" && e.From == e.To {
			return false
		}
		if i > 0 && e.From-list[i-1].To < 1 {
			return false
		}
	}
	return true
}

// applyByWords applies a right list from its end on, so that no place ahead of an edit moves.
func applyByWords(s string, list []api.Edit) string {
	for i := len(list) - 1; i >= 0; i-- {
		s = s[:list[i].From] + list[i].Text + s[list[i].To:]
	}
	return s
}

// wild are all lists of up to two edits whose numbers are from -1 to size+1, right or not.
func wild(size int, texts ...string) [][]api.Edit {
	var one []api.Edit
	for from := -1; from <= size+1; from++ {
		for to := -1; to <= size+1; to++ {
			for _, text := range texts {
				one = append(one, put(from, to, text))
			}
		}
	}
	out := [][]api.Edit{nil}
	for _, a := range one {
		out = append(out, edits(a))
		for _, b := range one {
			out = append(out, edits(a, b))
		}
	}
	return out
}

// rights are all right lists for a size whose texts are among those given.
func rights(size int, texts ...string) [][]api.Edit {
	var out [][]api.Edit
	var grow func(list []api.Edit)
	grow = func(list []api.Edit) {
		out = append(out, slices.Clone(list))
		for from := range size + 1 {
			for to := from; to <= size; to++ {
				for _, text := range texts {
					if next := append(slices.Clone(list), put(from, to, text)); rightByWords(next, size) {
						grow(next)
					}
				}
			}
		}
	}
	grow(nil)
	return out
}

func TestChapterExample(t *testing.T) {
	if got, err := edit.Apply("abc", edits(put(1, 2, "x"))); got != "axc" || err != nil {
		t.Error(got, err)
	}
}

func TestRightAndPlain(t *testing.T) {
	for _, c := range []struct {
		name         string
		list         []api.Edit
		size         int
		right, plain bool
	}{
		{"the empty list", nil, 6, true, true},
		{"an empty list that isn't nil", edits(), 6, true, true},
		{"the empty list for no bytes", nil, 0, true, true},
		{"one edit", edits(put(1, 2, "x")), 6, true, true},
		{"all bytes", edits(put(0, 6, "")), 6, true, true},
		{"at the text's end", edits(put(6, 6, "x")), 6, true, true},
		{"into no bytes", edits(put(0, 0, "x")), 0, true, true},
		{"a byte between", edits(put(0, 2, "x"), put(3, 4, "y")), 6, true, true},
		{"a byte between two that only put in", edits(put(2, 2, "x"), put(3, 3, "y")), 6, true, true},
		{"edits that touch", edits(put(0, 2, "x"), put(2, 4, "y")), 6, true, false},
		{"one that only puts in, where one ends", edits(put(0, 2, "x"), put(2, 2, "y")), 6, true, false},
		{"nothing in place of nothing", edits(put(3, 3, "")), 6, true, false},
		{"nothing in place of nothing, last", edits(put(0, 1, "x"), put(3, 3, "")), 6, true, false},
		{"takes away ahead of another one", edits(put(1, 2, ""), put(2, 3, "y")), 6, true, false},
		{"puts in where the next one begins", edits(put(2, 2, "x"), put(2, 3, "y")), 6, false, false},
		{"two put in at one place", edits(put(2, 2, "x"), put(2, 2, "y")), 6, false, false},
		{"nothing for nothing twice at one place", edits(put(2, 2, ""), put(2, 2, "")), 6, false, false},
		{"bytes that are taken twice", edits(put(0, 3, ""), put(2, 4, "")), 6, false, false},
		{"one within another one", edits(put(0, 5, ""), put(2, 3, "")), 6, false, false},
		{"out of order", edits(put(4, 5, "x"), put(0, 1, "y")), 6, false, false},
		{"From behind To", edits(put(2, 1, "x")), 6, false, false},
		{"From below 0", edits(put(-1, 1, "x")), 6, false, false},
		{"both below 0", edits(put(-2, -1, "x")), 6, false, false},
		{"To beyond the size", edits(put(5, 7, "x")), 6, false, false},
		{"both beyond the size", edits(put(7, 7, "x")), 6, false, false},
		{"the greatest numbers", edits(put(math.MinInt, math.MaxInt, "x")), 6, false, false},
		{"the greatest numbers, turned", edits(put(math.MaxInt, math.MinInt, "x")), 6, false, false},
		{"the last one is wrong", edits(put(0, 1, "x"), put(2, 3, "y"), put(4, 7, "z")), 6, false, false},
		{"a size below 0", nil, -1, false, false},
		{"the least size", nil, math.MinInt, false, false},
		{"an edit for a size below 0", edits(put(-1, -1, "x")), -1, false, false},
		{"the greatest size", edits(put(0, 0, "x"), put(1, math.MaxInt, "")), math.MaxInt, true, true},
	} {
		if got := edit.Right(c.list, c.size); got != c.right {
			t.Errorf("%s: Right = %v", c.name, got)
		}
		if got := edit.Plain(c.list, c.size); got != c.plain {
			t.Errorf("%s: Plain = %v", c.name, got)
		}
	}
}

func TestRightAndPlainByTheWords(t *testing.T) {
	for size := range 4 {
		for _, list := range wild(size, "", "x") {
			if got := edit.Right(list, size); got != rightByWords(list, size) {
				t.Fatalf("Right(%v, %d) = %v", list, size, got)
			}
			if got := edit.Plain(list, size); got != plainByWords(list, size) {
				t.Fatalf("Plain(%v, %d) = %v", list, size, got)
			}
		}
		for _, list := range rights(size, "", "x") {
			if !edit.Right(list, size) {
				t.Fatalf("Right(%v, %d)", list, size)
			}
			if got := edit.Plain(list, size); got != plainByWords(list, size) {
				t.Fatalf("Plain(%v, %d) = %v", list, size, got)
			}
		}
	}
}

func TestApply(t *testing.T) {
	for _, c := range []struct {
		s    string
		list []api.Edit
		want string
	}{
		{"", nil, ""},
		{"abc", nil, "abc"},
		{"", edits(put(0, 0, "x")), "x"},
		{"abc", edits(put(3, 3, "x")), "abcx"},
		{"abc", edits(put(0, 0, "x")), "xabc"},
		{"abc", edits(put(0, 3, "")), ""},
		{"abc", edits(put(1, 1, "")), "abc"},
		{"abc", edits(put(0, 1, "x"), put(1, 2, "yz"), put(2, 2, "-"), put(3, 3, "!")), "xyz-c!"},
		{"abc", edits(put(0, 1, ""), put(1, 3, "x")), "x"},
		{"\xff\x00\n", edits(put(1, 2, "\xc3")), "\xff\xc3\n"},
		{"\u00e9", edits(put(1, 2, "x")), "\xc3x"},
	} {
		if got, err := edit.Apply(c.s, c.list); got != c.want || err != nil {
			t.Errorf("Apply(%q, %v) = %q, %v, want %q", c.s, c.list, got, err, c.want)
		}
	}
	for size := range 4 {
		s := "abc"[:size]
		for _, list := range rights(size, "", "x", "yz") {
			if got, err := edit.Apply(s, list); got != applyByWords(s, list) || err != nil {
				t.Fatalf("Apply(%q, %v) = %q, %v", s, list, got, err)
			}
		}
	}
}

func TestNewTextOfAtMost65536Bytes(t *testing.T) {
	full := strings.Repeat("a", 65536)
	for _, c := range []struct {
		name  string
		s     string
		list  []api.Edit
		size  int
		wrong error
	}{
		{"as much as may be, put in", "", edits(put(0, 0, full)), 65536, nil},
		{"one more, put in", "", edits(put(0, 0, full+"a")), 0, api.ErrLarge},
		{"a full text, as it is", full, nil, 65536, nil},
		{"a full text, another byte", full, edits(put(65535, 65536, "x")), 65536, nil},
		{"a full text, one byte more", full, edits(put(65536, 65536, "x")), 0, api.ErrLarge},
		{"a full text, less and as much more", full, edits(put(0, 2, ""), put(9, 9, "xy")), 65536, nil},
		{"a full text, more and as much less", full, edits(put(0, 0, "xy"), put(9, 11, "")), 65536, nil},
		{"a full text, more by one than less", full, edits(put(0, 0, "xyz"), put(9, 11, "")), 0, api.ErrLarge},
		{"a text that is too large, as it is", full + "a", nil, 0, api.ErrLarge},
		{"a text that is too large, cut", full + "a", edits(put(3, 4, "")), 65536, nil},
		{"two halves", "ab", edits(put(0, 1, full[:32768]), put(1, 2, full[:32768])), 65536, nil},
		{"two halves and a byte", "abc", edits(put(0, 1, full[:32768]), put(1, 2, full[:32768])), 0, api.ErrLarge},
	} {
		got, err := edit.Apply(c.s, c.list)
		if len(got) != c.size || err != c.wrong {
			t.Errorf("%s: Apply: %d bytes, %v", c.name, len(got), err)
		}
		if err == nil && got != applyByWords(c.s, c.list) {
			t.Errorf("%s: Apply: other bytes", c.name)
		}
		back, err := edit.Invert(c.s, c.list)
		if err != c.wrong || err != nil && len(back) != 0 {
			t.Errorf("%s: Invert: %d edits, %v", c.name, len(back), err)
		}
		if err == nil && applyByWords(got, back) != c.s {
			t.Errorf("%s: the inverse doesn't lead back", c.name)
		}
		more, err := edit.Grow(c.list, len(c.s))
		if want := len(applyByWords(c.s, c.list)) - len(c.s); more != want || err != nil {
			t.Errorf("%s: Grow = %d, %v, want %d", c.name, more, err, want)
		}
	}
}

// A text of more than 65536 bytes has a way back to it, but Apply doesn't go it.
func TestWayBackToTooLargeText(t *testing.T) {
	s := strings.Repeat("a", 65537)
	back, err := edit.Invert(s, edits(put(1, 3, "x")))
	if !slices.Equal(back, edits(put(1, 2, "aa"))) || err != nil {
		t.Error(back, err)
	}
	if got, err := edit.Apply(s[:65536], back); got != "" || err != api.ErrLarge {
		t.Error(len(got), err)
	}
}

// orders are all orders of a list.
func orders(list []api.Edit) [][]api.Edit {
	if len(list) == 0 {
		return [][]api.Edit{nil}
	}
	var out [][]api.Edit
	for i := range list {
		for _, rest := range orders(slices.Delete(slices.Clone(list), i, i+1)) {
			out = append(out, append(rest, list[i]))
		}
	}
	return out
}

func TestSort(t *testing.T) {
	for size := range 4 {
		for _, list := range rights(size, "", "x") {
			if len(list) > 3 {
				continue
			}
			for _, mixed := range orders(list) {
				if got, err := edit.Sort(mixed, size); !slices.Equal(got, list) || err != nil {
					t.Fatalf("Sort(%v, %d) = %v, %v, want %v", mixed, size, got, err, list)
				}
			}
		}
	}
	var long []api.Edit
	for n := range 500 {
		long = append(long, put(2*n, 2*n+n%3, strings.Repeat("x", n%5)))
	}
	mixed := make([]api.Edit, 500)
	for n, e := range long {
		mixed[n*77%500] = e
	}
	if got, err := edit.Sort(mixed, 1000); !slices.Equal(got, long) || err != nil {
		t.Error("a long list isn't sorted:", err)
	}
}

func TestSortByTheWords(t *testing.T) {
	for size := range 4 {
		for _, list := range wild(size, "", "x") {
			var wrong error
			for _, e := range list {
				if !rightByWords(edits(e), size) {
					wrong = api.ErrForm
				}
			}
			fits := slices.IndexFunc(orders(list), func(o []api.Edit) bool { return rightByWords(o, size) })
			if wrong == nil && fits < 0 {
				wrong = api.ErrDup
			}
			got, err := edit.Sort(list, size)
			if err != wrong || err != nil && len(got) != 0 {
				t.Fatalf("Sort(%v, %d) = %v, %v, want %v", list, size, got, err, wrong)
			}
			if err == nil && !slices.Equal(got, orders(list)[fits]) {
				t.Fatalf("Sort(%v, %d) = %v", list, size, got)
			}
		}
	}
}

func TestSortRefuses(t *testing.T) {
	for _, c := range []struct {
		name string
		list []api.Edit
		size int
		want error
	}{
		{"a size below 0", nil, -1, api.ErrForm},
		{"the least size", edits(put(0, 0, "x")), math.MinInt, api.ErrForm},
		{"From behind To", edits(put(2, 1, "")), 6, api.ErrForm},
		{"below 0", edits(put(-1, 0, "")), 6, api.ErrForm},
		{"beyond the size", edits(put(6, 7, "")), 6, api.ErrForm},
		{"one place twice", edits(put(3, 3, "a"), put(3, 3, "b")), 6, api.ErrDup},
		{"one edit twice", edits(put(3, 4, "a"), put(3, 4, "a")), 6, api.ErrDup},
		{"one beginning, the longer one first", edits(put(3, 4, "a"), put(3, 3, "b")), 6, api.ErrDup},
		{"one beginning, the longer one last", edits(put(3, 3, "a"), put(3, 4, "b")), 6, api.ErrDup},
		{"bytes taken twice", edits(put(2, 4, ""), put(0, 3, "")), 6, api.ErrDup},
		{"one place twice, and wrong numbers too", edits(put(3, 3, "a"), put(3, 3, "b"), put(6, 7, "")), 6, api.ErrForm},
	} {
		if got, err := edit.Sort(c.list, c.size); len(got) != 0 || err != c.want {
			t.Errorf("%s: Sort = %v, %v", c.name, got, err)
		}
	}
}

func TestMerge(t *testing.T) {
	for _, c := range []struct {
		name       string
		list, want []api.Edit
	}{
		{"the empty list", nil, nil},
		{"a plain list", edits(put(0, 1, "x"), put(3, 3, "y")), edits(put(0, 1, "x"), put(3, 3, "y"))},
		{"two that touch", edits(put(0, 1, "x"), put(1, 3, "y")), edits(put(0, 3, "xy"))},
		{"three that touch", edits(put(0, 1, "x"), put(1, 3, ""), put(3, 3, "z")), edits(put(0, 3, "xz"))},
		{"nothing for nothing", edits(put(2, 2, "")), nil},
		{"nothing for nothing, between others", edits(put(0, 1, "x"), put(2, 2, ""), put(3, 4, "y")), edits(put(0, 1, "x"), put(3, 4, "y"))},
		{"nothing for nothing, where one ends", edits(put(0, 2, "x"), put(2, 2, "")), edits(put(0, 2, "x"))},
		{"two that only take away", edits(put(0, 2, ""), put(2, 4, "")), edits(put(0, 4, ""))},
		{"one that only takes away, ahead of one at the end", edits(put(4, 6, ""), put(6, 6, "x")), edits(put(4, 6, "x"))},
		{"what changes nothing stays", edits(put(0, 1, "a")), edits(put(0, 1, "a"))},
		{"apart and touching", edits(put(0, 1, "x"), put(1, 2, "y"), put(3, 4, "z"), put(4, 5, "")), edits(put(0, 2, "xy"), put(3, 5, "z"))},
	} {
		if got, err := edit.Merge(c.list, 6); !slices.Equal(got, c.want) || err != nil {
			t.Errorf("%s: Merge = %v, %v, want %v", c.name, got, err, c.want)
		}
	}
}

// A merged list takes just the bytes that the list took, so no byte goes that went and none stays that stayed.
func TestMergeTakesTheSameBytes(t *testing.T) {
	taken := func(list []api.Edit) (out [4]int) {
		for _, e := range list {
			for at := e.From; at < e.To; at++ {
				out[at]++
			}
		}
		return out
	}
	for size := range 5 {
		s := "abcd"[:size]
		for _, list := range rights(size, "", "x") {
			got, err := edit.Merge(list, size)
			if err != nil || !plainByWords(got, size) || applyByWords(s, got) != applyByWords(s, list) || taken(got) != taken(list) {
				t.Fatalf("Merge(%v, %d) = %v, %v", list, size, got, err)
			}
			if again, err := edit.Merge(got, size); !slices.Equal(again, got) || err != nil {
				t.Fatalf("%v, merged again: %v, %v", got, again, err)
			}
		}
	}
}

func TestInvert(t *testing.T) {
	for _, c := range []struct {
		name  string
		list  []api.Edit
		want  []api.Edit
		wrong error
	}{
		{"the empty list", nil, nil, nil},
		{"one edit", edits(put(1, 2, "xyz")), edits(put(1, 4, "b")), nil},
		{"what stands behind moves", edits(put(0, 0, ">>"), put(2, 3, ""), put(6, 6, "<")), edits(put(0, 2, ""), put(4, 4, "c"), put(7, 8, "")), nil},
		{"edits that touch", edits(put(0, 1, "xy"), put(1, 3, "z")), edits(put(0, 2, "a"), put(2, 3, "bc")), nil},
		{"nothing for nothing", edits(put(2, 2, ""), put(3, 4, "x")), edits(put(2, 2, ""), put(3, 4, "d")), nil},
		{"nothing for nothing, where one ends", edits(put(2, 3, "x"), put(3, 3, "")), edits(put(2, 3, "c"), put(3, 3, "")), nil},
		{"what changes nothing", edits(put(0, 6, "abcdef")), edits(put(0, 6, "abcdef")), nil},
		{"all bytes go", edits(put(0, 6, "")), edits(put(0, 0, "abcdef")), nil},
		{"takes away ahead of one that puts in", edits(put(1, 2, ""), put(2, 2, "x")), nil, api.ErrDup},
		{"takes away ahead of one that does both", edits(put(1, 2, ""), put(2, 3, "x")), nil, api.ErrDup},
		{"takes away ahead of one that takes away", edits(put(1, 2, ""), put(2, 3, "")), nil, api.ErrDup},
		{"takes away ahead of nothing for nothing", edits(put(1, 2, ""), put(2, 2, "")), nil, api.ErrDup},
		{"takes away, a byte ahead of another one", edits(put(1, 2, ""), put(3, 4, "x")), edits(put(1, 1, "b"), put(2, 3, "d")), nil},
	} {
		if got, err := edit.Invert("abcdef", c.list); !slices.Equal(got, c.want) || err != c.wrong {
			t.Errorf("%s: Invert = %v, %v, want %v, %v", c.name, got, err, c.want, c.wrong)
		}
	}
}

func TestInverseLeadsBack(t *testing.T) {
	for size := range 5 {
		s := "abcd"[:size]
		for _, list := range rights(size, "", "x", "yz") {
			if len(list) > 3 {
				continue
			}
			var wrong error
			for i := 1; i < len(list); i++ {
				if list[i-1].Text == "" && list[i-1].To == list[i].From {
					wrong = api.ErrDup
				}
			}
			made, err := edit.Apply(s, list)
			if err != nil {
				t.Fatal(s, list, err)
			}
			back, err := edit.Invert(s, list)
			if err != wrong || err != nil && len(back) != 0 {
				t.Fatalf("Invert(%q, %v) = %v, %v, want %v", s, list, back, err, wrong)
			}
			if err != nil {
				continue
			}
			if again, err := edit.Apply(made, back); again != s || err != nil || len(back) != len(list) {
				t.Fatalf("%q by %v is %q, by %v %q, %v", s, list, made, back, again, err)
			}
			for i, e := range back {
				if made[e.From:e.To] != list[i].Text || e.Text != s[list[i].From:list[i].To] {
					t.Fatalf("Invert(%q, %v) = %v", s, list, back)
				}
			}
		}
	}
}

func TestGrow(t *testing.T) {
	huge := strings.Repeat("x", 65537)
	for _, c := range []struct {
		list       []api.Edit
		size, want int
	}{
		{nil, 0, 0},
		{nil, math.MaxInt, 0},
		{edits(put(0, 0, "ab")), 0, 2},
		{edits(put(0, 3, "")), 3, -3},
		{edits(put(0, 3, ""), put(3, 3, "x"), put(4, 6, "yyyy")), 6, 0},
		{edits(put(0, 0, huge), put(1, 1, huge)), 1, 2 * 65537},
		{edits(put(0, math.MaxInt, "x")), math.MaxInt, 1 - math.MaxInt},
	} {
		if got, err := edit.Grow(c.list, c.size); got != c.want || err != nil {
			t.Errorf("Grow(%d edits, %d) = %d, %v, want %d", len(c.list), c.size, got, err, c.want)
		}
	}
	for _, list := range rights(3, "", "x", "yz") {
		if got, err := edit.Grow(list, 3); got != len(applyByWords("abc", list))-3 || err != nil {
			t.Fatalf("Grow(%v, 3) = %d, %v", list, got, err)
		}
	}
}

func TestWithout(t *testing.T) {
	for _, c := range []struct {
		name       string
		list, want []api.Edit
	}{
		{"the empty list", nil, nil},
		{"all change something", edits(put(0, 1, "x"), put(1, 1, "y"), put(2, 3, "")), edits(put(0, 1, "x"), put(1, 1, "y"), put(2, 3, ""))},
		{"nothing for nothing", edits(put(0, 0, ""), put(6, 6, "")), nil},
		{"what stands there", edits(put(0, 2, "ab"), put(5, 6, "f")), nil},
		{"some of them", edits(put(0, 2, "ab"), put(2, 3, "x"), put(3, 3, ""), put(4, 5, "e"), put(5, 6, "")), edits(put(2, 3, "x"), put(5, 6, ""))},
		{"the bytes next to it", edits(put(0, 1, "b"), put(1, 2, "a"), put(3, 4, "de")), edits(put(0, 1, "b"), put(1, 2, "a"), put(3, 4, "de"))},
		{"letters of the other size", edits(put(0, 1, "A")), edits(put(0, 1, "A"))},
	} {
		if got, err := edit.Without("abcdef", c.list); !slices.Equal(got, c.want) || err != nil {
			t.Errorf("%s: Without = %v, %v, want %v", c.name, got, err, c.want)
		}
	}
	long := strings.Repeat("a", 70000)
	if got, err := edit.Without(long, edits(put(0, 70000, long), put(70000, 70000, "x"))); !slices.Equal(got, edits(put(70000, 70000, "x"))) || err != nil {
		t.Error("a text of more than 65536 bytes:", len(got), err)
	}
}

func TestWithoutMakesTheSame(t *testing.T) {
	for size := range 4 {
		s := "aba"[:size]
		for _, list := range rights(size, "", "a", "b", "ba") {
			if len(list) > 3 {
				continue
			}
			var want []api.Edit
			for _, e := range list {
				if applyByWords(s, edits(e)) != s || e.Text != s[e.From:e.To] {
					want = append(want, e)
				}
			}
			got, err := edit.Without(s, list)
			if !slices.Equal(got, want) || err != nil {
				t.Fatalf("Without(%q, %v) = %v, %v, want %v", s, list, got, err, want)
			}
			if made, err := edit.Apply(s, got); made != applyByWords(s, list) || err != nil {
				t.Fatalf("%q by %v is %q, %v", s, got, made, err)
			}
		}
	}
}

// refused asks all calls that take right lists alone.
func refused(t *testing.T, list []api.Edit, size int) {
	t.Helper()
	if got, err := edit.Merge(list, size); len(got) != 0 || err != api.ErrForm {
		t.Fatalf("Merge(%v, %d) = %v, %v", list, size, got, err)
	}
	if got, err := edit.Grow(list, size); got != 0 || err != api.ErrForm {
		t.Fatalf("Grow(%v, %d) = %d, %v", list, size, got, err)
	}
	if size < 0 {
		return
	}
	s := strings.Repeat("a", size)
	if got, err := edit.Apply(s, list); got != "" || err != api.ErrForm {
		t.Fatalf("Apply(%q, %v) = %q, %v", s, list, got, err)
	}
	if got, err := edit.Invert(s, list); len(got) != 0 || err != api.ErrForm {
		t.Fatalf("Invert(%q, %v) = %v, %v", s, list, got, err)
	}
	if got, err := edit.Without(s, list); len(got) != 0 || err != api.ErrForm {
		t.Fatalf("Without(%q, %v) = %v, %v", s, list, got, err)
	}
}

func TestWrongListsAreRefused(t *testing.T) {
	for size := range 3 {
		for _, list := range wild(size, "", "x", "a") {
			if !rightByWords(list, size) {
				refused(t, list, size)
			}
		}
	}
	refused(t, nil, -1)
	refused(t, edits(put(-1, -1, "")), -1)
	refused(t, edits(put(0, 0, "x")), math.MinInt)
	refused(t, edits(put(math.MinInt, math.MaxInt, "x")), 6)
	refused(t, edits(put(math.MaxInt, math.MaxInt, "x")), 6)
	refused(t, edits(put(math.MinInt, math.MinInt, "x")), 6)
	refused(t, edits(put(0, 1, "x"), put(2, 3, "x"), put(1, 2, "x")), 6)
}

func TestFirstNamedErrorIsAnswered(t *testing.T) {
	long := strings.Repeat("a", 65537)
	wrong := edits(put(0, 0, long), put(2, 1, ""))
	if got, err := edit.Apply("ab", wrong); got != "" || err != api.ErrForm {
		t.Error(len(got), err)
	}
	if got, err := edit.Invert("ab", wrong); len(got) != 0 || err != api.ErrForm {
		t.Error(len(got), err)
	}
	if got, err := edit.Invert("abc", edits(put(0, 1, ""), put(1, 2, long))); len(got) != 0 || err != api.ErrLarge {
		t.Error(len(got), err)
	}
}

// calls are all calls, each with what it answers as a list, if it answers one.
func calls(s string) map[string]func(list []api.Edit) []api.Edit {
	return map[string]func(list []api.Edit) []api.Edit{
		"Right":   func(list []api.Edit) []api.Edit { edit.Right(list, len(s)); return nil },
		"Plain":   func(list []api.Edit) []api.Edit { edit.Plain(list, len(s)); return nil },
		"Apply":   func(list []api.Edit) []api.Edit { edit.Apply(s, list); return nil },
		"Grow":    func(list []api.Edit) []api.Edit { edit.Grow(list, len(s)); return nil },
		"Sort":    func(list []api.Edit) []api.Edit { got, _ := edit.Sort(list, len(s)); return got },
		"Merge":   func(list []api.Edit) []api.Edit { got, _ := edit.Merge(list, len(s)); return got },
		"Invert":  func(list []api.Edit) []api.Edit { got, _ := edit.Invert(s, list); return got },
		"Without": func(list []api.Edit) []api.Edit { got, _ := edit.Without(s, list); return got },
	}
}

func TestArgumentsStayAndAnswersAreNew(t *testing.T) {
	s := "abcdef"
	for _, list := range [][]api.Edit{
		nil,
		edits(put(1, 2, "x"), put(4, 5, "y")),
		edits(put(0, 1, "a"), put(1, 2, "x"), put(2, 2, ""), put(4, 5, "e"), put(6, 6, "z")),
		edits(put(4, 5, "y"), put(1, 2, "x"), put(3, 3, "")),
		edits(put(4, 5, "y"), put(4, 4, "x"), put(0, 1, "")),
		edits(put(4, 5, "y"), put(0, 9, "x")),
		edits(put(0, 1, ""), put(1, 2, "")),
	} {
		for name, call := range calls(s) {
			// The spare room behind the list is the caller's too.
			room := append(slices.Clone(list), put(71, 72, "spare"), put(81, 82, "room"))
			was := slices.Clone(room)
			handed := room[:len(list)]
			first := call(handed)
			told := slices.Clone(first)
			if !slices.Equal(room, was) {
				t.Errorf("%s(%v) left %v", name, list, room)
			}
			for i := range first {
				first[i] = put(-5, -6, "spoilt")
			}
			_ = append(first, put(-7, -8, "spoilt"))
			if !slices.Equal(room, was) {
				t.Errorf("%s(%v): the answer shares memory with the list", name, list)
			}
			second := call(handed)
			if !slices.Equal(second, told) {
				t.Errorf("%s(%v) = %v, and then %v", name, list, told, second)
			}
			for i := range room {
				room[i] = put(-9, -9, "spoilt")
			}
			if !slices.Equal(second, told) {
				t.Errorf("%s(%v): the answer hangs on the list that was handed in", name, list)
			}
		}
	}
}

func TestEmptyAndNilListsMeanTheSame(t *testing.T) {
	for _, list := range [][]api.Edit{nil, {}, make([]api.Edit, 0, 4)} {
		if !edit.Right(list, 3) || !edit.Plain(list, 3) || edit.Right(list, -1) || edit.Plain(list, -1) {
			t.Error("Right, Plain")
		}
		if got, err := edit.Apply("abc", list); got != "abc" || err != nil {
			t.Error(got, err)
		}
		if got, err := edit.Grow(list, 3); got != 0 || err != nil {
			t.Error(got, err)
		}
		sorted, err1 := edit.Sort(list, 3)
		merged, err2 := edit.Merge(list, 3)
		back, err3 := edit.Invert("abc", list)
		left, err4 := edit.Without("abc", list)
		if len(sorted)+len(merged)+len(back)+len(left) != 0 || err1 != nil || err2 != nil || err3 != nil || err4 != nil {
			t.Error(sorted, merged, back, left, err1, err2, err3, err4)
		}
	}
}
