package files_test

import (
	"math"
	"slices"
	"strconv"
	"strings"
	"testing"

	"namesake/api"
	"namesake/edit"
	"namesake/files"
)

// put is an edit, written shortly.
func put(from, to int, text string) api.Edit {
	return api.Edit{From: from, To: to, Text: text}
}

func edits(list ...api.Edit) []api.Edit { return list }

func file(name, text string) api.File { return api.File{Name: name, Text: text} }

func space(list ...api.File) []api.File { return list }

func patch(name string, list ...api.Edit) api.Patch {
	return api.Patch{File: name, Edits: list}
}

func patches(list ...api.Patch) []api.Patch { return list }

func samePatches(a, b []api.Patch) bool {
	return slices.EqualFunc(a, b, func(x, y api.Patch) bool {
		return x.File == y.File && slices.Equal(x.Edits, y.Edits)
	})
}

// numbered is so many empty files, with names that are their numbers.
func numbered(count int) []api.File {
	var list []api.File
	for n := range count {
		list = append(list, file(strconv.Itoa(n), ""))
	}
	return list
}

// with is so many files of which one is another one.
func with(count, n int, f api.File) []api.File {
	list := numbered(count)
	list[n] = f
	return list
}

// all is a text of so many bytes.
func all(count int) string { return strings.Repeat("x", count) }

// nameBytes are all bytes that a file's name may have.
const nameBytes = "abcdefghijklmnopqrstuvwxyzABCDEFGHIJKLMNOPQRSTUVWXYZ0123456789.-_"

// wrong is workspaces that aren't right, each with what is wrong.
func wrong() map[string][]api.File {
	return map[string][]api.File{
		"no file":                         nil,
		"no file, not nil":                {},
		"9 files":                         numbered(9),
		"100 files":                       numbered(100),
		"two of one name":                 space(file("a", "x"), file("a", "y")),
		"the same file twice":             space(file("a", "x"), file("b", "x"), file("a", "x")),
		"the first one's name at the end": with(8, 7, file("0", "")),
		"an empty name":                   space(file("", "x")),
		"an empty name at the end":        with(8, 7, file("", "")),
		"a name of 41 bytes":              space(file(all(41), "x")),
		"a name of 4000 bytes":            with(3, 1, file(all(4000), "x")),
		"a slash":                         space(file("a/b", "x")),
		"a space":                         space(file("b", ""), file("a b", "x")),
		"a letter of two bytes":           space(file("\u00e4", "x")),
		"a byte that is no letter at all": space(file("a\xff", "x")),
		"a zero byte":                     space(file("a\x00", "x")),
		"a line's end":                    space(file("a\n", "x")),
		"a text of 4001 bytes":            space(file("a", all(4001))),
		"such a text at the end":          with(8, 7, file("a", all(4001))),
		"a text of 70000 bytes":           space(file("a", all(70000)), file("b", "")),
	}
}

func TestChapterExample(t *testing.T) {
	got, err := files.Diff(space(file("a", "abcd")), space(file("a", "abXYd")))
	if !samePatches(got, patches(patch("a", put(2, 3, "XY")))) || err != nil {
		t.Error(got, err)
	}
}

func TestRight(t *testing.T) {
	for name, list := range map[string][]api.File{
		"1 file":                        space(file("A.java", "class A")),
		"8 files":                       numbered(8),
		"a name of 1 byte":              space(file("a", "x")),
		"a name of 40 bytes":            space(file(all(40), "x"), file(all(39), "x")),
		"an empty text":                 space(file("a", "")),
		"a text of 4000 bytes":          space(file("a", all(4000))),
		"8 texts of 4000 bytes":         with(8, 7, file("a", all(4000))),
		"any bytes in a text":           space(file("a", "\x00\xff\u00e4\n/ ")),
		"names of great and small":      space(file("a", ""), file("A", "")),
		"one name begins another one":   space(file("a", ""), file("a.a", ""), file("aa", "")),
		"texts alike":                   space(file("a", "x"), file("b", "x")),
		"a text that is a name":         space(file("a", "b"), file("b", "a")),
		"a point, a hyphen, a low line": space(file(".", ""), file("-", ""), file("_", ""), file("..", "")),
	} {
		if !files.Right(list) {
			t.Errorf("%s: not right", name)
		}
	}
	for name, list := range wrong() {
		if files.Right(list) {
			t.Errorf("%s: right", name)
		}
	}
}

func TestRightByCounts(t *testing.T) {
	for count := range 20 {
		if got := files.Right(numbered(count)); got != (1 <= count && count <= 8) {
			t.Errorf("%d files: %v", count, got)
		}
	}
	for count := range 50 {
		if got := files.Right(space(file(strings.Repeat("n", count), ""))); got != (1 <= count && count <= 40) {
			t.Errorf("a name of %d bytes: %v", count, got)
		}
	}
	for count := 3990; count < 4010; count++ {
		if got := files.Right(space(file("a", all(count)))); got != (count <= 4000) {
			t.Errorf("a text of %d bytes: %v", count, got)
		}
	}
}

func TestEachByteOfName(t *testing.T) {
	for n := range 256 {
		b := string([]byte{byte(n)})
		want := strings.Contains(nameBytes, b)
		for _, name := range []string{b, b + "aa", "a" + b + "a", "aa" + b, strings.Repeat("a", 39) + b} {
			if got := files.Right(space(file(name, ""))); got != want {
				t.Errorf("the name %q: %v, want %v", name, got, want)
			}
		}
	}
}

// Of two files, wherever they stand among eight, the names must be unlike.
func TestNamesAreUnlike(t *testing.T) {
	for i := range 8 {
		for j := range 8 {
			list := numbered(8)
			list[j] = file(list[i].Name, "x")
			if got := files.Right(list); got != (i == j) {
				t.Errorf("the names %d and %d alike: %v", i, j, got)
			}
		}
	}
}

func TestFind(t *testing.T) {
	list := space(file("A.java", "b"), file("b", ""), file("a.java", "c"))
	for n, f := range list {
		if got, err := files.Find(list, f.Name); got != n || err != nil {
			t.Errorf("Find(%q) = %d, %v", f.Name, got, err)
		}
	}
	for _, name := range []string{"", "c", "A", "A.jav", "A.java ", "A.JAVA", "B", "a/b", "\xff", all(41), all(5000)} {
		if got, err := files.Find(list, name); got != 0 || err != api.ErrNone {
			t.Errorf("Find(%q) = %d, %v", name, got, err)
		}
	}
	for n := range 8 {
		if got, err := files.Find(numbered(8), strconv.Itoa(n)); got != n || err != nil {
			t.Errorf("Find(%d) = %d, %v", n, got, err)
		}
	}
}

// three is the workspace of the tables below.
func three() []api.File {
	return space(file("a", "abcd"), file("b", ""), file("c", "xyz"))
}

// applied is lists of patches of three, with the texts behind them and the patches that lead back.
func applied() []struct {
	name    string
	patches []api.Patch
	texts   []string
	back    []api.Patch
} {
	return []struct {
		name    string
		patches []api.Patch
		texts   []string
		back    []api.Patch
	}{
		{"no patch", nil, []string{"abcd", "", "xyz"}, nil},
		{"no patch, not nil", patches(), []string{"abcd", "", "xyz"}, nil},
		{"a patch of no edits", patches(patch("a")), []string{"abcd", "", "xyz"}, patches(patch("a"))},
		{"a patch of an empty list", patches(api.Patch{File: "c", Edits: edits()}), []string{"abcd", "", "xyz"}, patches(patch("c"))},
		{"patches of no edits", patches(patch("c"), patch("b"), patch("a")), []string{"abcd", "", "xyz"}, patches(patch("c"), patch("b"), patch("a"))},
		{"one edit", patches(patch("a", put(1, 3, "X"))), []string{"aXd", "", "xyz"}, patches(patch("a", put(1, 2, "bc")))},
		{"into no bytes", patches(patch("b", put(0, 0, "new"))), []string{"abcd", "new", "xyz"}, patches(patch("b", put(0, 3, "")))},
		{"all bytes away", patches(patch("c", put(0, 3, ""))), []string{"abcd", "", ""}, patches(patch("c", put(0, 0, "xyz")))},
		{"at the text's end", patches(patch("c", put(3, 3, "!"))), []string{"abcd", "", "xyz!"}, patches(patch("c", put(3, 4, "")))},
		{"two edits", patches(patch("a", put(0, 1, "XY"), put(2, 3, ""))), []string{"XYbd", "", "xyz"}, patches(patch("a", put(0, 2, "a"), put(3, 3, "c")))},
		{"edits that touch", patches(patch("a", put(1, 2, "X"), put(2, 2, "Y"), put(3, 4, ""))), []string{"aXYc", "", "xyz"}, patches(patch("a", put(1, 3, "b"), put(4, 4, "d")))},
		{"edits that touch and only take away", patches(patch("a", put(0, 1, ""), put(1, 2, ""))), []string{"cd", "", "xyz"}, patches(patch("a", put(0, 0, "ab")))},
		{"nothing for nothing", patches(patch("a", put(2, 2, ""))), []string{"abcd", "", "xyz"}, patches(patch("a"))},
		{"what stands there already", patches(patch("a", put(1, 2, "b"))), []string{"abcd", "", "xyz"}, patches(patch("a", put(1, 2, "b")))},
		{"all files", patches(patch("a", put(0, 4, "1")), patch("b", put(0, 0, "2")), patch("c", put(0, 3, "3"))), []string{"1", "2", "3"}, patches(patch("a", put(0, 1, "abcd")), patch("b", put(0, 1, "")), patch("c", put(0, 1, "xyz")))},
		{"all files, the last one first", patches(patch("c", put(1, 1, "3")), patch("a", put(4, 4, "1")), patch("b", put(0, 0, "2"))), []string{"abcd1", "2", "x3yz"}, patches(patch("c", put(1, 2, "")), patch("a", put(4, 5, "")), patch("b", put(0, 1, "")))},
	}
}

func TestApply(t *testing.T) {
	for _, c := range applied() {
		got, err := files.Apply(three(), c.patches...)
		want := three()
		for n, text := range c.texts {
			want[n].Text = text
		}
		if !slices.Equal(got, want) || err != nil {
			t.Errorf("%s: %v, %v, want %v", c.name, got, err, want)
		}
	}
}

func TestInvert(t *testing.T) {
	for _, c := range applied() {
		back, err := files.Invert(three(), c.patches...)
		if !samePatches(back, c.back) || err != nil {
			t.Errorf("%s: %v, %v, want %v", c.name, back, err, c.back)
		}
		now, _ := files.Apply(three(), c.patches...)
		if got, err := files.Apply(now, back...); !slices.Equal(got, three()) || err != nil {
			t.Errorf("%s: back: %v, %v", c.name, got, err)
		}
	}
}

func TestEightFilesPatched(t *testing.T) {
	list, want := numbered(8), numbered(8)
	var change []api.Patch
	for n := range list {
		list[n].Text, want[n].Text = "old", "o"+strconv.Itoa(n)+"ld"
		change = append(change, patch(list[n].Name, put(1, 1, strconv.Itoa(n))))
	}
	slices.Reverse(change)
	got, err := files.Apply(list, change...)
	if !slices.Equal(got, want) || err != nil {
		t.Error(got, err)
	}
	back, err := files.Invert(list, change...)
	if len(back) != 8 || back[0].File != "7" || err != nil {
		t.Error(back, err)
	}
	if got, err := files.Apply(want, back...); !slices.Equal(got, list) || err != nil {
		t.Error(got, err)
	}
}

// rights is all right lists of at most two edits for a size, with the texts given.
func rights(size int, texts ...string) [][]api.Edit {
	var one []api.Edit
	for from := range size + 1 {
		for to := from; to <= size; to++ {
			for _, text := range texts {
				one = append(one, put(from, to, text))
			}
		}
	}
	out := [][]api.Edit{nil}
	for _, a := range one {
		out = append(out, edits(a))
		for _, b := range one {
			if edit.Right(edits(a, b), size) {
				out = append(out, edits(a, b))
			}
		}
	}
	return out
}

// applyByWords applies a right list from its end on, so that no place ahead of an edit moves.
func applyByWords(s string, list []api.Edit) string {
	for _, e := range slices.Backward(list) {
		s = s[:e.From] + e.Text + s[e.To:]
	}
	return s
}

func TestInverseLeadsBack(t *testing.T) {
	for size := range 5 {
		s := "abcd"[:size]
		for _, list := range rights(size, "", "b", "xy") {
			old := space(file("one", s), file("two", "ab"))
			change := patches(patch("two", put(1, 1, "-")), api.Patch{File: "one", Edits: list})
			now, err := files.Apply(old, change...)
			if want := space(file("one", applyByWords(s, list)), file("two", "a-b")); !slices.Equal(now, want) || err != nil {
				t.Fatalf("Apply(%q, %v) = %v, %v", s, list, now, err)
			}
			back, err := files.Invert(old, change...)
			if err != nil || len(back) != 2 || back[0].File != "two" || back[1].File != "one" {
				t.Fatalf("Invert(%q, %v) = %v, %v", s, list, back, err)
			}
			if !edit.Plain(back[1].Edits, len(now[0].Text)) {
				t.Fatalf("Invert(%q, %v) = %v: not plain", s, list, back)
			}
			plain, _ := edit.Merge(list, size)
			if want, _ := edit.Invert(s, plain); !slices.Equal(back[1].Edits, want) {
				t.Fatalf("Invert(%q, %v) = %v, want %v", s, list, back, want)
			}
			if got, err := files.Apply(now, back...); !slices.Equal(got, old) || err != nil {
				t.Fatalf("Invert(%q, %v) = %v leads to %v, %v", s, list, back, got, err)
			}
		}
	}
}

// refusals is patches of three, with the place of a byte, that are refused, and the error.
func refusals() []struct {
	name    string
	patches []api.Patch
	want    error
} {
	bad := put(0, 9, "")
	much := put(0, 0, all(4001))
	return []struct {
		name    string
		patches []api.Patch
		want    error
	}{
		{"no such file", patches(patch("d")), api.ErrNone},
		{"an empty name", patches(patch("")), api.ErrNone},
		{"a name that no file may have", patches(patch("a/b", put(0, 0, "x"))), api.ErrNone},
		{"no such file behind others", patches(patch("a"), patch("b"), patch("c"), patch("d")), api.ErrNone},
		{"two patches of one file", patches(patch("a", put(0, 1, "")), patch("a", put(2, 3, ""))), api.ErrDup},
		{"two of one, of no edits", patches(patch("b"), patch("b")), api.ErrDup},
		{"two of one, others between", patches(patch("a"), patch("b"), patch("c"), patch("a")), api.ErrDup},
		{"beyond the text", patches(patch("a", put(0, 5, ""))), api.ErrForm},
		{"beyond this text, not another one", patches(patch("c", put(0, 4, ""))), api.ErrForm},
		{"a byte of no bytes", patches(patch("b", put(0, 1, ""))), api.ErrForm},
		{"below 0", patches(patch("a", put(-1, 0, ""))), api.ErrForm},
		{"from behind to", patches(patch("a", put(2, 1, ""))), api.ErrForm},
		{"edits that overlap", patches(patch("a", put(0, 2, ""), put(1, 3, ""))), api.ErrForm},
		{"edits out of order", patches(patch("a", put(2, 3, ""), put(0, 1, ""))), api.ErrForm},
		{"two edits from one place", patches(patch("a", put(1, 1, "x"), put(1, 1, "y"))), api.ErrForm},
		{"the least and the greatest numbers", patches(patch("a", put(math.MinInt, math.MaxInt, ""))), api.ErrForm},
		{"wrong edits in the last patch", patches(patch("a"), patch("b", put(0, 0, "x")), patch("c", bad)), api.ErrForm},
		{"a text too large", patches(patch("b", much)), api.ErrLarge},
		{"a text too large by two edits", patches(patch("a", put(0, 0, all(3000)), put(4, 4, all(3000)))), api.ErrLarge},
		{"larger than edits can make a text", patches(patch("a", put(0, 0, all(70000)))), api.ErrLarge},
		{"too large, and others that shrink", patches(patch("a", put(0, 4, "")), patch("b", much), patch("c", put(0, 3, ""))), api.ErrLarge},

		{"no such file, then wrong edits", patches(patch("d", bad), patch("a", bad)), api.ErrNone},
		{"wrong edits, then no such file", patches(patch("a", bad), patch("d")), api.ErrForm},
		{"twice, with wrong edits", patches(patch("a"), patch("a", bad)), api.ErrDup},
		{"wrong edits, then twice", patches(patch("a", bad), patch("a")), api.ErrForm},
		{"twice, then no such file", patches(patch("a"), patch("a"), patch("d")), api.ErrDup},
		{"no such file, twice", patches(patch("d"), patch("d")), api.ErrNone},
		{"no such file, then twice", patches(patch("a"), patch("d"), patch("a")), api.ErrNone},
		{"too large, then no such file", patches(patch("a", much), patch("d")), api.ErrNone},
		{"too large, then twice", patches(patch("a", much), patch("a")), api.ErrDup},
		{"too large, then wrong edits", patches(patch("a", much), patch("b", bad)), api.ErrForm},
		{"too large by edits that aren't right", patches(patch("a", put(0, 9, all(5000)))), api.ErrForm},
	}
}

// refused asks the three calls that patches are handed to, for an error and nothing else.
func refused(t *testing.T, name string, list []api.File, change []api.Patch, want error) {
	t.Helper()
	if got, err := files.Apply(list, change...); len(got) != 0 || err != want {
		t.Errorf("%s: Apply = %v, %v, want %v", name, got, err, want)
	}
	if got, err := files.Invert(list, change...); len(got) != 0 || err != want {
		t.Errorf("%s: Invert = %v, %v, want %v", name, got, err, want)
	}
	// Whether there is such a byte is asked behind all that is wrong with the patches.
	for _, p := range []api.Pos{{}, {File: 2, At: 1}, {File: 1}, {File: -1}, {File: 9, At: 9}, {At: -1}} {
		if got, err := files.Goes(list, p, change...); got != (api.Pos{}) || err != want {
			t.Errorf("%s: Goes(%v) = %v, %v, want %v", name, p, got, err, want)
		}
	}
}

func TestPatchesAreRefused(t *testing.T) {
	for _, c := range refusals() {
		refused(t, c.name, three(), c.patches, c.want)
	}
}

func TestNinePatchesOfEightFiles(t *testing.T) {
	var change []api.Patch
	for n := range 8 {
		change = append(change, patch(strconv.Itoa(n)))
	}
	if got, err := files.Apply(numbered(8), change...); !slices.Equal(got, numbered(8)) || err != nil {
		t.Error(got, err)
	}
	for n := range 8 {
		refused(t, "again "+strconv.Itoa(n), numbered(8), append(slices.Clone(change), patch(strconv.Itoa(n))), api.ErrDup)
	}
}

// A workspace that isn't right comes ahead of all else that is wrong.
func TestWrongWorkspacesAreRefused(t *testing.T) {
	right := space(file("a", "x"))
	for name, list := range wrong() {
		for _, f := range append(slices.Clone(list), file("a", ""), file("none", "")) {
			if got, err := files.Find(list, f.Name); got != 0 || err != api.ErrForm {
				t.Errorf("%s: Find(%q) = %d, %v", name, f.Name, got, err)
			}
			refused(t, name, list, patches(patch(f.Name)), api.ErrForm)
		}
		refused(t, name, list, nil, api.ErrForm)
		refused(t, name, list, patches(patch("none"), patch("none", put(4, 1, ""))), api.ErrForm)
		for _, pair := range [][2][]api.File{{list, list}, {list, right}, {right, list}} {
			if got, err := files.Diff(pair[0], pair[1]); len(got) != 0 || err != api.ErrForm {
				t.Errorf("%s: Diff = %v, %v", name, got, err)
			}
		}
	}
}

func TestTextsOfAtMost4000Bytes(t *testing.T) {
	for _, c := range []struct {
		size int
		list []api.Edit
		want int
	}{
		{0, edits(put(0, 0, all(4000))), 4000},
		{0, edits(put(0, 0, all(4001))), 4001},
		{3999, edits(put(3999, 3999, "x")), 4000},
		{3999, edits(put(3999, 3999, "xx")), 4001},
		{4000, nil, 4000},
		{4000, edits(put(0, 0, "x")), 4001},
		{4000, edits(put(0, 1, "x")), 4000},
		{4000, edits(put(0, 0, "x"), put(3999, 4000, "")), 4000},
		{4000, edits(put(0, 0, "xx"), put(3999, 4000, "")), 4001},
		{4000, edits(put(0, 1, ""), put(2000, 2001, all(2000)), put(2001, 4000, "")), 3999},
		{4000, edits(put(0, 4000, "")), 0},
		{4000, edits(put(0, 4000, all(4000))), 4000},
		{4000, edits(put(0, 4000, all(4001))), 4001},
		{1, edits(put(0, 1, all(1<<16))), 1 << 16},
	} {
		list := space(file("other", "o"), file("a", all(c.size)))
		change := patches(patch("other", put(0, 1, "")), api.Patch{File: "a", Edits: c.list})
		if c.want > 4000 {
			refused(t, "a text of "+strconv.Itoa(c.want)+" bytes", list, change, api.ErrLarge)
			continue
		}
		now, err := files.Apply(list, change...)
		if err != nil || len(now) != 2 || len(now[1].Text) != c.want || files.Size(now) != c.want {
			t.Errorf("%d: %v", c.want, err)
			continue
		}
		back, err := files.Invert(list, change...)
		if got, again := files.Apply(now, back...); !slices.Equal(got, list) || err != nil || again != nil {
			t.Errorf("%d: back: %v, %v", c.want, err, again)
		}
	}
}

func TestDiff(t *testing.T) {
	for _, c := range []struct {
		name, a, b string
		want       api.Edit
	}{
		{"a byte in the middle", "abc", "axc", put(1, 2, "x")},
		{"the first byte", "abc", "xbc", put(0, 1, "x")},
		{"the last byte", "abc", "abx", put(2, 3, "x")},
		{"nothing alike", "abc", "xyz", put(0, 3, "xyz")},
		{"a beginning of the other one", "ab", "abcd", put(2, 2, "cd")},
		{"the other one a beginning", "abcd", "ab", put(2, 4, "")},
		{"an end of the other one", "cd", "abcd", put(0, 0, "ab")},
		{"the other one an end", "abcd", "cd", put(0, 2, "")},
		{"from no bytes", "", "abc", put(0, 0, "abc")},
		{"to no bytes", "abc", "", put(0, 3, "")},
		{"a beginning and an end that would overlap", "aaa", "aa", put(2, 3, "")},
		{"the same the other way", "aa", "aaa", put(2, 2, "a")},
		{"abab to ab", "abab", "ab", put(2, 4, "")},
		{"ab to abab", "ab", "abab", put(2, 2, "ab")},
		{"aba to ababa", "aba", "ababa", put(3, 3, "ba")},
		{"a common end within what is left", "aba", "abba", put(2, 2, "b")},
		{"two bytes far from one another", "axbyc", "aXbYc", put(1, 4, "XbY")},
		{"bytes that are no letters", "\x00\xff\n", "\x00\xfe\n", put(1, 2, "\xfe")},
		{"half of a letter of two bytes", "\u00e4", "\u00e5", put(1, 2, "\xa5")},
	} {
		got, err := files.Diff(space(file("f", c.a)), space(file("f", c.b)))
		if !samePatches(got, patches(patch("f", c.want))) || err != nil {
			t.Errorf("%s: %v, %v, want %v", c.name, got, err, c.want)
		}
	}
}

func TestDiffOfFilesAlike(t *testing.T) {
	for _, list := range [][]api.File{three(), numbered(8), space(file("a", "")), space(file("a", all(4000)))} {
		if got, err := files.Diff(list, slices.Clone(list)); len(got) != 0 || err != nil {
			t.Error(got, err)
		}
		if got, err := files.Diff(list, list); len(got) != 0 || err != nil {
			t.Error(got, err)
		}
	}
}

func TestDiffIsOfTheFilesThatDiffer(t *testing.T) {
	a, b := three(), three()
	b[0].Text, b[2].Text = "abXd", "yz"
	got, err := files.Diff(a, b)
	if !samePatches(got, patches(patch("a", put(2, 3, "X")), patch("c", put(0, 1, "")))) || err != nil {
		t.Error(got, err)
	}
	b = three()
	b[1].Text = "n"
	got, err = files.Diff(a, b)
	if !samePatches(got, patches(patch("b", put(0, 0, "n")))) || err != nil {
		t.Error(got, err)
	}
}

func TestDiffOfOtherFiles(t *testing.T) {
	for name, b := range map[string][]api.File{
		"another name":        space(file("a", "abcd"), file("b", ""), file("d", "xyz")),
		"another order":       space(file("b", ""), file("a", "abcd"), file("c", "xyz")),
		"the last two":        space(file("a", "abcd"), file("c", "xyz"), file("b", "")),
		"names moved":         space(file("b", "abcd"), file("a", ""), file("c", "xyz")),
		"a file less":         three()[:2],
		"without the first":   three()[1:],
		"a file more":         append(three(), file("d", "")),
		"great for small":     space(file("A", "abcd"), file("b", ""), file("c", "xyz")),
		"names that go on":    space(file("a", "abcd"), file("b", ""), file("cc", "xyz")),
		"texts differ, too":   space(file("a", "1"), file("b", "2"), file("d", "3")),
		"one file of another": space(file("z", "abcd")),
	} {
		for _, pair := range [][2][]api.File{{three(), b}, {b, three()}} {
			if got, err := files.Diff(pair[0], pair[1]); len(got) != 0 || err != api.ErrNone {
				t.Errorf("%s: %v, %v", name, got, err)
			}
		}
	}
}

// words is all texts of at most so many bytes, each an a or a b.
func words(most int) []string {
	out := []string{""}
	for from := 0; from < len(out); from++ {
		if len(out[from]) < most {
			out = append(out, out[from]+"a", out[from]+"b")
		}
	}
	return out
}

// diffByWords tries all beginnings and then all ends, the longest first.
func diffByWords(a, b string) api.Edit {
	from := min(len(a), len(b))
	for a[:from] != b[:from] {
		from--
	}
	end := min(len(a), len(b)) - from
	for a[len(a)-end:] != b[len(b)-end:] {
		end--
	}
	return put(from, len(a)-end, b[from:len(b)-end])
}

func TestDiffByTheWords(t *testing.T) {
	for _, a := range words(5) {
		for _, b := range words(5) {
			old, now := space(file("s", "same"), file("f", a)), space(file("s", "same"), file("f", b))
			got, err := files.Diff(old, now)
			var want []api.Patch
			if a != b {
				want = patches(patch("f", diffByWords(a, b)))
			}
			if !samePatches(got, want) || err != nil {
				t.Fatalf("Diff(%q, %q) = %v, %v, want %v", a, b, got, err, want)
			}
			if made, err := files.Apply(old, got...); !slices.Equal(made, now) || err != nil {
				t.Fatalf("Diff(%q, %q) = %v leads to %v, %v", a, b, got, made, err)
			}
			back, _ := files.Invert(old, got...)
			if made, err := files.Apply(now, back...); !slices.Equal(made, old) || err != nil {
				t.Fatalf("Diff(%q, %q) = %v leads back to %v, %v", a, b, got, made, err)
			}
		}
	}
}

func TestDiffOfAllFilesLeadsToTheOther(t *testing.T) {
	texts := words(2)
	for i := range texts {
		a, b := numbered(8), numbered(8)
		for n := range a {
			a[n].Text, b[n].Text = texts[(n+i)%len(texts)], texts[(n*n+2*i)%len(texts)]
		}
		got, err := files.Diff(a, b)
		if err != nil {
			t.Fatal(err)
		}
		if made, err := files.Apply(a, got...); !slices.Equal(made, b) || err != nil {
			t.Errorf("%v leads from %v to %v, %v", got, a, made, err)
		}
		if !slices.IsSortedFunc(got, func(x, y api.Patch) int { return strings.Compare(x.File, y.File) }) {
			t.Errorf("out of order: %v", got)
		}
	}
}

func TestDiffOfLargeTexts(t *testing.T) {
	for _, c := range [][2]string{
		{all(4000), ""},
		{"", all(4000)},
		{all(4000), all(3999)},
		{all(2000) + "a" + all(1999), all(2000) + "b" + all(1999)},
		{"a" + all(3999), all(3999) + "a"},
	} {
		old, now := space(file("f", c[0])), space(file("f", c[1]))
		got, err := files.Diff(old, now)
		if err != nil || !samePatches(got, patches(patch("f", diffByWords(c[0], c[1])))) {
			t.Error(len(got), err)
		}
		if made, err := files.Apply(old, got...); !slices.Equal(made, now) || err != nil {
			t.Error(len(made), err)
		}
	}
}

func TestGoes(t *testing.T) {
	change := patches(patch("c", put(0, 1, "123"), put(2, 2, "-")), patch("a", put(1, 2, ""), put(3, 3, "!")))
	for _, c := range []struct {
		name string
		p    api.Pos
		want int // -1: it doesn't go, or isn't there
	}{
		{"stays ahead of all edits", api.Pos{File: 0, At: 0}, 0},
		{"taken away", api.Pos{File: 0, At: 1}, -1},
		{"goes ahead", api.Pos{File: 0, At: 2}, 1},
		{"goes there and back", api.Pos{File: 0, At: 3}, 3},
		{"at the text's length", api.Pos{File: 0, At: 4}, -1},
		{"beyond the text, not beyond the new one of c", api.Pos{File: 0, At: 5}, -1},
		{"the first of no bytes", api.Pos{File: 1, At: 0}, -1},
		{"behind no bytes", api.Pos{File: 1, At: 1}, -1},
		{"another byte in its place", api.Pos{File: 2, At: 0}, -1},
		{"goes on", api.Pos{File: 2, At: 1}, 3},
		{"goes on behind two edits", api.Pos{File: 2, At: 2}, 5},
		{"at the length of c", api.Pos{File: 2, At: 3}, -1},
		{"below 0", api.Pos{File: 0, At: -1}, -1},
		{"below all numbers", api.Pos{File: 2, At: math.MinInt}, -1},
		{"above all numbers", api.Pos{File: 2, At: math.MaxInt}, -1},
		{"a file below 0", api.Pos{File: -1, At: 0}, -1},
		{"a file behind the last one", api.Pos{File: 3, At: 0}, -1},
		{"a file above all numbers", api.Pos{File: math.MaxInt, At: 0}, -1},
		{"a file below all numbers", api.Pos{File: math.MinInt, At: 0}, -1},
	} {
		got, err := files.Goes(three(), c.p, change...)
		if c.want < 0 && (got != (api.Pos{}) || err != api.ErrNone) {
			t.Errorf("%s: %v, %v", c.name, got, err)
		}
		if c.want >= 0 && (got != api.Pos{File: c.p.File, At: c.want} || err != nil) {
			t.Errorf("%s: %v, %v, want %d", c.name, got, err, c.want)
		}
	}
}

// Without a patch of its file a byte stays, whatever is done to other files.
func TestBytesWithoutPatchStay(t *testing.T) {
	for _, change := range [][]api.Patch{nil, patches(), patches(patch("a")), patches(patch("b", put(0, 0, "new"))), patches(patch("c", put(0, 3, "")), patch("a"))} {
		for at := -2; at < 8; at++ {
			got, err := files.Goes(three(), api.Pos{File: 0, At: at}, change...)
			if at >= 0 && at < 4 && (got != api.Pos{At: at} || err != nil) {
				t.Errorf("%v: %d went to %v, %v", change, at, got, err)
			}
			if (at < 0 || at >= 4) && (got != api.Pos{} || err != api.ErrNone) {
				t.Errorf("%v: %d went to %v, %v", change, at, got, err)
			}
		}
	}
}

// goesByWords is where a byte goes: that it does is told by an edit that would take it.
func goesByWords(list []api.Edit, at int) int {
	now := at
	for _, e := range list {
		if e.From <= at && at < e.To {
			return -1
		}
		if e.To <= at {
			now += len(e.Text) - (e.To - e.From)
		}
	}
	return now
}

func TestGoesByTheWords(t *testing.T) {
	const s = "abcd"
	for _, list := range rights(len(s), "", "x", "yz") {
		old := space(file("zero", "other"), file("one", s))
		change := patches(patch("zero", put(0, 5, "")), api.Patch{File: "one", Edits: list})
		now, _ := files.Apply(old, change...)
		for at := range len(s) {
			got, err := files.Goes(old, api.Pos{File: 1, At: at}, change...)
			if want := goesByWords(list, at); want < 0 {
				if got != (api.Pos{}) || err != api.ErrNone {
					t.Fatalf("%v: %d went to %v, %v", list, at, got, err)
				}
			} else if got != (api.Pos{File: 1, At: want}) || err != nil || now[1].Text[got.At] != s[at] {
				t.Fatalf("%v: %d went to %v, %v, want %d", list, at, got, err, want)
			}
		}
	}
}

// Size and Copy are asked of all lists, right or not.
func TestSizeAndCopy(t *testing.T) {
	for name, list := range wrong() {
		sum := 0
		for _, f := range list {
			sum += len(f.Text)
		}
		if got := files.Size(list); got != sum {
			t.Errorf("%s: Size = %d, want %d", name, got, sum)
		}
		if got := files.Copy(list); !slices.Equal(got, list) {
			t.Errorf("%s: Copy = %v", name, got)
		}
	}
	for _, c := range []struct {
		list []api.File
		want int
	}{
		{three(), 7},
		{space(file("a", "")), 0},
		{numbered(8), 0},
		{space(file("name", "\u00e4\n")), 3},
		{space(file("a", all(4000)), file("b", all(4000))), 8000},
	} {
		if got := files.Size(c.list); got != c.want {
			t.Errorf("Size(%v) = %d, want %d", c.list, got, c.want)
		}
		if got := files.Copy(c.list); !slices.Equal(got, c.list) {
			t.Errorf("Copy(%v) = %v", c.list, got)
		}
	}
}

// given is a workspace and patches with spare room behind them, which is the caller's too.
type given struct {
	list    []api.File
	patches []api.Patch
}

// roomy makes room behind all lists; what is handed to a call is cut off from it.
func roomy(list []api.File, change []api.Patch) (handed, room given) {
	room.list = append(slices.Clone(list), file("spare", "room"), file("more", "room"))
	for _, p := range append(slices.Clone(change), patch("spare", put(1, 2, "room"))) {
		p.Edits = append(slices.Clone(p.Edits), put(71, 72, "spare"), put(81, 82, "room"))
		room.patches = append(room.patches, p)
	}
	handed.list = room.list[:len(list)]
	handed.patches = slices.Clone(room.patches)
	for n, p := range change {
		handed.patches[n].Edits = room.patches[n].Edits[:len(p.Edits)]
	}
	handed.patches = handed.patches[:len(change)]
	return handed, room
}

// clone is the same in other memory.
func (g given) clone() given {
	out := given{list: slices.Clone(g.list)}
	for _, p := range g.patches {
		p.Edits = slices.Clone(p.Edits)
		out.patches = append(out.patches, p)
	}
	return out
}

func (g given) same(h given) bool {
	return slices.Equal(g.list, h.list) && samePatches(g.patches, h.patches)
}

// spoil writes over all of it.
func (g given) spoil() {
	for n := range g.list {
		g.list[n] = file("spoilt", "spoilt")
	}
	_ = append(g.list, file("spoilt", "spoilt"))
	for n, p := range g.patches {
		for i := range p.Edits {
			p.Edits[i] = put(-1, -1, "spoilt")
		}
		_ = append(p.Edits, put(-1, -1, "spoilt"))
		g.patches[n] = patch("spoilt")
	}
	_ = append(g.patches, patch("spoilt"))
}

// calls is all calls, each with the lists that it answers.
func calls() map[string]func(g given) given {
	other := space(file("a", "aBCd"), file("b", "b"), file("c", "xyz"))
	return map[string]func(g given) given{
		"Right": func(g given) given { files.Right(g.list); return given{} },
		"Find":  func(g given) given { files.Find(g.list, "c"); return given{} },
		"Size":  func(g given) given { files.Size(g.list); return given{} },
		"Copy":  func(g given) given { return given{list: files.Copy(g.list)} },
		"Goes": func(g given) given {
			files.Goes(g.list, api.Pos{File: 2, At: 1}, g.patches...)
			return given{}
		},
		"Apply":     func(g given) given { got, _ := files.Apply(g.list, g.patches...); return given{list: got} },
		"Invert":    func(g given) given { got, _ := files.Invert(g.list, g.patches...); return given{patches: got} },
		"Diff to":   func(g given) given { got, _ := files.Diff(g.list, other); return given{patches: got} },
		"Diff from": func(g given) given { got, _ := files.Diff(other, g.list); return given{patches: got} },
	}
}

func TestArgumentsStayAndAnswersAreNew(t *testing.T) {
	var lists [][]api.Patch
	for _, c := range applied() {
		lists = append(lists, c.patches)
	}
	for _, c := range refusals() {
		lists = append(lists, c.patches)
	}
	for _, list := range [][]api.File{three(), nil, numbered(9)} {
		for _, change := range lists {
			for name, call := range calls() {
				handed, room := roomy(list, change)
				wasHanded, wasRoom := handed.clone(), room.clone()
				first := call(handed)
				told := first.clone()
				if !room.same(wasRoom) || !handed.same(wasHanded) {
					t.Fatalf("%s(%v, %v) left %v", name, list, change, room)
				}
				first.spoil()
				if !room.same(wasRoom) || !handed.same(wasHanded) {
					t.Fatalf("%s(%v, %v): the answer shares memory with what was handed in", name, list, change)
				}
				second := call(handed)
				if !second.same(told) {
					t.Fatalf("%s(%v, %v) = %v, and then %v", name, list, change, told, second)
				}
				handed.spoil()
				room.spoil()
				if !second.same(told) {
					t.Fatalf("%s(%v, %v): the answer hangs on what was handed in", name, list, change)
				}
			}
		}
	}
}

// No two lists of one answer share memory: what is put behind the one isn't seen in the other.
func TestListsOfOneAnswerShareNothing(t *testing.T) {
	a, b := numbered(8), numbered(8)
	var change []api.Patch
	for n := range b {
		b[n].Text = "new"
		change = append(change, patch(b[n].Name, put(0, 0, "new")))
	}
	back, err1 := files.Invert(a, change...)
	diff, err2 := files.Diff(a, b)
	if err1 != nil || err2 != nil {
		t.Fatal(err1, err2)
	}
	for _, got := range [][]api.Patch{back, diff} {
		for n := range got {
			_ = append(got[n].Edits, put(-1, -1, "spoilt"), put(-1, -1, "spoilt"))
			for i := n + 1; i < len(got); i++ {
				if !slices.Equal(got[i].Edits, edits(put(0, 3, ""))) && !slices.Equal(got[i].Edits, edits(put(0, 0, "new"))) {
					t.Errorf("the edits %d and %d share memory: %v", n, i, got)
				}
			}
		}
	}
}

// No patch at all is a workspace in new memory, not the one that was handed in.
func TestApplyOfNothingIsNew(t *testing.T) {
	list := three()
	for name, call := range map[string]func() []api.File{
		"Apply": func() []api.File { got, _ := files.Apply(list); return got },
		"Copy":  func() []api.File { return files.Copy(list) },
	} {
		got := call()
		got[0].Text = "spoilt"
		if !slices.Equal(list, three()) {
			t.Errorf("%s: the answer shares memory with what was handed in", name)
		}
	}
}
