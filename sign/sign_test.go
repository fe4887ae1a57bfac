package sign_test

import (
	"math"
	"slices"
	"strconv"
	"strings"
	"testing"

	"namesake/api"
	"namesake/sign"
)

// The chapter's words, written out once more: the tests hold the program against these, not against its own table.
const (
	letters = "abcdefghijklmnopqrstuvwxyzABCDEFGHIJKLMNOPQRSTUVWXYZ_"
	figures = "0123456789"
	blanks  = "\x09\x0a\x0d\x20"
	inOrder = "class extends public static void main String int boolean return if else while true false this new length"
)

func keywords() []string { return strings.Fields(inOrder) }

func one(c byte) string { return string([]byte{c}) }

// plainWord reckons from the chapter's words alone whether a text is a word.
func plainWord(s string) bool {
	if len(s) < 1 || len(s) > 64 || strings.IndexByte(letters, s[0]) < 0 {
		return false
	}
	for i := range len(s) {
		if strings.IndexByte(letters+figures, s[i]) < 0 {
			return false
		}
	}
	return true
}

// plainNumber reckons from the chapter's words alone whether a text is a number.
func plainNumber(s string) bool {
	const most = "2147483647"
	if s == "" || strings.Trim(s, figures) != "" || len(s) > 1 && s[0] == '0' {
		return false
	}
	return len(s) < len(most) || len(s) == len(most) && s <= most
}

// texts are all texts of up to n bytes of those given.
func texts(bytes string, n int) []string {
	out := []string{""}
	for from := 0; n > 0; n-- {
		end := len(out)
		for _, s := range out[from:end] {
			for i := range len(bytes) {
				out = append(out, s+bytes[i:i+1])
			}
		}
		from = end
	}
	return out
}

// wordsOfEachLength are a word of each length up to 64 for each letter that stands first.
func wordsOfEachLength() []string {
	var out []string
	for i := range len(letters) {
		for n := 1; n <= 64; n++ {
			out = append(out, letters[i:i+1]+strings.Repeat("x9_Q", 16)[:n-1])
		}
	}
	return out
}

// asksWord holds all that is asked of a text as a word against the chapter.
func asksWord(t *testing.T, s string) {
	t.Helper()
	word, key := plainWord(s), slices.Contains(keywords(), s)
	if got := sign.Word(s); got != word {
		t.Errorf("Word(%q) = %v, want %v", s, got, word)
	}
	if got := sign.Keyword(s); got != key {
		t.Errorf("Keyword(%q) = %v, want %v", s, got, key)
	}
	var want error
	if !word || key {
		want = api.ErrName
	}
	if got := sign.Name(s); got != want {
		t.Errorf("Name(%q) = %v, want %v", s, got, want)
	}
}

// asksNumber holds what is asked of a text as a number against the chapter.
func asksNumber(t *testing.T, s string) {
	t.Helper()
	n, err := sign.Number(s)
	if !plainNumber(s) {
		if n != 0 || err != api.ErrForm {
			t.Errorf("Number(%q) = %d, %v, want 0, %v", s, n, err, api.ErrForm)
		}
		return
	}
	if err != nil || strconv.Itoa(n) != s {
		t.Errorf("Number(%q) = %d, %v", s, n, err)
	}
}

func TestChapterExamples(t *testing.T) {
	if sign.Name("_a1") != nil || sign.Word("1a") || !sign.Keyword("class") {
		t.Error(sign.Name("_a1"), sign.Word("1a"), sign.Keyword("class"))
	}
	if n, err := sign.Number("007"); n != 0 || err != api.ErrForm {
		t.Error(n, err)
	}
}

func TestEachByte(t *testing.T) {
	count := [3]int{}
	for n := range 256 {
		c := byte(n)
		for k, kind := range []struct {
			name string
			is   func(byte) bool
			all  string
		}{{"Letter", sign.Letter, letters}, {"Figure", sign.Figure, figures}, {"Blank", sign.Blank, blanks}} {
			want := strings.IndexByte(kind.all, c) >= 0
			if got := kind.is(c); got != want {
				t.Errorf("%s(%d) = %v, want %v", kind.name, c, got, want)
			}
			if kind.is(c) {
				count[k]++
			}
		}
	}
	if count != [3]int{53, 10, 4} {
		t.Errorf("letters, figures, blanks: %v", count)
	}
}

func TestWordsAndNames(t *testing.T) {
	ordinary := []string{"a", "Z", "_", "__", "_1", "x", "next", "System", "out", "println", "a1b2", "A_B", "null", "void_", "iff", "i"}
	for _, s := range append(ordinary, wordsOfEachLength()...) {
		if !sign.Word(s) || sign.Keyword(s) || sign.Name(s) != nil {
			t.Errorf("%q: %v, %v, %v", s, sign.Word(s), sign.Keyword(s), sign.Name(s))
		}
	}
}

func TestNoWords(t *testing.T) {
	for _, s := range []string{
		"", "9", "1a", "0", "0x", "9_", " ", " a", "a ", "a b", "a-b", "-a", "a.b", "a\n", "\ta", "a$", "$", "a\x00", "\x00",
		"\u00e9", "a\u00e9", "\u00aa", "\u0661", "a\u0661", "\uff41", "\x80", "a\xff", "\xff", "\xc3",
		strings.Repeat("a", 65), strings.Repeat("_", 65), "a" + strings.Repeat("1", 64), strings.Repeat("a", 63) + "\u00e9",
		strings.Repeat("a", 128), strings.Repeat("a", 256), strings.Repeat("a", 320), strings.Repeat("a", 1<<20),
		strings.Repeat("a", 63) + " ", "1" + strings.Repeat("a", 63),
	} {
		if sign.Word(s) || sign.Keyword(s) || sign.Name(s) != api.ErrName {
			t.Errorf("%.80q: %v, %v, %v", s, sign.Word(s), sign.Keyword(s), sign.Name(s))
		}
	}
}

func TestWordsByLength(t *testing.T) {
	for n := range 200 {
		for _, first := range []string{"a", "_"} {
			asksWord(t, first+strings.Repeat("9", n))
			asksWord(t, strings.Repeat(first, n))
		}
	}
}

// Each byte, wherever it stands in a word.
func TestEachByteOfWord(t *testing.T) {
	for n := range 256 {
		b := one(byte(n))
		for _, s := range []string{b, b + "a", "a" + b, "a" + b + "a", "aa" + b + b, strings.Repeat("a", 63) + b, strings.Repeat("a", 64) + b, b + strings.Repeat("a", 63)} {
			asksWord(t, s)
		}
	}
}

func TestShortTexts(t *testing.T) {
	for _, s := range texts("aZ_09 -\xff", 4) {
		asksWord(t, s)
	}
	// With these letters, if and else are among them.
	for _, s := range texts("ifelsI", 4) {
		asksWord(t, s)
	}
}

func TestKeywords(t *testing.T) {
	want := keywords()
	if len(want) != 18 {
		t.Fatal(len(want))
	}
	if got := slices.Collect(sign.Keywords()); !slices.Equal(got, want) {
		t.Errorf("Keywords() = %q", got)
	}
	for k := range sign.Keywords() {
		if !sign.Word(k) || !sign.Keyword(k) || sign.Name(k) != api.ErrName {
			t.Errorf("%q: %v, %v, %v", k, sign.Word(k), sign.Keyword(k), sign.Name(k))
		}
	}
}

// neighbours are what a keyword becomes by one byte more, less or other, or by the other case of letters.
func neighbours(k string) []string {
	out := []string{strings.ToUpper(k), strings.ToLower(k), k + k, k + " ", " " + k, k + "\x00"}
	for i := range len(k) {
		out = append(out, k[:i]+k[i+1:])
		for n := range 256 {
			out = append(out, k[:i]+one(byte(n))+k[i+1:], k[:i]+one(byte(n))+k[i:], k+one(byte(n)))
		}
	}
	return out
}

func TestNearKeywords(t *testing.T) {
	for _, k := range keywords() {
		for _, s := range neighbours(k) {
			asksWord(t, s)
		}
	}
	// Words that are near by meaning or by looks, and none.
	for _, s := range []string{"string", "Class", "Main", "MAIN", "mainn", "mai", "interface", "int1", "private", "final", "null", "super", "for", "do", "Boolean", "integer", "", "class extends", "class,"} {
		if sign.Keyword(s) {
			t.Errorf("%q is a keyword", s)
		}
	}
}

func TestKeywordsLeftEarly(t *testing.T) {
	all, want := sign.Keywords(), keywords()
	for leave := 1; leave <= len(want); leave++ {
		var got []string
		for k := range all {
			got = append(got, k)
			if len(got) == leave {
				break
			}
		}
		if !slices.Equal(got, want[:leave]) {
			t.Errorf("left behind keyword %d: %q", leave, got)
		}
		calls := 0
		all(func(string) bool {
			calls++
			return calls < leave
		})
		if calls != leave {
			t.Errorf("told %d keywords to one who left behind %d", calls, leave)
		}
	}
}

func TestKeywordsTwice(t *testing.T) {
	all, want := sign.Keywords(), keywords()
	for range 2 {
		if got := slices.Collect(all); !slices.Equal(got, want) {
			t.Errorf("%q", got)
		}
	}
	n := 0
	for range all {
		for k := range all {
			if k != want[n%len(want)] {
				t.Fatalf("one range within another: keyword %d is %q", n, k)
			}
			n++
		}
	}
	if n != 18*18 {
		t.Errorf("one range within another: %d keywords", n)
	}
}

// What is done with an answer is not seen by who asks later.
func TestKeywordsAreNew(t *testing.T) {
	got := slices.Collect(sign.Keywords())
	clear(got)
	if again := slices.Collect(sign.Keywords()); !slices.Equal(again, keywords()) || !sign.Keyword("class") {
		t.Errorf("%q", again)
	}
}

// A word with a letter more, wherever it is put, or with a figure more, wherever but ahead, is a word up to 64 bytes.
func TestWordWithOneMore(t *testing.T) {
	words := append(keywords(), "a", "_", "x1", strings.Repeat("b", 31), strings.Repeat("c", 62), strings.Repeat("d", 63), strings.Repeat("e", 64), "_"+strings.Repeat("9", 62), "_"+strings.Repeat("9", 63))
	for _, w := range words {
		if !sign.Word(w) {
			t.Errorf("%q is no word", w)
		}
		for i := range len(letters + figures) {
			c := (letters + figures)[i : i+1]
			for at := 0; at <= len(w); at++ {
				want := len(w) < 64 && (at > 0 || i < len(letters))
				if got := sign.Word(w[:at] + c + w[at:]); got != want {
					t.Errorf("Word(%q with %q at %d) = %v", w, c, at, got)
				}
			}
		}
	}
}

// From one letter on, a word that grows by a letter or a figure at a time is one up to its 64th byte and none from then on.
func TestWordGrows(t *testing.T) {
	for _, w := range []string{"a", "_", "Q"} {
		for n := 1; n < 100; n++ {
			if got := sign.Word(w); got != (n <= 64) {
				t.Errorf("Word(%q) = %v", w, got)
			}
			w += one((letters + figures)[7*n%63])
		}
	}
}

func TestNumbers(t *testing.T) {
	for s, want := range map[string]int{
		"0": 0, "1": 1, "9": 9, "10": 10, "42": 42, "99": 99, "100": 100, "1000000000": 1000000000, "999999999": 999999999,
		"1999999999": 1999999999, "2147483639": 2147483639, "2147483640": 2147483640, "2147483646": 2147483646, "2147483647": 2147483647,
	} {
		if n, err := sign.Number(s); n != want || err != nil {
			t.Errorf("Number(%q) = %d, %v", s, n, err)
		}
	}
}

func TestNoNumbers(t *testing.T) {
	for _, s := range []string{
		"", "00", "01", "007", "000", "0000000001", "02147483647", "00000000000", "0" + strings.Repeat("0", 100),
		"-1", "+1", "-0", "+0", "-", "+", "--1", "-2147483648", "+2147483647", "-9223372036854775808",
		"2147483648", "2147483649", "2147483650", "2147483657", "2147484000", "2200000000", "3000000000", "4294967295", "4294967296", "4294967297", "9999999999", "10000000000", "21474836470",
		"9223372036854775807", "9223372036854775808", "18446744073709551615", "18446744073709551616", "18446744073709551617", "99999999999999999999",
		strings.Repeat("1", 100), strings.Repeat("9", 1<<20), "1" + strings.Repeat("0", 1<<20), strings.Repeat("0", 1<<20) + "1",
		"1a", "a1", "a", "_", "1_000", "1_0", "0x10", "0b1", "0o7", "1e3", "1.0", "1.", ".1", " 1", "1 ", "1\n", "\t1", "1 2", "1\x00", "\x00",
		"\u0661", "1\u0661", "\uff11", "\x80", "1\xff", "\xff", "Inf", "true",
	} {
		if n, err := sign.Number(s); n != 0 || err != api.ErrForm {
			t.Errorf("Number(%.80q) = %d, %v", s, n, err)
		}
	}
}

func TestEachByteOfNumber(t *testing.T) {
	for n := range 256 {
		b := one(byte(n))
		for _, s := range []string{b, b + "1", "1" + b, "1" + b + "1", b + b, "214748364" + b, b + "147483647", "2147483647" + b} {
			asksNumber(t, s)
		}
	}
}

func TestShortNumbers(t *testing.T) {
	for _, s := range texts("0123456789+-_ ax", 3) {
		asksNumber(t, s)
	}
	for _, s := range texts("05", 11) {
		asksNumber(t, s)
	}
}

// A number's figures are told by its value: each value has just one text, and that text's value is it.
func TestFiguresToldByValue(t *testing.T) {
	values := []int{math.MaxInt32, math.MaxInt32 - 1, 1 << 30, 1<<30 - 1, 1 << 16, 65535}
	for n := range 20000 {
		values = append(values, n, math.MaxInt32-n, n*107374)
	}
	for n := 1; n <= math.MaxInt32; n *= 10 {
		values = append(values, n-1, n, n+1)
	}
	for _, n := range values {
		figures := strconv.Itoa(n)
		if got, err := sign.Number(figures); got != n || err != nil {
			t.Fatalf("Number(%q) = %d, %v", figures, got, err)
		}
		for _, s := range []string{"0" + figures, "00" + figures, "+" + figures, "-" + figures, figures + ".", figures + " "} {
			if got, err := sign.Number(s); got != 0 || err != api.ErrForm {
				t.Fatalf("Number(%q) = %d, %v", s, got, err)
			}
		}
	}
	for n := math.MaxInt32 + 1; n < math.MaxInt32+20000; n++ {
		if got, err := sign.Number(strconv.Itoa(n)); got != 0 || err != api.ErrForm {
			t.Fatalf("Number(%d) = %d, %v", n, got, err)
		}
	}
}

func TestRun(t *testing.T) {
	for _, c := range []struct {
		s    string
		at   int
		is   func(byte) bool
		want int
	}{
		{"", 0, sign.Letter, 0},
		{"", 1, sign.Letter, 0},
		{"", -1, sign.Letter, 0},
		{"ab 12", 0, sign.Letter, 2},
		{"ab 12", 1, sign.Letter, 2},
		{"ab 12", 2, sign.Letter, 2},
		{"ab 12", 2, sign.Blank, 3},
		{"ab 12", 3, sign.Figure, 5},
		{"ab 12", 4, sign.Figure, 5},
		{"ab 12", 5, sign.Figure, 5},
		{"ab 12", 6, sign.Figure, 5},
		{"ab 12", 0, sign.Figure, 0},
		{"ab 12", 0, sign.Blank, 0},
		{"ab 12", 3, sign.Letter, 3},
		{"ab 12ab", 0, sign.Letter, 2},
		{"a", 0, sign.Letter, 1},
		{"1a", 0, sign.Letter, 0},
		{"a1", 0, sign.Letter, 1},
		{" \t\r\n\v", 0, sign.Blank, 4},
		{"a\u00e9", 0, sign.Letter, 1},
		{"\xff\xff", 0, func(c byte) bool { return c == 0xff }, 2},
		{"\u00e9", 0, func(c byte) bool { return c >= 128 }, 2},
		{"a\x00b", 0, func(byte) bool { return true }, 3},
		{"a\x00b", 0, func(byte) bool { return false }, 0},
		{"abc", math.MinInt, sign.Letter, 3},
		{"abc", -1, sign.Letter, 3},
		{"abc", -4, sign.Figure, 0},
		{"abc", 3, sign.Letter, 3},
		{"abc", 4, sign.Letter, 3},
		{"abc", math.MaxInt, sign.Letter, 3},
		{"abc", math.MaxInt, func(byte) bool { return true }, 3},
	} {
		if got := sign.Run(c.s, c.at, c.is); got != c.want {
			t.Errorf("Run(%q, %d) = %d, want %d", c.s, c.at, got, c.want)
		}
	}
	long := strings.Repeat("a", 1<<20)
	if got := sign.Run(long+"1", 5, sign.Letter); got != 1<<20 {
		t.Error(got)
	}
}

// Short texts from every place, beyond both ends too, against the chapter's words.
func TestRunEverywhere(t *testing.T) {
	for _, kind := range []struct {
		is  func(byte) bool
		all string
	}{{sign.Letter, letters}, {sign.Figure, figures}, {sign.Blank, blanks}} {
		for _, s := range texts("a1 \xff", 5) {
			for at := -2; at <= len(s)+2; at++ {
				from := min(max(at, 0), len(s))
				want := len(s) - len(strings.TrimLeft(s[from:], kind.all))
				if got := sign.Run(s, at, kind.is); got != want {
					t.Fatalf("Run(%q, %d, %q) = %d, want %d", s, at, kind.all, got, want)
				}
			}
		}
	}
}

// The function is asked once for each byte of the run and for the one that ends it, in their order, and for no other.
func TestRunAsksInOrder(t *testing.T) {
	s := "abc12 de"
	for at := -1; at <= len(s)+1; at++ {
		var asked []byte
		end := sign.Run(s, at, func(c byte) bool {
			asked = append(asked, c)
			return c != ' '
		})
		from := min(max(at, 0), len(s))
		if want := s[from:min(end+1, len(s))]; string(asked) != want {
			t.Errorf("from %d it asked %q, want %q", at, asked, want)
		}
	}
	n := 0
	third := func(byte) bool { n++; return n < 3 }
	if got := sign.Run("xxxxx", 1, third); got != 3 || n != 3 {
		t.Errorf("a function that counts: %d, asked %d times", got, n)
	}
}

// No call panics, whatever it is given: a byte for which no answer comes is none of the run.
func TestRunWithoutAnswer(t *testing.T) {
	for at, want := range map[int]int{-1: 0, 0: 0, 1: 1, 2: 2, 3: 2, math.MinInt: 0, math.MaxInt: 2} {
		if got := sign.Run("ab", at, nil); got != want {
			t.Errorf("Run of no function from %d = %d, want %d", at, got, want)
		}
	}
	if got := sign.Run("", 0, nil); got != 0 {
		t.Error(got)
	}
	stops := func(c byte) bool {
		if c == '!' {
			panic("no answer")
		}
		return true
	}
	for s, want := range map[string]int{"": 0, "!": 0, "ab!c": 2, "abc": 3, "abc!": 3} {
		if got := sign.Run(s, 0, stops); got != want {
			t.Errorf("Run(%q) of a function that panics = %d, want %d", s, got, want)
		}
	}
}

// What a call answers does not hang on what was asked ahead of it.
func TestAskedAgain(t *testing.T) {
	all := []string{"", "a", "class", "length", "1a", "007", "7", "2147483648", strings.Repeat("a", 64), strings.Repeat("a", 65), "\xff"}
	for range 3 {
		for _, s := range all {
			asksWord(t, s)
			asksNumber(t, s)
		}
		slices.Reverse(all)
	}
}
