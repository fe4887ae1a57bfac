package lex_test

import (
	"fmt"
	"math"
	"regexp"
	"slices"
	"strings"
	"testing"

	"namesake/api"
	"namesake/lex"
)

const (
	inOrder = "class extends public static void main String int boolean return if else while true false this new length"
	printer = "System.out.println"
	signs   = "{}()[];,.=<+-*!"
	most    = "2147483647"
)

func keywords() []string { return strings.Fields(inOrder) }

func one(c byte) string { return string([]byte{c}) }

// short is a value as a test tells it: lists of a large text's tokens would bury all else.
func short(v any) string { return fmt.Sprintf("%.300s", fmt.Sprintf("%+q", fmt.Sprint(v))) }

// rule is one of the chapter's sentences on what the next token is, as a pattern.
type rule struct {
	kind lex.Kind
	is   *regexp.Regexp
}

// rules are the chapter's sentences in their order: the tests hold the program against these. The byte behind a word of letters and figures is asked by \b, as \w is just these.
var rules = []rule{
	{lex.Space, regexp.MustCompile(`^[\x09\x0a\x0d\x20]+`)},
	{lex.Note, regexp.MustCompile(`^//[^\x0a]*`)},
	{lex.Note, regexp.MustCompile(`^/\*(?s:.*?)\*/`)},
	{lex.Bad, regexp.MustCompile(`^/\*(?s:.*)`)},
	{lex.Key, regexp.MustCompile(`^System\.out\.println\b`)},
	{lex.Key, regexp.MustCompile(`^(?:` + strings.ReplaceAll(inOrder, " ", "|") + `)\b`)},
	{lex.Name, regexp.MustCompile(`^[A-Za-z_]\w{0,63}\b`)},
	{lex.Bad, regexp.MustCompile(`^[A-Za-z_]\w*`)},
	{lex.Figure, regexp.MustCompile(`^(?:0|[1-9][0-9]{0,8}|1[0-9]{9}|20[0-9]{8}|21[0-3][0-9]{7}|214[0-6][0-9]{6}|2147[0-3][0-9]{5}|21474[0-7][0-9]{4}|214748[0-2][0-9]{3}|2147483[0-5][0-9]{2}|21474836[0-3][0-9]|214748364[0-7])\b`)},
	{lex.Bad, regexp.MustCompile(`^[0-9]\w*`)},
	{lex.Sign, regexp.MustCompile(`^(?:&&|[{}()\[\];,.=<+\-*!])`)},
}

// plainTokens reckons a text's tokens from the chapter's words alone.
func plainTokens(s string) []lex.Token {
	var out []lex.Token
	for at := 0; at < len(s); {
		t := plainFirst(s[at:])
		out = append(out, lex.Token{Kind: t.Kind, From: at, To: at + t.To})
		at += t.To
	}
	return out
}

func plainFirst(s string) lex.Token {
	for _, r := range rules {
		if m := r.is.FindStringIndex(s); m != nil {
			return lex.Token{Kind: r.kind, To: m[1]}
		}
	}
	return lex.Token{Kind: lex.Bad, To: 1}
}

// firstBad is where a list's first Bad token begins, and whether it has one.
func firstBad(list []lex.Token) (int, bool) {
	for _, t := range list {
		if t.Kind == lex.Bad {
			return t.From, true
		}
	}
	return 0, false
}

func isReal(t lex.Token) bool { return t.Kind != lex.Space && t.Kind != lex.Note }

// asks holds all that is asked of a text against the chapter.
func asks(t *testing.T, s string) {
	t.Helper()
	want := plainTokens(s)
	if got := lex.List(s); !slices.Equal(got, want) {
		t.Errorf("List(%.200q) = %s, want %s", s, short(got), short(want))
	}
	if got := slices.Collect(lex.All(s)); !slices.Equal(got, want) {
		t.Errorf("All(%.200q) = %s, want %s", s, short(got), short(want))
	}
	at, bad := firstBad(want)
	if got := lex.Clean(s); got == bad {
		t.Errorf("Clean(%.200q) = %v", s, got)
	}
	var real []lex.Token
	var fault error = api.ErrForm
	if !bad {
		fault = nil
		for _, x := range want {
			if isReal(x) {
				real = append(real, x)
			}
		}
	}
	if got, place, err := lex.Real(s); !slices.Equal(got, real) || place != at || err != fault {
		t.Errorf("Real(%.200q) = %s, %d, %v, want %s, %d, %v", s, short(got), place, err, short(real), at, fault)
	}
	isWhole(t, s)
}

// isWhole holds a text against what is promised of all its tokens.
func isWhole(t *testing.T, s string) {
	t.Helper()
	list, at := lex.List(s), 0
	for _, x := range list {
		if x.From != at || x.To <= x.From {
			t.Errorf("%.200q: token %v at %d", s, x, at)
		}
		at = x.To
	}
	if at != len(s) {
		t.Errorf("%.200q: the tokens end at %d", s, at)
	}
	if got := lex.Join(s, list...); got != s {
		t.Errorf("%.200q: joined %.200q", s, got)
	}
	if !lex.Clean(s) {
		return
	}
	real, _, _ := lex.Real(s)
	for _, x := range real {
		alone := x.Text(s)
		if got := lex.List(alone); !slices.Equal(got, []lex.Token{{Kind: x.Kind, From: 0, To: len(alone)}}) {
			t.Errorf("%.200q: %v, alone %.200q, is %s", s, x, alone, short(got))
		}
	}
}

// told is a text's tokens as kinds and texts, which does not hang on places.
func told(s string) []string {
	var out []string
	for x := range lex.All(s) {
		out = append(out, one(byte('0'+x.Kind))+x.Text(s))
	}
	return out
}

// exchanges puts other names in place of each name of a text, and asks that all other tokens stay.
func exchanges(t *testing.T, s string) {
	t.Helper()
	old := told(s)
	for n, x := range lex.List(s) {
		if x.Kind != lex.Name {
			continue
		}
		for _, name := range newNames() {
			now := s[:x.From] + name + s[x.To:]
			want := slices.Clone(old)
			want[n] = one(byte('0'+lex.Name)) + name
			if got := told(now); !slices.Equal(got, want) {
				t.Errorf("%.200q with %q at %d: %s, want %s", s, name, x.From, short(got), short(want))
			}
		}
	}
}

func newNames() []string {
	return []string{"x", "_", "_9", "System1", "system", "outs", "ou", "println1", "printl", "Println", "classs", "i", "Out", strings.Repeat("n", 63), strings.Repeat("N", 64)}
}

// texts are all texts of up to n of the parts given.
func texts(parts []string, n int) []string {
	out := []string{""}
	for from := 0; n > 0; n-- {
		end := len(out)
		for _, s := range out[from:end] {
			for _, p := range parts {
				out = append(out, s+p)
			}
		}
		from = end
	}
	return out
}

func bytesOf(s string) []string {
	var out []string
	for i := range len(s) {
		out = append(out, s[i:i+1])
	}
	return out
}

// part is a token as its kind and its text.
type part struct {
	kind lex.Kind
	text string
}

// hasParts asks that a text's tokens are those written out.
func hasParts(t *testing.T, s string, want ...part) {
	t.Helper()
	var got []part
	for _, x := range lex.List(s) {
		got = append(got, part{x.Kind, x.Text(s)})
	}
	if !slices.Equal(got, want) {
		t.Errorf("%.200q: %s, want %s", s, short(got), short(want))
	}
	asks(t, s)
}

func TestKinds(t *testing.T) {
	kinds := []lex.Kind{lex.Space, lex.Note, lex.Key, lex.Name, lex.Figure, lex.Sign, lex.Bad}
	for i, k := range kinds {
		if int(k) != i+1 {
			t.Errorf("kind %d is %d", i+1, k)
		}
	}
}

func TestChapterExample(t *testing.T) {
	hasParts(t, "a=1;//x", part{lex.Name, "a"}, part{lex.Sign, "="}, part{lex.Figure, "1"}, part{lex.Sign, ";"}, part{lex.Note, "//x"})
}

func TestOrdinaryText(t *testing.T) {
	hasParts(t, "if(a&&!b1<10){System.out.println(this.m(c[0]));}/* z */\n\t// end",
		part{lex.Key, "if"}, part{lex.Sign, "("}, part{lex.Name, "a"}, part{lex.Sign, "&&"}, part{lex.Sign, "!"}, part{lex.Name, "b1"}, part{lex.Sign, "<"}, part{lex.Figure, "10"}, part{lex.Sign, ")"},
		part{lex.Sign, "{"}, part{lex.Key, printer}, part{lex.Sign, "("}, part{lex.Key, "this"}, part{lex.Sign, "."}, part{lex.Name, "m"}, part{lex.Sign, "("}, part{lex.Name, "c"}, part{lex.Sign, "["}, part{lex.Figure, "0"}, part{lex.Sign, "]"},
		part{lex.Sign, ")"}, part{lex.Sign, ")"}, part{lex.Sign, ";"}, part{lex.Sign, "}"}, part{lex.Note, "/* z */"}, part{lex.Space, "\n\t"}, part{lex.Note, "// end"})
	for _, s := range programs() {
		asks(t, s)
		exchanges(t, s)
		if !lex.Clean(s) {
			t.Errorf("%q isn't clean", s)
		}
	}
}

func programs() []string {
	return []string{
		"class M { public static void main(String[] a) { System.out.println(new A().m(1)); } }\nclass A { int x; public int m(int y) { int v; v = y + 1; return v * v; } }",
		"class A extends B {\r\n\tint[] list; // all of them\r\n\tboolean on;\r\n\tpublic boolean is(A a, int[] b) { /* none\n * yet */ while (!on && 0 < b.length) { b[0] = b[0] - 1; if (on) { } else on = false; } return true; }\r\n}\r\n",
		"System.out.println(System.out.println1);System .out.println(x);out.System.println;System;out;println;",
		"a/**/b//c\nd/*/*/e/***/f",
	}
}

func TestEmptyText(t *testing.T) {
	if l := lex.List(""); len(l) != 0 {
		t.Error(l)
	}
	for x := range lex.All("") {
		t.Error(x)
	}
	if l, at, err := lex.Real(""); len(l) != 0 || at != 0 || err != nil {
		t.Error(l, at, err)
	}
	if !lex.Clean("") || lex.Join("") != "" || lex.Join("a") != "" || lex.Join("a", nil...) != "" || (lex.Token{}).Text("") != "" {
		t.Error("of nothing")
	}
}

func TestBlanks(t *testing.T) {
	for _, s := range []string{" ", "\t", "\r", "\n", "  ", " \t\r\n", "\n\n", strings.Repeat(" \n", 5000)} {
		hasParts(t, s, part{lex.Space, s})
		hasParts(t, "a"+s+"b", part{lex.Name, "a"}, part{lex.Space, s}, part{lex.Name, "b"})
		hasParts(t, s+";", part{lex.Space, s}, part{lex.Sign, ";"})
		hasParts(t, "1"+s, part{lex.Figure, "1"}, part{lex.Space, s})
	}
	for _, c := range []string{"\v", "\f", "\x00", "\x1f", "\x85", "\xa0"} {
		hasParts(t, " "+c+" ", part{lex.Space, " "}, part{lex.Bad, c}, part{lex.Space, " "})
	}
}

func TestLineNotes(t *testing.T) {
	hasParts(t, "//", part{lex.Note, "//"})
	hasParts(t, "// a b", part{lex.Note, "// a b"})
	hasParts(t, "//\n", part{lex.Note, "//"}, part{lex.Space, "\n"})
	hasParts(t, "//x\n\n//y", part{lex.Note, "//x"}, part{lex.Space, "\n\n"}, part{lex.Note, "//y"})
	hasParts(t, "//x\r\ny", part{lex.Note, "//x\r"}, part{lex.Space, "\n"}, part{lex.Name, "y"})
	hasParts(t, "a//", part{lex.Name, "a"}, part{lex.Note, "//"})
	hasParts(t, "///*\n*/", part{lex.Note, "///*"}, part{lex.Space, "\n"}, part{lex.Sign, "*"}, part{lex.Bad, "/"})
	hasParts(t, "//*/1", part{lex.Note, "//*/1"})
	hasParts(t, "//\x00\xff\u00e9\v\n1", part{lex.Note, "//\x00\xff\u00e9\v"}, part{lex.Space, "\n"}, part{lex.Figure, "1"})
	hasParts(t, "/ /", part{lex.Bad, "/"}, part{lex.Space, " "}, part{lex.Bad, "/"})
	hasParts(t, "/\n/", part{lex.Bad, "/"}, part{lex.Space, "\n"}, part{lex.Bad, "/"})
	hasParts(t, ".//", part{lex.Sign, "."}, part{lex.Note, "//"})
	hasParts(t, "//007", part{lex.Note, "//007"})
}

func TestStarNotes(t *testing.T) {
	hasParts(t, "/**/", part{lex.Note, "/**/"})
	hasParts(t, "/***/", part{lex.Note, "/***/"})
	hasParts(t, "/****/", part{lex.Note, "/****/"})
	hasParts(t, "/*/*/", part{lex.Note, "/*/*/"})
	hasParts(t, "/*a*/b", part{lex.Note, "/*a*/"}, part{lex.Name, "b"})
	hasParts(t, "/*a*/*/", part{lex.Note, "/*a*/"}, part{lex.Sign, "*"}, part{lex.Bad, "/"})
	hasParts(t, "/*a*//", part{lex.Note, "/*a*/"}, part{lex.Bad, "/"})
	hasParts(t, "/*a*///b", part{lex.Note, "/*a*/"}, part{lex.Note, "//b"})
	hasParts(t, "/*//*/1", part{lex.Note, "/*//*/"}, part{lex.Figure, "1"})
	hasParts(t, "/*\n* /\n*/", part{lex.Note, "/*\n* /\n*/"})
	hasParts(t, "/*\x00\xff\u00e9*/", part{lex.Note, "/*\x00\xff\u00e9*/"})
	hasParts(t, "/* /* */ */", part{lex.Note, "/* /* */"}, part{lex.Space, " "}, part{lex.Sign, "*"}, part{lex.Bad, "/"})
	hasParts(t, "/ **/", part{lex.Bad, "/"}, part{lex.Space, " "}, part{lex.Sign, "*"}, part{lex.Sign, "*"}, part{lex.Bad, "/"})
}

func TestOpenNotes(t *testing.T) {
	for _, s := range []string{"/*", "/*/", "/**", "/* a b\n1", "/* *", "/* * /", "/*//", "/*\n", "/*\xff", "/*/ /", "/*" + strings.Repeat("*", 9999), "/*" + strings.Repeat("/ * ", 9999), "/*" + strings.Repeat("/", 9999)} {
		hasParts(t, s, part{lex.Bad, s})
		hasParts(t, "a "+s, part{lex.Name, "a"}, part{lex.Space, " "}, part{lex.Bad, s})
		hasParts(t, "/**/"+s, part{lex.Note, "/**/"}, part{lex.Bad, s})
	}
}

func TestPrinter(t *testing.T) {
	hasParts(t, printer, part{lex.Key, printer})
	for _, c := range []struct {
		kind lex.Kind
		s    string
	}{{lex.Sign, "("}, {lex.Sign, "."}, {lex.Sign, "&&"}, {lex.Space, " "}, {lex.Space, "\n"}, {lex.Note, "//"}, {lex.Note, "/**/"}, {lex.Bad, "\x00"}, {lex.Bad, "\xff"}, {lex.Bad, "$"}, {lex.Bad, "/"}} {
		hasParts(t, printer+c.s, part{lex.Key, printer}, part{c.kind, c.s})
	}
	for _, more := range []string{"a", "Z", "_", "0", "9", "1a", "println"} {
		hasParts(t, printer+more, part{lex.Name, "System"}, part{lex.Sign, "."}, part{lex.Name, "out"}, part{lex.Sign, "."}, part{lex.Name, "println" + more})
	}
	hasParts(t, printer+"."+printer, part{lex.Key, printer}, part{lex.Sign, "."}, part{lex.Key, printer})
	hasParts(t, "x"+printer, part{lex.Name, "xSystem"}, part{lex.Sign, "."}, part{lex.Name, "out"}, part{lex.Sign, "."}, part{lex.Name, "println"})
	hasParts(t, "1"+printer, part{lex.Bad, "1System"}, part{lex.Sign, "."}, part{lex.Name, "out"}, part{lex.Sign, "."}, part{lex.Name, "println"})
	hasParts(t, "."+printer, part{lex.Sign, "."}, part{lex.Key, printer})
	hasParts(t, "System.out.println"+strings.Repeat("n", 58), part{lex.Name, "System"}, part{lex.Sign, "."}, part{lex.Name, "out"}, part{lex.Sign, "."}, part{lex.Bad, "println" + strings.Repeat("n", 58)})
}

func TestBeginningsOfPrinter(t *testing.T) {
	hasParts(t, "System", part{lex.Name, "System"})
	hasParts(t, "System.", part{lex.Name, "System"}, part{lex.Sign, "."})
	hasParts(t, "System.out", part{lex.Name, "System"}, part{lex.Sign, "."}, part{lex.Name, "out"})
	hasParts(t, "System.out.", part{lex.Name, "System"}, part{lex.Sign, "."}, part{lex.Name, "out"}, part{lex.Sign, "."})
	hasParts(t, "System.out.print", part{lex.Name, "System"}, part{lex.Sign, "."}, part{lex.Name, "out"}, part{lex.Sign, "."}, part{lex.Name, "print"})
	hasParts(t, "System .out", part{lex.Name, "System"}, part{lex.Space, " "}, part{lex.Sign, "."}, part{lex.Name, "out"})
	hasParts(t, "out.println", part{lex.Name, "out"}, part{lex.Sign, "."}, part{lex.Name, "println"})
	for n := range len(printer) {
		for _, s := range []string{printer[:n], printer[n:], printer[:n] + " " + printer[n:], printer[:n] + "/**/" + printer[n:], printer[:n] + printer[n+1:]} {
			asks(t, s)
			if slices.ContainsFunc(lex.List(s), func(x lex.Token) bool { return x.Kind == lex.Key }) != (s == printer || s == " "+printer || s == "/**/"+printer) {
				t.Errorf("%q: %v", s, lex.List(s))
			}
		}
		for c := range 256 {
			asks(t, printer[:n]+one(byte(c))+printer[n+1:])
			asks(t, printer[:n]+one(byte(c))+printer[n:])
		}
	}
	for c := range 256 {
		asks(t, printer+one(byte(c)))
		asks(t, one(byte(c))+printer)
	}
}

func TestKeywords(t *testing.T) {
	for _, k := range keywords() {
		hasParts(t, k, part{lex.Key, k})
		hasParts(t, k+" "+k, part{lex.Key, k}, part{lex.Space, " "}, part{lex.Key, k})
		for _, more := range []string{"a", "Z", "_", "0", "9", k} {
			hasParts(t, k+more, part{lex.Name, k + more})
		}
		hasParts(t, "_"+k, part{lex.Name, "_" + k})
		hasParts(t, "1"+k, part{lex.Bad, "1" + k})
		hasParts(t, k[:len(k)-1], part{lex.Name, k[:len(k)-1]})
		hasParts(t, k+".", part{lex.Key, k}, part{lex.Sign, "."})
	}
	for _, s := range []string{"Class", "string", "INT", "Main", "interface", "null", "println"} {
		hasParts(t, s, part{lex.Name, s})
	}
}

func TestWordsByLength(t *testing.T) {
	for n := 1; n <= 130; n++ {
		kind := lex.Name
		if n > 64 {
			kind = lex.Bad
		}
		for _, s := range []string{strings.Repeat("a", n), strings.Repeat("_", n), "Z" + strings.Repeat("9", n-1)} {
			hasParts(t, s, part{kind, s})
			hasParts(t, s+";", part{kind, s}, part{lex.Sign, ";"})
			hasParts(t, "."+s+" ", part{lex.Sign, "."}, part{kind, s}, part{lex.Space, " "})
		}
	}
	long := strings.Repeat("a", 1<<18)
	hasParts(t, long, part{lex.Bad, long})
}

func TestNumbers(t *testing.T) {
	for _, s := range []string{"0", "1", "9", "10", "100", "999999999", "1000000000", "1999999999", "2147483646", most} {
		hasParts(t, s, part{lex.Figure, s})
		hasParts(t, "-"+s+".", part{lex.Sign, "-"}, part{lex.Figure, s}, part{lex.Sign, "."})
	}
	for _, s := range []string{
		"00", "01", "007", "0" + most, "000000000000", "2147483648", "2147483650", "2147483700", "2200000000", "3000000000", "4294967296", "9999999999", "10000000000", "18446744073709551616", "18446744073709551617",
		"1a", "0x", "0_", "1_000", "9A", "1e3", "0class", "1System", most + "a", strings.Repeat("1", 64), strings.Repeat("9", 1<<16), "1" + strings.Repeat("a", 64),
	} {
		hasParts(t, s, part{lex.Bad, s})
		hasParts(t, "("+s+")", part{lex.Sign, "("}, part{lex.Bad, s}, part{lex.Sign, ")"})
	}
	hasParts(t, "1.0", part{lex.Figure, "1"}, part{lex.Sign, "."}, part{lex.Figure, "0"})
	hasParts(t, "1 a", part{lex.Figure, "1"}, part{lex.Space, " "}, part{lex.Name, "a"})
}

func TestSigns(t *testing.T) {
	if len(signs) != 15 {
		t.Fatal(len(signs))
	}
	for _, s := range append(bytesOf(signs), "&&") {
		hasParts(t, s, part{lex.Sign, s})
		hasParts(t, s+s, part{lex.Sign, s}, part{lex.Sign, s})
		hasParts(t, "a"+s+"1", part{lex.Name, "a"}, part{lex.Sign, s}, part{lex.Figure, "1"})
		for _, next := range append(bytesOf(signs), "&&") {
			hasParts(t, s+next, part{lex.Sign, s}, part{lex.Sign, next})
		}
	}
	hasParts(t, "&", part{lex.Bad, "&"})
	hasParts(t, "&&&", part{lex.Sign, "&&"}, part{lex.Bad, "&"})
	hasParts(t, "&&&&", part{lex.Sign, "&&"}, part{lex.Sign, "&&"})
	hasParts(t, "& &", part{lex.Bad, "&"}, part{lex.Space, " "}, part{lex.Bad, "&"})
	hasParts(t, "&a", part{lex.Bad, "&"}, part{lex.Name, "a"})
	hasParts(t, "/", part{lex.Bad, "/"})
	hasParts(t, "a/b", part{lex.Name, "a"}, part{lex.Bad, "/"}, part{lex.Name, "b"})
	hasParts(t, "*", part{lex.Sign, "*"})
	hasParts(t, "*/", part{lex.Sign, "*"}, part{lex.Bad, "/"})
	hasParts(t, "==", part{lex.Sign, "="}, part{lex.Sign, "="})
	hasParts(t, "<=", part{lex.Sign, "<"}, part{lex.Sign, "="})
	hasParts(t, "||", part{lex.Bad, "|"}, part{lex.Bad, "|"})
}

// Each byte alone, and what it makes of what stands ahead of it and behind it.
func TestEachByte(t *testing.T) {
	single := map[lex.Kind]int{}
	for n := range 256 {
		b := one(byte(n))
		list := lex.List(b)
		if len(list) != 1 || list[0].From != 0 || list[0].To != 1 {
			t.Fatalf("%q: %v", b, list)
		}
		single[list[0].Kind]++
		if n >= 128 {
			hasParts(t, b+b, part{lex.Bad, b}, part{lex.Bad, b})
			hasParts(t, "a"+b+"1", part{lex.Name, "a"}, part{lex.Bad, b}, part{lex.Figure, "1"})
		}
		for _, s := range []string{b, b + b, "a" + b, b + "a", "a" + b + "a", "1" + b, b + "1", "&" + b, b + "&", "/" + b, b + "/", "/*" + b, "/*" + b + "*/", "/*" + b + "/", "//" + b + "x", " " + b + " ", printer + b + "("} {
			asks(t, s)
			exchanges(t, s)
		}
	}
	want := map[lex.Kind]int{lex.Space: 4, lex.Name: 53, lex.Figure: 10, lex.Sign: 15, lex.Bad: 256 - 4 - 53 - 10 - 15}
	for k := lex.Space; k <= lex.Bad; k++ {
		if single[k] != want[k] {
			t.Errorf("%d bytes are of kind %d alone, want %d", single[k], k, want[k])
		}
	}
	hasParts(t, "\u00e9", part{lex.Bad, "\xc3"}, part{lex.Bad, "\xa9"})
}

func TestShortTexts(t *testing.T) {
	for _, s := range texts(bytesOf("/*\n a"), 6) {
		asks(t, s)
	}
	for _, s := range texts(bytesOf("a0/*& \n.\xff"), 4) {
		asks(t, s)
	}
	for _, s := range texts(bytesOf("01if_&"), 5) {
		asks(t, s)
	}
}

func parts() []string {
	return []string{"System", "out", "println", printer, ".", "a", "int", "1", "007", most, " ", "\n", "//", "/*", "*/", "&&", "&", ";", "\x00"}
}

func TestPartsInEachOrder(t *testing.T) {
	for _, s := range texts(parts(), 3) {
		asks(t, s)
	}
	for _, s := range texts([]string{"System", ".", "out", "println", " ", "x"}, 5) {
		asks(t, s)
	}
}

func TestNamesExchanged(t *testing.T) {
	for _, s := range texts(parts(), 3) {
		exchanges(t, s)
	}
	for _, s := range texts([]string{"System", ".", "out", "println", "x"}, 5) {
		exchanges(t, s)
	}
	for _, s := range texts(bytesOf("a/*\n&0"), 4) {
		exchanges(t, s)
	}
}

// The three names that are left out may join the tokens about them, and only as System.out.println.
func TestNamesLeftOut(t *testing.T) {
	for _, s := range []string{"a.out.println", "System.a.println", "System.out.a"} {
		hasParts(t, s, partsOf(s)...)
		exchanges(t, s)
	}
	hasParts(t, printer, part{lex.Key, printer})
	for _, s := range []string{"a.out.a", "a.a.println", "a . out . println", "a.out/**/.println"} {
		for _, name := range []string{"System", "out", "println"} {
			now := name + s[1:]
			want := told(s)
			want[0] = one(byte('0'+lex.Name)) + name
			if got := told(now); !slices.Equal(got, want) {
				t.Errorf("%q: %q, want %q", now, got, want)
			}
		}
	}
}

// partsOf is names with dots between them.
func partsOf(s string) []part {
	var out []part
	for i, name := range strings.Split(s, ".") {
		if i > 0 {
			out = append(out, part{lex.Sign, "."})
		}
		out = append(out, part{lex.Name, name})
	}
	return out
}

func TestReal(t *testing.T) {
	for _, c := range []struct {
		s    string
		list []lex.Token
		at   int
		err  error
	}{
		{" a /* b */ 1//", []lex.Token{{Kind: lex.Name, From: 1, To: 2}, {Kind: lex.Figure, From: 11, To: 12}}, 0, nil},
		{" \n//a\n/*b*/", nil, 0, nil},
		{printer + ";", []lex.Token{{Kind: lex.Key, From: 0, To: 18}, {Kind: lex.Sign, From: 18, To: 19}}, 0, nil},
		{"\x00", nil, 0, api.ErrForm},
		{"a \x00", nil, 2, api.ErrForm},
		{"a 1a 007 /*", nil, 2, api.ErrForm},
		{"ab/*c", nil, 2, api.ErrForm},
		{"//\x00\n/*&*/&", nil, 9, api.ErrForm},
		{strings.Repeat("a", 64) + "." + strings.Repeat("a", 65), nil, 65, api.ErrForm},
	} {
		list, at, err := lex.Real(c.s)
		if !slices.Equal(list, c.list) || at != c.at || err != c.err {
			t.Errorf("Real(%q) = %v, %d, %v", c.s, list, at, err)
		}
		if lex.Clean(c.s) != (c.err == nil) {
			t.Errorf("Clean(%q) = %v", c.s, lex.Clean(c.s))
		}
	}
}

func TestText(t *testing.T) {
	s := "abc\xff"
	places := []int{math.MinInt, math.MinInt32, -1, 0, 1, 2, 3, 4, 5, math.MaxInt32, math.MaxInt}
	for _, from := range places {
		for _, to := range places {
			want := ""
			if 0 <= from && from <= to && to <= len(s) {
				want = s[from:to]
			}
			// What kind a token says it is of does not matter to its text.
			for _, kind := range []lex.Kind{lex.Name, lex.Bad, 0, -1, 8, math.MinInt} {
				x := lex.Token{Kind: kind, From: from, To: to}
				if got := x.Text(s); got != want {
					t.Errorf("%v.Text(%q) = %q, want %q", x, s, got, want)
				}
				if got := lex.Join(s, x); got != want {
					t.Errorf("Join(%q, %v) = %q, want %q", s, x, got, want)
				}
			}
		}
	}
	if got := (lex.Token{From: 0, To: 1}).Text(""); got != "" {
		t.Errorf("%q", got)
	}
}

func TestJoin(t *testing.T) {
	s := "ab = 12;"
	list := lex.List(s)
	real, _, _ := lex.Real(s)
	if got := lex.Join(s, real...); got != "ab=12;" {
		t.Errorf("real ones: %q", got)
	}
	slices.Reverse(list)
	if got := lex.Join(s, list...); got != ";12 = ab" {
		t.Errorf("the last one first: %q", got)
	}
	if got := lex.Join(s, real[0], real[0], real[3], real[0]); got != "abab;ab" {
		t.Errorf("some of them again: %q", got)
	}
	wrong := []lex.Token{real[0], {From: 5, To: 4}, {From: -1, To: 2}, {From: 7, To: 9}, {From: 2, To: 6}, {}}
	if got := lex.Join(s, wrong...); got != "ab = 1" {
		t.Errorf("wrong ones among them: %q", got)
	}
	other := lex.List("abcdefg+1 - 2")
	if got := lex.Join(s, other...); got != s[:7]+s[7:8] {
		t.Errorf("those of another text: %q", got)
	}
	if got := lex.Join("", list...); got != "" {
		t.Errorf("of the empty text: %q", got)
	}
}

func TestLeftEarly(t *testing.T) {
	s := "a = 1 ; // x\n\x00/* y"
	want := plainTokens(s)
	all := lex.All(s)
	for leave := 1; leave <= len(want); leave++ {
		var got []lex.Token
		for x := range all {
			got = append(got, x)
			if len(got) == leave {
				break
			}
		}
		if !slices.Equal(got, want[:leave]) {
			t.Errorf("left behind token %d: %v", leave, got)
		}
		calls := 0
		all(func(lex.Token) bool {
			calls++
			return calls < leave
		})
		if calls != leave {
			t.Errorf("told %d tokens to one who left behind %d", calls, leave)
		}
	}
}

func TestGoneThroughTwice(t *testing.T) {
	s := "class A { /* x */ } 007"
	want := plainTokens(s)
	all := lex.All(s)
	for range 2 {
		if got := slices.Collect(all); !slices.Equal(got, want) {
			t.Errorf("%v", got)
		}
	}
	n := 0
	for range all {
		for x := range all {
			if x != want[n%len(want)] {
				t.Fatalf("one range within another: token %d is %v", n, x)
			}
			n++
		}
	}
	if n != len(want)*len(want) {
		t.Errorf("one range within another: %d tokens", n)
	}
}

// What is handed in stays as it was, and what is done with an answer is not seen by who asks later.
func TestMemory(t *testing.T) {
	s := "a = b;"
	want := plainTokens(s)
	real, _, _ := lex.Real(s)
	list := lex.List(s)
	clear(list[:cap(list)])
	clear(real[:cap(real)])
	if got := lex.List(s); !slices.Equal(got, want) {
		t.Errorf("%v", got)
	}
	if got, _, _ := lex.Real(s); len(got) != 4 || got[0] != want[0] {
		t.Errorf("%v", got)
	}
	room := append(make([]lex.Token, 0, 20), want...)
	whole := slices.Clone(room[:cap(room)])
	if lex.Join(s, room...) != s || !slices.Equal(room[:cap(room)], whole) {
		t.Errorf("%v", room[:cap(room)])
	}
}

func TestLargeTexts(t *testing.T) {
	for _, part := range []string{"/", "&", "*", "a", "0", " ", "\xff", "a ", "/*", "*/", "/**/", "//\n", "System", "System.out.", printer, printer + " ", printer + "1.", "a.", "&&&"} {
		s := strings.Repeat(part, 20000)
		isWhole(t, s)
		_, bad := firstBad(lex.List(s))
		if lex.Clean(s) == bad {
			t.Errorf("%q again and again: %v", part, bad)
		}
	}
}
