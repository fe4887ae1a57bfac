package decl_test

import (
	"reflect"
	"slices"
	"strconv"
	"strings"
	"testing"

	"namesake/api"
	"namesake/cursor"
	"namesake/decl"
	"namesake/tree"
)

// From each token of some texts on, within few and many constructs.
func TestClassInTheMidst(t *testing.T) {
	for _, text := range append(each(),
		"} class A { int a ; } class B", "public static class A { public int m ( ) { return ( a ) ; } } ;", "a b class M { public static void main ( String [ ] a ) { { a = b ; } } } int c ;",
		"class class A { class B { } }", "{ { class A extends B { B a ; int 7 ; } }",
	) {
		tokens := strings.Fields(text)
		for _, g := range gaps() {
			s := spaced(tokens, g...)
			for from := range len(tokens) + 1 {
				for _, base := range []int{0, 1, mostDeep - 2, mostDeep - 1, mostDeep} {
					asksClass(t, s, from, base)
				}
			}
		}
	}
}

// Classes, methods and parameters are no constructs, so within the deepest one there may be all but statements and what expressions have of their own.
func TestClassWithinTheDeepest(t *testing.T) {
	for _, x := range []struct {
		s    string
		most int // within how many constructs it is read
	}{
		{"class A { int a; public int m(int a, A b) { A c; return a + b * c; } }", mostDeep}, {"class M { public static void main(String[] a) { } }", mostDeep},
		{"class A { public int m() { @{ } return a; } }", mostDeep - 1}, {"class A { public int m() { return @(a); } }", mostDeep - 1}, {"class M { public static void main(String[] a) { @b = c; } }", mostDeep - 1},
		{"class M { public static void main(String[] a) { { } { @{ } } } }", mostDeep - 2}, {"class A { public int m() { a = b; return !@!c; } }", mostDeep - 2},
	} {
		s, at := marked(x.s)
		for _, base := range []int{0, 1, x.most - 1, x.most} {
			c := ready(t, sample{end: s}, 0, base)
			if n := decl.Class(c); n.Kind == 0 || c.Deep() != base || c.Left() != 0 {
				t.Errorf("%q within %d: %s, within %d then", s, base, shape(n), c.Deep())
			}
		}
		if x.most == mostDeep {
			continue
		}
		c := ready(t, sample{end: s}, 0, x.most+1)
		if failed, err := zeroClass(t, c); failed != at || err != api.ErrDeep || c.Deep() != x.most+1 {
			t.Errorf("%q within %d: %d, %v, within %d then", s, x.most+1, failed, err, c.Deep())
		}
	}
}

// One cursor is asked again and again.
func TestClassAgainAndAgain(t *testing.T) {
	c, _, err := cursor.New(" class A { } class M { public static void main(String[] a) { } } class B extends A { int b; } ; class C { } // end")
	if err != nil {
		t.Fatal(err)
	}
	for _, x := range []struct {
		want     string
		at, left int
	}{
		{"<Class class A { }>", 13, 30}, {"<Main class M { public static void main ( String [ ] a ) { } }>", 65, 14}, {"<Class class B extends A { <Field <Type int> b ;> }>", 94, 5},
	} {
		if n := decl.Class(c); shape(n) != x.want || c.At() != x.at || c.Left() != x.left || c.Deep() != 0 {
			t.Errorf("%s, at %d, %d left, want %s, at %d, %d left", shape(n), c.At(), c.Left(), x.want, x.at, x.left)
		}
	}
	c.Want(";")
	if n := decl.Class(c); shape(n) != "<Class class C { }>" || !tree.Stands(n, 95) || c.Left() != 0 || c.End() != " // end" {
		t.Error(shape(n), c.Left(), c.End())
	}
	for range 2 {
		if at, err := zeroClass(t, c); at != 114 || err != api.ErrForm || c.End() != "" {
			t.Error(at, err, c.End())
		}
	}
}

// What has failed stays as it failed: nothing is read, however right the text is.
func TestClassBehindAFailure(t *testing.T) {
	for _, text := range each() {
		s := spaced(strings.Fields(text), " ")
		for _, fault := range []api.Errno{api.ErrDup, api.ErrForm, api.ErrDeep, api.ErrState} {
			for _, base := range []int{0, 3, mostDeep} {
				c := ready(t, s, 0, base)
				c.Fail(fault)
				for range 2 {
					if at, err := zeroClass(t, c); at != 1 || err != fault || c.Deep() != base || c.Left() != 0 {
						t.Errorf("%s: %d, %v, within %d", text, at, err, c.Deep())
					}
				}
			}
		}
	}
	// It tells of the first failure, and what was right by then isn't answered.
	c := ready(t, sample{end: "class A { int a; int 7; } class B { }"}, 0, 2)
	for range 3 {
		if at, err := zeroClass(t, c); at != 21 || err != api.ErrForm || c.Deep() != 2 {
			t.Error(at, err, c.Deep())
		}
	}
}

func TestClassOfNil(t *testing.T) {
	for range 2 {
		if at, err := zeroClass(t, nil); at != 0 || err != api.ErrForm {
			t.Error(at, err)
		}
	}
}

// At a text's end there is no class, however much was taken ahead of it.
func TestClassAtTheEnd(t *testing.T) {
	for _, text := range each() {
		s := spaced(strings.Fields(text), " ", "", "/**/")
		c := ready(t, s, len(s.leaves), 1)
		if at, err := zeroClass(t, c); at != len(s.text()) || err != api.ErrForm || c.Deep() != 1 || c.End() != "" {
			t.Errorf("%s: %d, %v, within %d", text, at, err, c.Deep())
		}
	}
}

// workspace is files of these texts, in order.
func workspace(texts ...string) []api.File {
	var list []api.File
	for i, s := range texts {
		list = append(list, api.File{Name: "F" + strconv.Itoa(i) + ".java", Text: s})
	}
	return list
}

func TestAll(t *testing.T) {
	main := "class M { public static void main(String[] a) { } }"
	eight := strings.Split(strings.Repeat("class A { int a; }\n|", 7)+main, "|")
	for _, texts := range [][]string{
		{""}, {" // a\n"}, {"class A { }"}, {"class A { } ", " class A { int b; } class B extends A { }\n", main}, {"", "class A { }", "", ""}, {main, main}, eight, {strings.Repeat(" ", mostBytes), "class A { }"},
	} {
		list, pos, err := decl.All(workspace(texts...))
		if len(list) != len(texts) || pos != (api.Pos{}) || err != nil {
			t.Errorf("%.300q: %d, %v, %v", texts, len(list), pos, err)
			continue
		}
		for i, s := range texts {
			p, _, err := decl.Read(s)
			if err != nil || !reflect.DeepEqual(list[i], p) {
				t.Errorf("%.300q: of file %d %s, %q, %v", texts, i, short(list[i].Tree), list[i].Tail, err)
			}
			asksStands(t, list[i], s)
		}
	}
}

// Of several files that fail the first one's failure is told.
func TestAllFails(t *testing.T) {
	deep := "class M { public static void main(String[] a) { " + strings.Repeat("{", mostDeep+1)
	for _, x := range []struct {
		texts []string
		pos   api.Pos
		err   error
	}{
		{[]string{"int"}, api.Pos{File: 0, At: 0}, api.ErrForm},
		{[]string{"class A { int }"}, api.Pos{File: 0, At: 14}, api.ErrForm},
		{[]string{"class A { }", "class ? "}, api.Pos{File: 1, At: 6}, api.ErrForm},
		{[]string{"class A { } }", "class A { }"}, api.Pos{File: 0, At: 12}, api.ErrForm},
		{[]string{"", "class A { }", deep}, api.Pos{File: 2, At: 48 + mostDeep}, api.ErrDeep},
		{[]string{"", deep, "?"}, api.Pos{File: 1, At: 48 + mostDeep}, api.ErrDeep},
		{[]string{"", "class A", deep}, api.Pos{File: 1, At: 7}, api.ErrForm},
		{[]string{"class A {", "}", "?"}, api.Pos{File: 0, At: 9}, api.ErrForm},
		{[]string{"", "", "", "", "", "", "", "/*"}, api.Pos{File: 7, At: 0}, api.ErrForm},
	} {
		if list, pos, err := decl.All(workspace(x.texts...)); len(list) != 0 || pos != x.pos || err != x.err {
			t.Errorf("%.300q: %d, %v, %v, want %v, %v", x.texts, len(list), pos, err, x.pos, x.err)
		}
	}
}

// A workspace that isn't right is answered ErrForm at no place, whatever its files say.
func TestAllOfNoWorkspace(t *testing.T) {
	large := strings.Repeat(" ", mostBytes+1)
	for _, list := range [][]api.File{
		nil, {}, make([]api.File, 1), make([]api.File, 9), workspace(make([]string, 9)...), workspace(large), workspace("class A { }", large), workspace("class A { int }", large), workspace("?", "", large),
		{{Name: "a", Text: "class A { }"}, {Name: "a", Text: "class B { }"}}, {{Name: "a", Text: "class ?"}, {Name: "a"}}, {{Name: "", Text: "class A { }"}}, {{Name: "a b"}}, {{Name: "a/b", Text: "?"}}, {{Name: strings.Repeat("a", 41)}}, {{Name: "a"}, {Name: "\xff"}},
	} {
		if all, pos, err := decl.All(list); len(all) != 0 || pos != (api.Pos{}) || err != api.ErrForm {
			t.Errorf("%.300q: %d, %v, %v", list, len(all), pos, err)
		}
	}
	if _, _, err := decl.All([]api.File{{Name: strings.Repeat("a", 40), Text: large[1:]}}); err != nil {
		t.Error(err)
	}
}

// deepTree is a tree of that depth, whose one leaf is a name.
func deepTree(depth int) tree.Node {
	n := leaf("", "a", 0)
	for range depth {
		n = node(tree.Paren, n)
	}
	return n
}

// wrongTrees are trees that aren't right.
func wrongTrees() []tree.Node {
	a := leaf(" ", "a", 1)
	wide := make([]tree.Node, 20000)
	for i := range wide {
		wide[i] = leaf("", "a", i)
	}
	return []tree.Node{
		{}, {Kind: -1}, {Kind: tree.Paren + 1, Kids: []tree.Node{a}}, {Kind: tree.File, Text: "a", Kids: []tree.Node{a}}, {Kind: tree.File, Gap: " ", Kids: []tree.Node{a}}, {Kind: tree.File, At: 1, Kids: []tree.Node{a}},
		leaf(" ", "", 1), leaf(" ", "a", -1), {Kind: tree.Leaf, Text: "a", Kids: []tree.Node{a}}, node(tree.File, a, tree.Node{}), node(tree.File, a, node(tree.Class, a, leaf("", "", 2))), node(tree.File, wide...),
	}
}

// The text is the tree's text, and the tail; the text of a tree that isn't right is empty.
func TestTextOfOthers(t *testing.T) {
	for _, x := range []struct {
		p    decl.Parsed
		want string
	}{
		{decl.Parsed{Tree: node(tree.File), Tail: "?"}, "?"}, {decl.Parsed{Tree: node(tree.File)}, ""}, {decl.Parsed{Tree: leaf(" ", "a", 7)}, " a"}, {decl.Parsed{Tree: node(tree.Not, leaf("?", "b c", 0), leaf("", "!", 0)), Tail: "d"}, "?b c!d"},
		{decl.Parsed{Tree: deepTree(9999), Tail: "b"}, "ab"},
	} {
		if got := decl.Text(x.p); got != x.want {
			t.Errorf("Text(%.300v) = %q, want %q", x.p, got, x.want)
		}
	}
	for i, n := range wrongTrees() {
		for _, tail := range []string{"", " a", "class A { }"} {
			if got := decl.Text(decl.Parsed{Tree: n, Tail: tail}); got != tail {
				t.Errorf("tree %d, %q: %q", i, tail, got)
			}
		}
	}
}

// names are the names' texts of a file.
func names(p decl.Parsed) []string {
	var list []string
	for l := range decl.Names(p) {
		list = append(list, l.Text)
	}
	return list
}

func TestNames(t *testing.T) {
	for _, x := range [][2]string{
		{"class A extends B { C c; int d; int[] e; public F g(H h, boolean i) { J j; j = new K(); k[l] = m.n(o, 1).length; return this.p(true); } }", "A B C c d e F g H h i J j j K k l m n o p"},
		{"class M { public static void main(String[] args) { " + printer + "(a); System = out + println; while (!b) { } if (c && d) { } else { } } }", "M args a System out println b c d"},
		{"class A { } // class B { }\nclass /* C */ D { }", "A D"}, {"class A { A A; public A A(A A) { A A; A = A; return A; } }", "A A A A A A A A A A A A"},
	} {
		p, _, err := decl.Read(x[0])
		if err != nil {
			t.Fatal(x[0], err)
		}
		if got := strings.Join(names(p), " "); got != x[1] {
			t.Errorf("%q: %s, want %s", x[0], got, x[1])
		}
		for l := range decl.Names(p) {
			if l.Kind != tree.Leaf || len(l.Kids) != 0 || x[0][l.At:l.At+len(l.Text)] != l.Text || !strings.HasSuffix(x[0][:l.At], l.Gap) {
				t.Errorf("%q: %+v", x[0], l)
			}
		}
	}
}

// Of trees made by hand: the leaves whose texts are names, whatever else the trees say.
func TestNamesOfOthers(t *testing.T) {
	long := strings.Repeat("a", 64)
	kids := []tree.Node{leaf("?", "a", 9), leaf("", "class", 3), leaf("", "a b", 0), leaf("", " a", 0), leaf("", "a1", 0), leaf("", "1a", 0), leaf("", "1", 0), leaf("", "_", 4), leaf("", "length", 4), leaf("", "Length", 4), leaf("", printer, 0), leaf("", "System", 0), leaf("", "\xc3\xa4", 0), leaf("", "+", 0), leaf("", "?", 0), leaf("", "//a", 0), leaf("", " ", 0), leaf("", long, 0), leaf("", long+"a", 0), leaf("x", "a", 9)}
	n := node(tree.If, node(tree.File), node(tree.Number, kids[:8]...), node(tree.Class, node(tree.This, kids[8:]...)), leaf("", "B", 1))
	want := []tree.Node{leaf("?", "a", 9), leaf("", "a1", 0), leaf("", "_", 4), leaf("", "Length", 4), leaf("", "System", 0), leaf("", long, 0), leaf("x", "a", 9), leaf("", "B", 1)}
	if got := slices.Collect(decl.Names(decl.Parsed{Tree: n, Tail: "c"})); !slices.EqualFunc(got, want, equal) {
		t.Errorf("%+v, want %+v", got, want)
	}
	if got := names(decl.Parsed{Tree: leaf("", "a", 0)}); !slices.Equal(got, []string{"a"}) {
		t.Error(got)
	}
	if got := names(decl.Parsed{Tree: deepTree(9999)}); !slices.Equal(got, []string{"a"}) {
		t.Error(got)
	}
	for i, n := range wrongTrees() {
		if got := names(decl.Parsed{Tree: n, Tail: "a"}); len(got) != 0 {
			t.Errorf("tree %d: %q", i, got)
		}
	}
}

// Names may be left at each name, ranged over again, and ranged over within themselves.
func TestNamesLeftEarly(t *testing.T) {
	p, _, err := decl.Read("class A extends B { C c; public D d() { return d; } }")
	if err != nil {
		t.Fatal(err)
	}
	want := names(p)
	all := decl.Names(p)
	for most := range len(want) {
		var got []string
		for l := range all {
			got = append(got, l.Text)
			if len(got) > most {
				break
			}
		}
		if !slices.Equal(got, want[:most+1]) {
			t.Errorf("left behind %d: %q", most+1, got)
		}
	}
	pairs := 0
	for range all {
		for range all {
			pairs++
		}
	}
	if pairs != len(want)*len(want) || len(want) != 7 {
		t.Error(pairs, want)
	}
}

// spoil changes all of some trees, and what room their lists have.
func spoil(list []tree.Node) {
	room := list[:cap(list)]
	for i := range room {
		spoil(room[i].Kids)
		room[i] = tree.Node{Kind: -7, Gap: "spoilt", Text: "spoilt", At: -7}
	}
}

// Names are those of the tree as it was handed in, and who changes what is told of changes no tree.
func TestNamesAreNew(t *testing.T) {
	s := "class A extends B { C c; }"
	p, _, _ := decl.Read(s)
	all := decl.Names(p)
	for l := range all {
		l.Text, l.Kids = "spoilt", append(l.Kids, leaf("", "spoilt", 0))
		spoil(l.Kids)
	}
	asksStands(t, p, s)
	spoil(p.Tree.Kids)
	p.Tree = tree.Node{}
	var got []string
	for l := range all {
		got = append(got, l.Text)
	}
	if !slices.Equal(got, []string{"A", "B", "C", "c"}) {
		t.Error(got)
	}
}

// Text and Names change nothing of what is handed in, its lists' spare room included.
func TestParsedStays(t *testing.T) {
	make1 := func() decl.Parsed {
		room := make([]tree.Node, 2, 4)
		room[0], room[1] = leaf(" ", "a", 1), node(tree.Ident, leaf("", "b", 2))
		copy(room[2:4], []tree.Node{leaf("", "c", 3), leaf("", "d", 4)})
		return decl.Parsed{Tree: node(tree.File, room...), Tail: "e"}
	}
	p, q := make1(), make1()
	decl.Text(p)
	for range decl.Names(p) {
	}
	if !reflect.DeepEqual(p, q) || !reflect.DeepEqual(p.Tree.Kids[:4], q.Tree.Kids[:4]) {
		t.Errorf("%+v", p.Tree.Kids[:4])
	}
}

// Who changes an answer changes no other one, nor what is read later.
func TestAnswersAreNew(t *testing.T) {
	for _, text := range each() {
		s := spaced(strings.Fields(text), " ")
		want := follow(t, s, 0, 0, "<File CLASSES >").open[0].Kids[0]
		one, _, _ := decl.Read(s.text())
		two, _, _ := decl.Read(s.text())
		spoil(one.Tree.Kids)
		three, _, _ := decl.Read(s.text())
		if !equal(two.Tree, want) || !equal(three.Tree, want) {
			t.Errorf("%s: %s, %s", text, short(two.Tree), short(three.Tree))
		}
		list := workspace(s.text(), s.text())
		first, _, _ := decl.All(list)
		spoil(first[0].Tree.Kids)
		if second, _, _ := decl.All(list); !equal(first[1].Tree, want) || !equal(second[0].Tree, want) {
			t.Errorf("All of %s: %s, %s", text, short(first[1].Tree), short(second[0].Tree))
		}
		twice := spaced(append(strings.Fields(text), strings.Fields(text)...), " ")
		c := ready(t, twice, 0, 0)
		n := decl.Class(c)
		at := c.Left()
		spoil(n.Kids)
		next := follow(t, twice, len(twice.leaves)-at, 0, "CLASS").open[0].Kids[0]
		if n := decl.Class(c); !equal(n, next) {
			t.Errorf("%s: the second class is %s", text, short(n))
		}
	}
}

// Lists are taken with their spare room.
func TestListsShareNothing(t *testing.T) {
	for _, text := range append(each(), filled("class A{", "int a;", "}"), filled("", "class A{}", ""), filled("class A{public int m(", "A a,", "A a){return a;}}"), filled("class A{", "public A m(A a){int b;{}return a;}", "}")) {
		asksShared(t, text, func() []tree.Node {
			p, _, err := decl.Read(text)
			if err != nil {
				t.Error(text, err)
			}
			return p.Tree.Kids
		})
		asksShared(t, text, func() []tree.Node {
			c, _, _ := cursor.New(text)
			return decl.Class(c).Kids
		})
		asksShared(t, text, func() []tree.Node {
			list, _, _ := decl.All(workspace(text, text, text))
			var all []tree.Node
			for _, p := range list {
				all = append(all, p.Tree)
			}
			return all
		})
	}
}

// asksShared asks that no place in memory is in two lists of one answer, or of two.
func asksShared(t *testing.T, text string, read func() []tree.Node) {
	t.Helper()
	seen := map[*tree.Node]bool{}
	var look func(list []tree.Node)
	look = func(list []tree.Node) {
		room := list[:cap(list)]
		for i := range room {
			if seen[&room[i]] {
				t.Fatalf("%.300s: a place in memory is in two lists", text)
			}
			seen[&room[i]] = true
			look(room[i].Kids)
		}
	}
	look(read())
	look(read())
}

// What is handed in stays as it was, and what changes later changes no answer.
func TestFilesStay(t *testing.T) {
	room := append(workspace("class A { int a; } ", "class B { }"), workspace("spare")...)
	list := room[:2]
	before := slices.Clone(room)
	all, _, err := decl.All(list)
	if err != nil || !slices.Equal(room, before) {
		t.Errorf("%v, %v", room, err)
	}
	for i := range room {
		room[i] = api.File{Name: "spoilt", Text: "spoilt"}
	}
	for i, p := range all {
		asksStands(t, p, before[i].Text)
	}
	bytes := []byte("class A { int a; } // end")
	text := string(bytes)
	p, _, _ := decl.Read(string(bytes))
	for i := range bytes {
		bytes[i] = '?'
	}
	asksStands(t, p, text)
}

// Whoever asks again is told the same, and two cursors know nothing of each other.
func TestTheSame(t *testing.T) {
	for _, text := range append(each(), "class A", "class A { } }", "?", "", "class M { public static void main(String[] a) { "+strings.Repeat("{", mostDeep+1), strings.Repeat(" ", mostBytes+1)) {
		p, at, err := decl.Read(text)
		list, pos, fault := decl.All(workspace("", text))
		for range 3 {
			q, at2, err2 := decl.Read(text)
			list2, pos2, fault2 := decl.All(workspace("", text))
			if !reflect.DeepEqual(p, q) || at != at2 || err != err2 || !reflect.DeepEqual(list, list2) || pos != pos2 || fault != fault2 || !slices.Equal(names(p), names(q)) || decl.Text(p) != decl.Text(q) {
				t.Errorf("%.100q: %s, %d, %v, %v, %v", text, short(q.Tree), at2, err2, pos2, fault2)
			}
		}
	}
	s := spaced(strings.Fields("class A { int a ; } class B { } c"), " ")
	c, d := ready(t, s, 0, 0), ready(t, s, 0, 5)
	decl.Class(c)
	if c.Left() != 5 || d.Left() != 12 || d.Deep() != 5 || shape(decl.Class(d)) != "<Class class A { <Field <Type int> a ;> }>" {
		t.Error(c.Left(), d.Left(), d.Deep())
	}
}
