package decl_test

import (
	"math/rand"
	"reflect"
	"slices"
	"strings"
	"testing"

	"namesake/api"
	"namesake/cursor"
	"namesake/decl"
	"namesake/expr"
	"namesake/tree"
)

// written asks that a text is read as these classes, down to each leaf's gap, text and place.
func written(t *testing.T, s, tail string, classes ...tree.Node) {
	t.Helper()
	p, at, err := decl.Read(s)
	if !equal(p.Tree, node(tree.File, classes...)) || p.Tail != tail || at != 0 || err != nil {
		t.Errorf("Read(%q) = %+v, %q, %d, %v", s, p.Tree, p.Tail, at, err)
	}
	asksStands(t, p, s)
	c, _, _ := cursor.New(s)
	for _, want := range classes {
		if n := decl.Class(c); !equal(n, want) {
			t.Errorf("Class of %q: %+v", s, n)
		}
	}
	if _, err := c.Failed(); err != nil || c.End() != tail || c.Deep() != 0 {
		t.Errorf("Class of %q: %v, %q behind, within %d", s, err, c.End(), c.Deep())
	}
}

func number(gap, text string, at int) tree.Node { return node(tree.Number, leaf(gap, text, at)) }

func simple(gap, text string, at int) tree.Node { return node(tree.Type, leaf(gap, text, at)) }

func TestChapterExample(t *testing.T) {
	written(t, "class A { int x; public int m() { return 1; } }", "",
		node(tree.Class, leaf("", "class", 0), leaf(" ", "A", 6), leaf(" ", "{", 8),
			node(tree.Field, simple(" ", "int", 10), leaf(" ", "x", 14), leaf("", ";", 15)),
			node(tree.Method, leaf(" ", "public", 17), simple(" ", "int", 24), leaf(" ", "m", 28), leaf("", "(", 29), leaf("", ")", 30), leaf(" ", "{", 32),
				leaf(" ", "return", 34), number(" ", "1", 41), leaf("", ";", 42), leaf(" ", "}", 44)),
			leaf(" ", "}", 46)))
}

// Each kind of class alone, and one behind the other, with each leaf's gap, text and place.
func TestClassesWrittenOut(t *testing.T) {
	written(t, "class A{}", "", node(tree.Class, leaf("", "class", 0), leaf(" ", "A", 6), leaf("", "{", 7), leaf("", "}", 8)))
	written(t, " class/*{*/A extends// B\nB { }//", "//",
		node(tree.Class, leaf(" ", "class", 1), leaf("/*{*/", "A", 11), leaf(" ", "extends", 13), leaf("// B\n", "B", 25), leaf(" ", "{", 27), leaf(" ", "}", 29)))
	written(t, "class A{}class B{} ", " ",
		node(tree.Class, leaf("", "class", 0), leaf(" ", "A", 6), leaf("", "{", 7), leaf("", "}", 8)),
		node(tree.Class, leaf("", "class", 9), leaf(" ", "B", 15), leaf("", "{", 16), leaf("", "}", 17)))
	main := node(tree.Main, leaf("", "class", 0), leaf(" ", "M", 6), leaf("", "{", 7), leaf("", "public", 8), leaf(" ", "static", 15), leaf(" ", "void", 22), leaf(" ", "main", 27),
		leaf("", "(", 31), leaf("", "String", 32), leaf("", "[", 38), leaf("", "]", 39), leaf("", "a", 40), leaf("", ")", 41), leaf("", "{", 42), leaf("", "}", 43), leaf("", "}", 44))
	written(t, "class M{public static void main(String[]a){}}", "", main)
	written(t, "class M{public static void main(String[]a){}}/**/class A { }\n", "\n", main,
		node(tree.Class, leaf("/**/", "class", 49), leaf(" ", "A", 55), leaf(" ", "{", 57), leaf(" ", "}", 59)))
	written(t, "\nclass M {\n public static void main ( String [ ] a ) // b\n { c = 1; System.out.println(c); }\n}\n// end", "\n// end",
		node(tree.Main, leaf("\n", "class", 1), leaf(" ", "M", 7), leaf(" ", "{", 9), leaf("\n ", "public", 12), leaf(" ", "static", 19), leaf(" ", "void", 26), leaf(" ", "main", 31),
			leaf(" ", "(", 36), leaf(" ", "String", 38), leaf(" ", "[", 45), leaf(" ", "]", 47), leaf(" ", "a", 49), leaf(" ", ")", 51), leaf(" // b\n ", "{", 59),
			node(tree.Assign, leaf(" ", "c", 61), leaf(" ", "=", 63), number(" ", "1", 65), leaf("", ";", 66)),
			node(tree.Print, leaf(" ", printer, 68), leaf("", "(", 86), node(tree.Ident, leaf("", "c", 87)), leaf("", ")", 88), leaf("", ";", 89)),
			leaf(" ", "}", 91), leaf("\n", "}", 93)))
}

// Each kind of field, method and parameter, with each leaf's gap, text and place.
func TestMembersWrittenOut(t *testing.T) {
	written(t, "class A{int[]a; boolean // b\nb;B c;}", "",
		node(tree.Class, leaf("", "class", 0), leaf(" ", "A", 6), leaf("", "{", 7),
			node(tree.Field, node(tree.Type, leaf("", "int", 8), leaf("", "[", 11), leaf("", "]", 12)), leaf("", "a", 13), leaf("", ";", 14)),
			node(tree.Field, simple(" ", "boolean", 16), leaf(" // b\n", "b", 29), leaf("", ";", 30)),
			node(tree.Field, simple("", "B", 31), leaf(" ", "c", 33), leaf("", ";", 34)),
			leaf("", "}", 35)))
	written(t, "class A{public B m(A a){return a;}public int[]n(int[]b,boolean c){return b;}}", "",
		node(tree.Class, leaf("", "class", 0), leaf(" ", "A", 6), leaf("", "{", 7),
			node(tree.Method, leaf("", "public", 8), simple(" ", "B", 15), leaf(" ", "m", 17), leaf("", "(", 18),
				node(tree.Param, simple("", "A", 19), leaf(" ", "a", 21)), leaf("", ")", 22), leaf("", "{", 23),
				leaf("", "return", 24), node(tree.Ident, leaf(" ", "a", 31)), leaf("", ";", 32), leaf("", "}", 33)),
			node(tree.Method, leaf("", "public", 34), node(tree.Type, leaf(" ", "int", 41), leaf("", "[", 44), leaf("", "]", 45)), leaf("", "n", 46), leaf("", "(", 47),
				node(tree.Param, node(tree.Type, leaf("", "int", 48), leaf("", "[", 51), leaf("", "]", 52)), leaf("", "b", 53)), leaf("", ",", 54),
				node(tree.Param, simple("", "boolean", 55), leaf(" ", "c", 63)), leaf("", ")", 64), leaf("", "{", 65),
				leaf("", "return", 66), node(tree.Ident, leaf(" ", "b", 73)), leaf("", ";", 74), leaf("", "}", 75)),
			leaf("", "}", 76)))
	written(t, "class A { public boolean m ( ) { A b ; b = this ; return true ; } }", "",
		node(tree.Class, leaf("", "class", 0), leaf(" ", "A", 6), leaf(" ", "{", 8),
			node(tree.Method, leaf(" ", "public", 10), simple(" ", "boolean", 17), leaf(" ", "m", 25), leaf(" ", "(", 27), leaf(" ", ")", 29), leaf(" ", "{", 31),
				node(tree.Var, simple(" ", "A", 33), leaf(" ", "b", 35), leaf(" ", ";", 37)),
				node(tree.Assign, leaf(" ", "b", 39), leaf(" ", "=", 41), node(tree.This, leaf(" ", "this", 43)), leaf(" ", ";", 48)),
				leaf(" ", "return", 50), node(tree.True, leaf(" ", "true", 57)), leaf(" ", ";", 62), leaf(" ", "}", 64)),
			leaf(" ", "}", 66)))
}

// What stands one behind the other and within one another, by its shapes.
func TestShapes(t *testing.T) {
	main := "<Main class M { public static void main ( String [ ] a ) { } }>"
	for _, x := range [][2]string{
		{"", "<File>"},
		{"class A { } class A extends A { }", "<File <Class class A { }> <Class class A extends A { }>>"},
		{"class M { public static void main(String[] a) { } } class M { public static void main(String[] a) { } }", "<File " + main + " " + main + ">"},
		{"class A { } class M { public static void main(String[] a) { } } class B { }", "<File <Class class A { }> " + main + " <Class class B { }>>"},
		{"class System { System System; }", "<File <Class class System { <Field <Type System> System ;> }>>"},
		{"class A { int a; int a; }", "<File <Class class A { <Field <Type int> a ;> <Field <Type int> a ;> }>>"},
		{"class A { B b; public int m() { return b; } }", "<File <Class class A { <Field <Type B> b ;> <Method public <Type int> m ( ) { return b ; }> }>>"},
		{"class A { public int m() { return 1; } public A m(A m) { return m; } }", "<File <Class class A { <Method public <Type int> m ( ) { return 1 ; }> <Method public <Type A> m ( <Param <Type A> m> ) { return m ; }> }>>"},
		{"class A { public int m(int a, int[] b, boolean c, D d) { return 1; } }", "<File <Class class A { <Method public <Type int> m ( <Param <Type int> a> , <Param <Type int [ ]> b> , <Param <Type boolean> c> , <Param <Type D> d> ) { return 1 ; }> }>>"},
		{"class A { public int m() { int a; B b; return a; } }", "<File <Class class A { <Method public <Type int> m ( ) { <Var <Type int> a ;> <Var <Type B> b ;> return a ; }> }>>"},
		{"class A { public int m() { a = b; { } return a; } }", "<File <Class class A { <Method public <Type int> m ( ) { <Assign a = b ;> <Block { }> return a ; }> }>>"},
		{"class A { public int m() { B a; B = a; return B; } }", "<File <Class class A { <Method public <Type int> m ( ) { <Var <Type B> a ;> <Assign B = a ;> return B ; }> }>>"},
		{"class A { public int m() { return (1); } }", "<File <Class class A { <Method public <Type int> m ( ) { return <Paren ( 1 )> ; }> }>>"},
		{"class A extends B { boolean c; public A m() { while (c) { } return this; } }", "<File <Class class A extends B { <Field <Type boolean> c ;> <Method public <Type A> m ( ) { <While while ( c ) <Block { }>> return <This this> ; }> }>>"},
		{"class M { public static void main(String[] a) { if (b) { } else { } while (c) { } a[0] = 1; " + printer + "(1); } }",
			"<File <Main class M { public static void main ( String [ ] a ) { <If if ( b ) <Block { }> else <Block { }>> <While while ( c ) <Block { }>> <Store a [ 0 ] = 1 ;> <Print " + printer + " ( 1 ) ;> } }>>"},
	} {
		p, at, err := decl.Read(x[0])
		if shape(p.Tree) != x[1] || p.Tail != "" || at != 0 || err != nil {
			t.Errorf("Read(%q) = %s, %q, %d, %v, want %s", x[0], shape(p.Tree), p.Tail, at, err, x[1])
		}
		asksStands(t, p, x[0])
	}
}

// What a method answers is any expression, as layer 9 reads it.
func TestReturned(t *testing.T) {
	for _, text := range []string{
		"a", "7", "true", "false", "this", "new A()", "new int[a]", "(a)", "!a", "a[b]", "a.length", "a.m()", "a.m(b, c)", "a && b", "a < b", "a + b", "a - b", "a * b",
		"!(a.m(b[c], new int[d]).length < 7 + 8 * new A().n()) && this.k(true)",
	} {
		for _, gap := range []string{"", " ", "/* ; */", "// }\n"} {
			ahead := "class A{public int m(){return"
			n, _, _, err := expr.Read(" " + gap + text)
			if err != nil {
				t.Fatal(text, err)
			}
			s := ahead + " " + gap + text + gap + ";}}"
			p, at, err := decl.Read(s)
			if err != nil {
				t.Errorf("Read(%q): %d, %v", s, at, err)
				continue
			}
			asksStands(t, p, s)
			if got := p.Tree.Kids[0].Kids[3].Kids[7]; !equal(got, tree.Place(n, len(ahead))) {
				t.Errorf("Read(%q): %s", s, short(got))
			}
		}
	}
}

// marked is a text without its mark @, and where that stood.
func marked(s string) (string, int) {
	ahead, behind, _ := strings.Cut(s, "@")
	return ahead + behind, len(ahead)
}

// refusedAt asks that texts fail with ErrForm at their marks.
func refusedAt(t *testing.T, list ...string) {
	t.Helper()
	for _, x := range list {
		s, at := marked(x)
		refused(t, s, at, api.ErrForm)
	}
}

// A main class is one by what stands behind class and a token, whatever comes then.
func TestMainOrOther(t *testing.T) {
	for _, x := range []struct {
		s    string
		kind tree.Kind
	}{
		{"class M { public static void main(String[] a) { } }", tree.Main},
		{"class M{/**/public//\nstatic void main(String[]a){}}", tree.Main},
		{"class M { public int m() { return 1; } }", tree.Class},
		{"class M { int a; public int m() { return 1; } }", tree.Class},
		{"class M extends A { public int m() { return 1; } }", tree.Class},
		{"class M { }", tree.Class},
	} {
		c, _, _ := cursor.New(x.s)
		if n := decl.Class(c); n.Kind != x.kind {
			t.Errorf("%q: %s", x.s, shape(n))
		}
	}
	refusedAt(t,
		// Main ones: what isn't as theirs must be.
		"class M { public static @int m() { return 1; } }", "class M { public static @main(String[] a) { } }", "class M { public static@", "class M { public static @static void main(String[] a) { } }", "class M { public static @}",
		"class @int { public static void main(String[] a) { } }", "class @7 { public static int m() { return 1; } }", "class @{ { public static void main(String[] a) { } }", "class @class { public static",
		// Other ones: static can't be there.
		"class M extends A { public @static void main(String[] a) { } }", "class M { int a; public @static void main(String[] a) { } }", "class M { @static public void main(String[] a) { } }",
		"class M { public int m() { return 1; } public @static void main(String[] a) { } }", "class M { public @void main(String[] a) { } }", "class M { public int @main(String[] a) { } }", "class M { public int @static",
		"class @{ public static void main(String[] a) { } }", "class M @N { public static void main(String[] a) { } }", "class M @public static void main(String[] a) { } }", "class M { @{ public static", "class M { public@", "class M {@", "class M@", "class@",
		"@M { public static void main(String[] a) { } }", "@class_ M { public static void main(String[] a) { } }",
	)
	// What it is given by is neither class nor the token behind, but what stands behind these.
	refusedAt(t, "@public M { public static void main(String[] a) { } }", "@a M { public static int m() { } }", "@{ { { public static")
}

// Nothing, or blanks and notes alone: a file of no class, all of which stands behind.
func TestNoClass(t *testing.T) {
	for _, s := range []string{"", " ", " \t\r\n", "// class A { }", "/* class A { } */\n", "/**/ // \n\n//", strings.Repeat(" ", mostBytes), "//" + strings.Repeat("?", mostBytes-2)} {
		p, at, err := decl.Read(s)
		if !equal(p.Tree, node(tree.File)) || p.Tail != s || at != 0 || err != nil {
			t.Errorf("Read(%.100q) = %s, %.100q, %d, %v", s, shape(p.Tree), p.Tail, at, err)
		}
		asksStands(t, p, s)
		for range decl.Names(p) {
			t.Errorf("%.100q: a name", s)
		}
		c, _, _ := cursor.New(s)
		if at, err := zeroClass(t, c); at != len(s) || err != api.ErrForm {
			t.Errorf("Class of %.100q: %d, %v", s, at, err)
		}
	}
}

// zeroClass asks that no class is read, and tells what the cursor says of it.
func zeroClass(t *testing.T, c *cursor.Cursor) (int, error) {
	t.Helper()
	if n := decl.Class(c); !zero(n) {
		t.Errorf("Class = %s", short(n))
	}
	return c.Failed()
}

func TestWrong(t *testing.T) {
	refusedAt(t,
		// What begins no class.
		"@int x;", "@{ }", "@}", "@;", "@7", "@A", "@a = b;", "@public class A { }", "@extends A { }", "@static", "@this", "@"+printer+"(a);", "@import A;", "@interface A { }", "@(", "@!",
		// Heads.
		"class@", "class A@", "class @{ }", "class A @;", "class A @( ) { }", "class A @, B { }", "class A @B { }", "class A @implements B { }", "class A@.B { }", "class A @= { }", "class A extends @{ }", "class A extends B@", "class A extends B @extends C { }", "class A extends B @, C { }", "class A @int { }", "class @extends B { }",
		// Fields, and what stands behind them.
		"class A {@", "class A { int@", "class A { int x@", "class A { int x;@", "class A { int @; }", "class A { int @}", "class A { int x @}", "class A { int x @= 1; }", "class A { int x @, y; }", "class A { int x@[]; }", "class A { int [@x]; }", "class A { int[]@[] x; }", "class A { boolean@[] x; }", "class A { B@[] x; }", "class A { B @; }", "class A { B @}", "class A { B b @c; }", "class A { int x;@; }", "class A { @; }",
		"class A { x @= 1; }", "class A { int x; x @= 1; }", "class A { int x; @{ } }", "class A { @return 1; }", "class A { int x; @if (x) { } else { } }", "class A { @"+printer+"(1); }", "class A { @7 }", "class A { @class B { } }", "class A { @static int x; }", "class A { @void x; }", "class A { @String x; }", "class A { @String[] x; }", "class A { int x; @extends }", "class A { int x; @main }", "class A { int x; @) }", "class A { int m@() { return 1; } }",
		// A field behind a method, and what else can't be there.
		"class A { public int m() { return 1; } @int x; }", "class A { public int m() { return 1; } @B x; }", "class A { int x; public int m() { return x; } @boolean y; }", "class A { public int m() { return 1; } @; }", "class A { public int m() { return 1; }@; }", "class A { public int m() { return 1; } @{ } }", "class A { public int m() { return 1; } @return 1; }", "class A { public int m() { return 1; } public@",
		// Methods.
		"class A { public m@() { return 1; } }", "class A { public @( ) { return 1; } }", "class A { public int @() { return 1; } }", "class A { public int m @{ return 1; } }", "class A { public int m@; }", "class A { public int m @= 1; }", "class A { public int m() @return 1; }", "class A { public int m()@; }", "class A { public @public int m() { return 1; } }", "class A { public @void m() { return 1; } }", "class A { public int[@1] m() { return 1; } }", "class A { public int m() @throws B { return 1; } }", "class A { public @class B { } }", "class A { public @}", "class A { public B@[] m() { return 1; } }", "class A { public A@() { return 1; } }",
		// Parameters.
		"class A { public int m(@", "class A { public int m(@; ) { return 1; } }", "class A { public int m(int@) { return 1; } }", "class A { public int m(@, int a) { return 1; } }", "class A { public int m(int a,@) { return 1; } }", "class A { public int m(int a,@, int b) { return 1; } }", "class A { public int m(int a @int b) { return 1; } }", "class A { public int m(int a@; int b) { return 1; } }", "class A { public int m(int a, b@) { return 1; } }", "class A { public int m(int a, @7) { return 1; } }", "class A { public int m(a@) { return 1; } }", "class A { public int m(int a@[]) { return 1; } }", "class A { public int m(int a @= 1) { return 1; } }", "class A { public int m(@String[] a) { return 1; } }", "class A { public int m(@void) { return 1; } }", "class A { public int m(int a @{ return 1; } }", "class A { public int m(int a)@) { return 1; } }", "class A { public int m(@(int a) { return 1; } }", "class A { public int m(B b @c) { return 1; } }",
		// Without return, or with too much of it.
		"class A { public int m() { @} }", "class A { public int m() { int a; @} }", "class A { public int m() { a = b; @} }", "class A { public int m() { return @; } }", "class A { public int m() { return 1 @} }", "class A { public int m() { return 1; @return 2; } }", "class A { public int m() { return 1; @a = b; } }", "class A { public int m() { return 1;@; } }", "class A { public int m() { return 1; @int a; } }", "class A { public int m() { { @return 1; } } }", "class A { public int m() { return a @= b; } }", "class A { public int m() { return a@, b; } }", "class A { public int m() { return (a@; } }", "class A { public int m() { return a@); } }", "class A { public int m() { while (a) @return 1; } }", "class A { public int m() {@", "class A { public int m() { return@", "class A { public int m() { return 1@", "class A { public int m() { return 1;@", "class A { public int m() { return 1; }@",
		// Variables behind statements, and wrong statements.
		"class A { public int m() { a = b; @int c; return c; } }", "class A { public int m() { int c; { } @boolean d; return c; } }", "class A { public int m() { a = b; B @c; return c; } }", "class A { public int m() { int c @= 1; return c; } }", "class A { public int m() { a@; return c; } }", "class A { public int m() { if (a) { } @return c; } }", "class A { public int m() { @; return c; } }", "class A { public int m() { @public int n() { return 1; } return c; } }",
		// Main classes.
		"class M { public static void @m(String[] a) { } }", "class M { public static void main @{ } }", "class M { public static void main(@) { } }", "class M { public static void main(@int[] a) { } }", "class M { public static void main(@a) { } }", "class M { public static void main(String @a) { } }", "class M { public static void main(String @a[]) { } }", "class M { public static void main(String[@a]) { } }", "class M { public static void main(String[]@) { } }", "class M { public static void main(String[] a@, int b) { } }", "class M { public static void main(String[] a)@; }", "class M { public static void main(String[] a) @}", "class M { public static void main(String[] @String) { } }",
		"class M { public static void main(String[] a) { @int b; } }", "class M { public static void main(String[] a) { B @b; } }", "class M { public static void main(String[] a) { @return 1; } }", "class M { public static void main(String[] a) { @; } }", "class M { public static void main(String[] a) { } @public int m() { return 1; } }", "class M { public static void main(String[] a) { } @int x; }", "class M { public static void main(String[] a) { } @; }", "class M { public static void main(String[] a) { }@", "class M { public static void main(String[] a) {@", "class M { public static void main(String[] a) { { }@", "class M { public static void main(String[] a) { } } @}", "class M { public static void main(String[] a) { } } @public static void main(String[] a) { } }",
		// Something behind the last class, or between two.
		"class A { } @}", "class A { }@;", "class A { } @int x;", "class A { } @public int m() { return 1; }", "class A { } @7", "class A { } @{ }", "class A { } @; class B { }", "class A { } @, class B { }", "class A { } // end\n @a", "class A { } class@", "class A { } class B { @class C { } }", "class A { } class B {@", "class A { } class B { } @extends A { }",
		// Keywords in the place of names.
		"class @main { }", "class @String { }", "class @length { }", "class @this { }", "class @"+printer+" { }", "class A extends @String { }", "class A extends @class { }", "class A { int @length; }", "class A { int @main; }", "class A { int @int; }", "class A { int @boolean; }", "class A { B @class; }", "class A { public int @length() { return 1; } }", "class A { public int @new() { return 1; } }", "class A { public int @"+printer+"() { return 1; } }", "class A { public int m(int @this) { return 1; } }", "class A { public int m(int @int) { return 1; } }", "class A { public @extends m() { return 1; } }", "class A { @length x; }", "class M { public static void main(String[] @main) { } }", "class M { public static void main(String[] @length) { } }", "class A { public int m() { int @if; return 1; } }", "class A { public int m() { return @static; } }",
		// Texts that aren't clean: where the first Bad token begins, whatever stands ahead of it.
		"@?", "class A { int x@#; }", "class A { @1x y; }", "class A { } @/*", "class A { public int m() { return @007; } }", "class @a"+strings.Repeat("a", 64)+" { }", "int x @& y", "} } } @\"", "class A { } @\x00", "class @\xc3\xa9 { }", "class A { public int m() { return @2147483648; } }",
	)
	refusedAt(t, "class A { public int m() { return 2147483647; } @")
	whole(t, "class "+strings.Repeat("a", 64)+" { public int m() { return 2147483647; } }")
}

// all are tokens of each kind that there is, of each keyword and each sign.
func all() []string {
	out := []string{"a", "System", "0", "7", printer}
	out = append(out, strings.Fields("class extends public static void main String int boolean return if else while true false this new length")...)
	return append(out, strings.Fields("{ } ( ) [ ] ; , . = < + - * ! &&")...)
}

// each are right texts, by their tokens, one for each construct at least.
func each() []string {
	return []string{
		"class A { }", "class A extends B { }", "class A { } class B extends A { } class C { }",
		"class A { int a ; int [ ] b ; boolean c ; A d ; }",
		"class A { public int m ( ) { return 1 ; } }", "class A { public A m ( A a ) { return a ; } public int [ ] n ( ) { return b ; } }",
		"class A extends B { A a ; public boolean m ( int a , int [ ] b , A c ) { int d ; A e ; e = c ; { } return ! ( d < a ) ; } }",
		"class M { public static void main ( String [ ] a ) { } }", "class M { public static void main ( String [ ] a ) { { } " + printer + " ( 1 ) ; b = c ; } } class A { int b ; }",
	}
}

// At each place of each construct stands each token there is, in place of the one that was there, or ahead of it; or none stands there.
func TestEachTokenAtEachPlace(t *testing.T) {
	for _, text := range each() {
		tokens := strings.Fields(text)
		for _, g := range gaps() {
			s := spaced(tokens, g...)
			asks(t, s)
			whole(t, s.text())
		}
		for i := range len(tokens) + 1 {
			for _, x := range all() {
				asks(t, spaced(slices.Insert(slices.Clone(tokens), i, x), " "))
				if i < len(tokens) {
					asks(t, spaced(slices.Replace(slices.Clone(tokens), i, i+1, x), "", " "))
				}
			}
			asks(t, spaced(tokens[:i], "", "/*}*/"))
			asks(t, spaced(tokens[i:], " "))
			if i < len(tokens) {
				asks(t, spaced(slices.Delete(slices.Clone(tokens), i, i+1), " "))
			}
		}
	}
}

// All that can be read behind some beginnings, token by token, with each token behind it that can be or can't be next.
func TestSmallTexts(t *testing.T) {
	method, main := "class A { public int m ( ", "class M { public static "
	for _, x := range []struct{ ahead, pieces string }{
		{"", strings.Join(all(), " ")}, {"", "class A { } extends public"}, {"class", "A extends { } int ;"}, {"class A {", "A int boolean [ ] ; } public"}, {"class A { int a ;", "A int ; public ( ) }"},
		{method, "A int boolean [ ] , ) {"}, {method + ") {", "A int ; = { } return"}, {method + ") { return", "1 ; } public class ( )"}, {method + ") { return 1 ; }", "public A m ( ) { return ; } int class"},
		{main, "void main ( String [ ] a ) { } int"}, {main + "void main ( String [ ] a ) {", "A { } = ; class int"},
	} {
		list := [][]string{strings.Fields(x.ahead)}
		asked := 0
		for n := 0; n < len(list) && asked < 2500; n++ {
			for _, piece := range strings.Fields(x.pieces) {
				tokens := append(slices.Clone(list[n]), piece)
				s := spaced(tokens, gaps()[asked%5]...)
				asks(t, s)
				if a := follow(t, s, 0, 0, "<File CLASSES >"); a.fault == nil || a.place == len(s.text()) {
					list = append(list, tokens)
				}
				asked++
			}
			if t.Failed() {
				return
			}
		}
	}
}

// pick is one of some texts, that is drawn.
func pick(draw *rand.Rand, list ...string) string { return list[draw.Intn(len(list))] }

// several are up to so many texts, one behind the other.
func several(draw *rand.Rand, most int, make func() string) string {
	text := ""
	for range draw.Intn(most + 1) {
		text += make() + " "
	}
	return text
}

func drawnType(draw *rand.Rand) string { return pick(draw, "int", "int [ ]", "boolean", "A", "B") }

func drawnExpression(draw *rand.Rand) string {
	return pick(draw, "a", "7", "true", "this", "! a", "( a )", "a + b * c", "a [ b ]", "a . length", "a . m ( b , c )", "new A ( )", "new int [ a ]", "a < b && c")
}

func drawnStatement(draw *rand.Rand) string {
	e, f := drawnExpression(draw), drawnExpression(draw)
	return pick(draw, "{ }", "a = "+e+" ;", "a [ "+e+" ] = "+f+" ;", printer+" ( "+e+" ) ;", "while ( "+e+" ) { a = "+f+" ; }", "if ( "+e+" ) { { } } else a = "+f+" ;")
}

func drawnMethod(draw *rand.Rand) string {
	params := several(draw, 3, func() string { return ", " + drawnType(draw) + " p" })
	body := several(draw, 2, func() string { return drawnType(draw) + " v ;" }) + several(draw, 2, func() string { return drawnStatement(draw) })
	return "public " + drawnType(draw) + " m ( " + strings.TrimPrefix(params, ", ") + ") { " + body + "return " + drawnExpression(draw) + " ; }"
}

func drawnClass(draw *rand.Rand) string {
	if draw.Intn(4) == 0 {
		return "class M { public static void main ( String [ ] a ) { " + several(draw, 3, func() string { return drawnStatement(draw) }) + "} }"
	}
	members := several(draw, 3, func() string { return drawnType(draw) + " f ;" }) + several(draw, 2, func() string { return drawnMethod(draw) })
	return "class A " + pick(draw, "", "extends B ") + "{ " + members + "}"
}

// mostTokens is how many tokens have room in a file, whatever gaps are between.
const mostTokens = 180

// drawnFile are the tokens of a file that is drawn.
func drawnFile(draw *rand.Rand) []string {
	for {
		text := several(draw, 4, func() string { return drawnClass(draw) })
		if tokens := strings.Fields(text); len(tokens) <= mostTokens {
			return tokens
		}
	}
}

// Drawn the same way each time: long texts, as they are and with tokens that are changed.
func TestDrawnTexts(t *testing.T) {
	draw := rand.New(rand.NewSource(11))
	for range 600 {
		tokens := drawnFile(draw)
		s := spaced(tokens, gaps()[draw.Intn(5)]...)
		whole(t, s.text())
		asks(t, s)
		for range 4 {
			if len(tokens) > 0 {
				tokens[draw.Intn(len(tokens))] = all()[draw.Intn(len(all()))]
			}
			asks(t, spaced(tokens, gaps()[draw.Intn(5)]...))
		}
		if t.Failed() {
			return
		}
	}
}

// Other blanks and notes between change gaps and places alone.
func TestOtherBlanks(t *testing.T) {
	draw := rand.New(rand.NewSource(112))
	for range 200 {
		tokens := drawnFile(draw)
		one, _, err := decl.Read(spaced(tokens, " ").text())
		if err != nil {
			t.Fatal(tokens, err)
		}
		for _, g := range gaps() {
			s := spaced(tokens, g...)
			p, _, err := decl.Read(s.text())
			if err != nil || p.Tail != s.end || !tree.Same(tree.Strip(p.Tree), tree.Strip(one.Tree)) {
				t.Errorf("%.300q: %s, %q, %v, want %s", s.text(), short(p.Tree), p.Tail, err, short(one.Tree))
			}
			asksStands(t, p, s.text())
			if again, _, err := decl.Read(decl.Text(p)); !reflect.DeepEqual(again, p) || err != nil {
				t.Errorf("%.300q read again: %s, %v", s.text(), short(again.Tree), err)
			}
		}
	}
}

// filled is a text with so many pieces in the midst as a file has room for.
func filled(ahead, piece, after string) string {
	return ahead + strings.Repeat(piece, (mostBytes-len(ahead+after))/len(piece)) + after
}

// Texts as great as a file may be, and a byte greater.
func TestSizes(t *testing.T) {
	main := "class M{public static void main(String[]a){"
	for _, s := range []string{
		filled("class A{", "A a;", "}"), filled("class A{", "int[]a;", "}"), filled("", "class A{}", ""), filled("", "class A extends B{}", ""),
		filled(main, "{}", "}}"), filled(main, "a=b;", "}}"), filled(main, printer+"(a);", "}}"),
		filled("class A{", "public int m(){return 1;}", "}"), filled("class A{public int m(", "A a,", "A a){return a;}}"), filled("class A{public int m(){", "A a;", "return a;}}"), filled("class A{public int m(){return a", "-b", ";}}"),
		filled("class A{public int m(){return a", "[!a]", ";}}"), "",
	} {
		full := s + strings.Repeat(" ", mostBytes-len(s))
		p, at, err := decl.Read(full)
		if len(full) != mostBytes || at != 0 || err != nil || s+p.Tail != full {
			t.Errorf("%.20s: %q, %d, %v", s, p.Tail, at, err)
		}
		asksStands(t, p, full)
		for _, more := range []string{" ", "?", "}", "class A{}", full} {
			refused(t, full+more, mostBytes, api.ErrLarge)
		}
		if len(s) < mostBytes {
			refused(t, full[:mostBytes-1]+"?", mostBytes-1, api.ErrForm)
			refused(t, full[:mostBytes-1]+"}", mostBytes-1, api.ErrForm)
		}
	}
	refused(t, strings.Repeat("?", mostBytes+1), mostBytes, api.ErrLarge)
	refused(t, strings.Repeat("class A{}", mostBytes), mostBytes, api.ErrLarge)
	refused(t, strings.Repeat("?", mostBytes), 0, api.ErrForm)
	refused(t, strings.Repeat("}", mostBytes), 0, api.ErrForm)
	refused(t, strings.Repeat("a", mostBytes), 0, api.ErrForm)
}

// place is where in a file a body of statements, or an expression, stands.
type place struct {
	ahead, after string
	within       int // how many constructs the expression is within
}

// bodies are where statements stand, and holes where expressions do.
func bodies() []place {
	return []place{
		{"class A{public int m(){", "return a;}}", 0}, {"class A{int a;public int m(int a){int b;", "a=b;return a;}}", 0}, {"class M{public static void main(String[]a){", "}}", 0},
		{"class A{public int m(){return a;}public int n(){{}", "return a;}}class B{}", 0}, {"class B{}class M{public static void main(String[]a){{}", "{}}}", 0},
	}
}

func holes() []place {
	list := []place{{"class A{public int m(){return ", ";}}", 0}, {"class A{A a;public int m(int a){int b;{}return ", ";}public int n(){return a;}}", 0}}
	for _, b := range bodies() {
		list = append(list, place{b.ahead + "a=", ";" + b.after, 1}, place{b.ahead + "while(", "){}" + b.after, 1}, place{b.ahead + "{" + printer + "(", ");}" + b.after, 2})
	}
	return list
}

// Statements and expressions 200 deep and one more, wherever they stand: classes, methods and parameters are no constructs.
func TestDeep(t *testing.T) {
	for _, b := range bodies() {
		for _, x := range []struct {
			ahead, after string
			at           int // where in it the first one stands that lies within it
		}{{"{", "}", 1}, {"while(a)", "", 8}, {"if(a)", "else{}", 5}, {"if(a){}else ", "", 5}} {
			ahead, after := b.ahead+strings.Repeat(x.ahead, mostDeep-1), strings.Repeat(x.after, mostDeep-1)+b.after
			at := len(ahead) + x.at
			for _, inner := range []string{"{}", "a=b;", "a[b]=c;", printer + "(a);"} {
				whole(t, ahead+inner+after)
				refused(t, ahead+x.ahead+inner+x.after+after, at, api.ErrDeep)
				// Where the text goes wrong behind that place nobody looks, unless it isn't clean.
				refused(t, ahead+x.ahead+inner, at, api.ErrDeep)
				refused(t, ahead+x.ahead+inner+"?", len(ahead+x.ahead+inner), api.ErrForm)
			}
		}
	}
	for _, h := range holes() {
		for _, x := range []struct {
			ahead, after string
			at           int // where in it the token stands that is a construct more
		}{{"(", ")", 0}, {"!", "", 0}, {"a[", "]", 1}, {"b.m(", ")", 3}, {"new int[", "]", 7}} {
			ahead, after := h.ahead+strings.Repeat(x.ahead, mostDeep-h.within), strings.Repeat(x.after, mostDeep-h.within)+h.after
			whole(t, ahead+"c"+after)
			refused(t, ahead+x.ahead+"c"+x.after+after, len(ahead)+x.at, api.ErrDeep)
			refused(t, ahead+x.ahead, len(ahead)+x.at, api.ErrDeep)
		}
	}
}

// What is deep in one method, or class, is as good as not there for the next one.
func TestNotDeeper(t *testing.T) {
	deep := strings.Repeat("{", mostDeep) + strings.Repeat("}", mostDeep)
	brackets := strings.Repeat("(", mostDeep) + "a" + strings.Repeat(")", mostDeep)
	method := "public int m(){" + deep + "return " + brackets + ";}"
	whole(t, "class A{"+method+method+"}class M{public static void main(String[]a){"+deep+deep+"}}class B{"+method+"}")
	whole(t, strings.Repeat("class A{}", 2*mostDeep))
	whole(t, "class A{"+strings.Repeat("int a;", 2*mostDeep)+"}")
	whole(t, "class A{public int m("+strings.Repeat("int a,", 2*mostDeep)+"int a){return a;}}")
}
