package view_test

import (
	"fmt"
	"reflect"
	"slices"
	"strings"
	"testing"

	"namesake/api"
	"namesake/decl"
	"namesake/sign"
	"namesake/tree"
	"namesake/view"
)

const (
	mostBytes = 4000
	mostDeep  = 200
)

var kindNames = map[tree.Kind]string{
	tree.Block: "Block", tree.If: "If", tree.While: "While", tree.Print: "Print", tree.Assign: "Assign", tree.Store: "Store",
	tree.And: "And", tree.Less: "Less", tree.Plus: "Plus", tree.Minus: "Minus", tree.Times: "Times", tree.Not: "Not", tree.Index: "Index", tree.Length: "Length",
	tree.Call: "Call", tree.Number: "Number", tree.True: "True", tree.False: "False", tree.Ident: "Ident", tree.This: "This", tree.Array: "Array", tree.Object: "Object",
}

// told is all that an expression tells, with its places counted from one on.
func told(e view.Exp, from int) string {
	s := fmt.Sprintf("%s %d-%d", kindNames[e.Kind], e.From-from, e.To-from)
	if e.Name != (view.Name{}) {
		s += fmt.Sprintf(" %s@%d", e.Name.Text, e.Name.At-from)
	}
	if e.Number != 0 {
		s += fmt.Sprintf(" #%d", e.Number)
	}
	for _, k := range e.Kids {
		s += " (" + told(k, from) + ")"
	}
	return s
}

// toldStmt is all that a statement tells likewise.
func toldStmt(x view.Stmt, from int) string {
	s := fmt.Sprintf("%s %d-%d", kindNames[x.Kind], x.From-from, x.To-from)
	if x.Name != (view.Name{}) {
		s += fmt.Sprintf(" %s@%d", x.Name.Text, x.Name.At-from)
	}
	for _, e := range x.Exps {
		s += " (" + told(e, from) + ")"
	}
	for _, k := range x.Kids {
		s += " {" + toldStmt(k, from) + "}"
	}
	return s
}

// of is the view of a text that is right.
func of(t *testing.T, s string) []view.Class {
	t.Helper()
	list, at, err := view.Of(s)
	if at != 0 || err != nil {
		t.Fatalf("%.300q: %d, %v", s, at, err)
	}
	return list
}

const (
	aheadExp  = "class A { public int m() { return "
	behindExp = "; } }"
	aheadStmt = "class M { public static void main(String[] a) { "
)

// expOf is the view of an expression, behind the text aheadExp.
func expOf(t *testing.T, s string) view.Exp {
	t.Helper()
	list := of(t, aheadExp+s+behindExp)
	if len(list) != 1 || len(list[0].Methods) != 1 {
		t.Fatal(s, list)
	}
	return list[0].Methods[0].Return
}

// stmtsOf is the view of statements, behind the text aheadStmt.
func stmtsOf(t *testing.T, s string) []view.Stmt {
	t.Helper()
	list := of(t, aheadStmt+s+" } }")
	if len(list) != 1 || !list[0].Main {
		t.Fatal(s, list)
	}
	return list[0].Body
}

func TestClasses(t *testing.T) {
	n := func(text string, at int) view.Name { return view.Name{Text: text, At: at} }
	ident := func(text string, at int) view.Exp {
		return view.Exp{Kind: tree.Ident, Name: n(text, at), From: at, To: at + len(text)}
	}
	for _, x := range []struct {
		s    string
		want []view.Class
	}{
		{"", nil}, {" // class A { }\n", nil},
		{"class A{}", []view.Class{{Name: n("A", 6)}}},
		{"class A { int x; }", []view.Class{{Name: n("A", 6), Fields: []view.Var{{Type: n("int", 10), Name: n("x", 14), From: 10, To: 16}}}}},
		{"class Ab extends Cd { }", []view.Class{{Name: n("Ab", 6), Super: n("Cd", 17)}}},
		{"class A { } class B extends A { } class A { }", []view.Class{{Name: n("A", 6)}, {Name: n("B", 18), Super: n("A", 28)}, {Name: n("A", 40)}}},
		{"class A { int[] b ; boolean c; A d; }", []view.Class{{Name: n("A", 6), Fields: []view.Var{{Type: n("int[]", 10), Name: n("b", 16), From: 10, To: 19}, {Type: n("boolean", 20), Name: n("c", 28), From: 20, To: 30}, {Type: n("A", 31), Name: n("d", 33), From: 31, To: 35}}}}},
		{"class A { public B m() { return c; } }", []view.Class{{Name: n("A", 6), Methods: []view.Method{{Type: n("B", 17), Name: n("m", 19), Return: ident("c", 32)}}}}},
		{"class A { int a; public int m(int[] b, boolean c , D d) { E e; int[] f; e=d; { } return g ; } public int[] n(F f) { return h; } }", []view.Class{{
			Name: n("A", 6), Fields: []view.Var{{Type: n("int", 10), Name: n("a", 14), From: 10, To: 16}},
			Methods: []view.Method{{
				Type: n("int", 24), Name: n("m", 28),
				Params: []view.Var{{Type: n("int[]", 30), Name: n("b", 36), From: 30, To: 37}, {Type: n("boolean", 39), Name: n("c", 47), From: 39, To: 48}, {Type: n("D", 51), Name: n("d", 53), From: 51, To: 54}},
				Vars:   []view.Var{{Type: n("E", 58), Name: n("e", 60), From: 58, To: 62}, {Type: n("int[]", 63), Name: n("f", 69), From: 63, To: 71}},
				Body:   []view.Stmt{{Kind: tree.Assign, Name: n("e", 72), From: 72, To: 76, Exps: []view.Exp{ident("d", 74)}}, {Kind: tree.Block, From: 77, To: 80}},
				Return: ident("g", 88),
			}, {
				Type: n("int[]", 101), Name: n("n", 107), Params: []view.Var{{Type: n("F", 109), Name: n("f", 111), From: 109, To: 112}}, Return: ident("h", 123),
			}},
		}}},
		{"class M { public static void main(String[] args) { } }", []view.Class{{Main: true, Name: n("M", 6), Arg: n("args", 43)}}},
		{"class M{public static void main(String[]a){b=c;{}}}class B{}", []view.Class{{Main: true, Name: n("M", 6), Arg: n("a", 40), Body: []view.Stmt{{Kind: tree.Assign, Name: n("b", 43), From: 43, To: 47, Exps: []view.Exp{ident("c", 45)}}, {Kind: tree.Block, From: 47, To: 49}}}, {Name: n("B", 57)}}},
		{"class A{}class M{public static void main(String[]a){}}class M{public static void main(String[]a){}}", []view.Class{{Name: n("A", 6)}, {Main: true, Name: n("M", 15), Arg: n("a", 49)}, {Main: true, Name: n("M", 60), Arg: n("a", 94)}}},
	} {
		if got := of(t, x.s); !reflect.DeepEqual(got, x.want) {
			t.Errorf("%q:\n%+v, want\n%+v", x.s, got, x.want)
		}
	}
}

// The name of int[] is one text, whatever stands between its tokens, and stands where int does.
func TestTypes(t *testing.T) {
	for _, x := range []struct {
		s, text string
	}{
		{"int", "int"}, {"boolean", "boolean"}, {"A", "A"}, {"int[]", "int[]"}, {"int []", "int[]"}, {"int[ ]", "int[]"}, {"int\n[\t]", "int[]"}, {"int/*[*/[ // ]\n]", "int[]"}, {"ints", "ints"}, {"String_", "String_"},
	} {
		want := view.Name{Text: x.text, At: 10}
		if v := of(t, "class A { "+x.s+" f; }")[0].Fields[0]; v.Type != want || v.Name.Text != "f" || v.From != 10 || v.To != 13+len(x.s) {
			t.Errorf("%q: the field is %+v", x.s, v)
		}
		want.At = 17
		m := of(t, "class A { public "+x.s+" m("+x.s+" p) { "+x.s+" v; return v; } }")[0].Methods[0]
		if m.Type != want {
			t.Errorf("%q: the method is %+v", x.s, m)
		}
		at := 17 + len(x.s) + len(" m(")
		if v := m.Params[0]; v != (view.Var{Type: view.Name{Text: x.text, At: at}, Name: view.Name{Text: "p", At: at + len(x.s) + 1}, From: at, To: at + len(x.s) + 2}) {
			t.Errorf("%q: the parameter is %+v", x.s, v)
		}
		at += len(x.s) + len(" p) { ")
		if v := m.Vars[0]; v != (view.Var{Type: view.Name{Text: x.text, At: at}, Name: view.Name{Text: "v", At: at + len(x.s) + 1}, From: at, To: at + len(x.s) + 3}) {
			t.Errorf("%q: the variable is %+v", x.s, v)
		}
	}
}

func TestExpressions(t *testing.T) {
	for _, x := range [][2]string{
		{"0", "Number 0-1"}, {"7", "Number 0-1 #7"}, {"10", "Number 0-2 #10"}, {"2147483647", "Number 0-10 #2147483647"},
		{"true", "True 0-4"}, {"false", "False 0-5"}, {"this", "This 0-4"}, {"a", "Ident 0-1 a@0"}, {"a1_", "Ident 0-3 a1_@0"},
		{"new A()", "Object 0-7 A@4"}, {"new  A ( )", "Object 0-10 A@5"}, {"new int[1]", "Array 0-10 (Number 8-9 #1)"}, {"new int [ a ] ", "Array 0-13 (Ident 10-11 a@10)"},
		{"a && b", "And 0-6 (Ident 0-1 a@0) (Ident 5-6 b@5)"}, {"a<b", "Less 0-3 (Ident 0-1 a@0) (Ident 2-3 b@2)"}, {"a+1", "Plus 0-3 (Ident 0-1 a@0) (Number 2-3 #1)"},
		{"1-a", "Minus 0-3 (Number 0-1 #1) (Ident 2-3 a@2)"}, {"a*b", "Times 0-3 (Ident 0-1 a@0) (Ident 2-3 b@2)"}, {"!a", "Not 0-2 (Ident 1-2 a@1)"}, {"! ! a", "Not 0-5 (Not 2-5 (Ident 4-5 a@4))"},
		{"a[b]", "Index 0-4 (Ident 0-1 a@0) (Ident 2-3 b@2)"}, {"a.length", "Length 0-8 (Ident 0-1 a@0)"}, {"a . length ", "Length 0-10 (Ident 0-1 a@0)"},
		{"a.b()", "Call 0-5 b@2 (Ident 0-1 a@0)"}, {"a.b(c)", "Call 0-6 b@2 (Ident 0-1 a@0) (Ident 4-5 c@4)"}, {"this.b(0, a ,c)", "Call 0-15 b@5 (This 0-4) (Number 7-8) (Ident 10-11 a@10) (Ident 13-14 c@13)"},
		{"a.b().c()", "Call 0-9 c@6 (Call 0-5 b@2 (Ident 0-1 a@0))"}, {"new A().a(b)", "Call 0-12 a@8 (Object 0-7 A@4) (Ident 10-11 b@10)"}, {"a[0][1]", "Index 0-7 (Index 0-4 (Ident 0-1 a@0) (Number 2-3)) (Number 5-6 #1)"},
		{"new int[1].length", "Length 0-17 (Array 0-10 (Number 8-9 #1))"}, {"new int[1][2]", "Index 0-13 (Array 0-10 (Number 8-9 #1)) (Number 11-12 #2)"}, {"a.b(c.d(e))", "Call 0-11 b@2 (Ident 0-1 a@0) (Call 4-10 d@6 (Ident 4-5 c@4) (Ident 8-9 e@8))"},
		{"a+b*c", "Plus 0-5 (Ident 0-1 a@0) (Times 2-5 (Ident 2-3 b@2) (Ident 4-5 c@4))"}, {"a*b+c", "Plus 0-5 (Times 0-3 (Ident 0-1 a@0) (Ident 2-3 b@2)) (Ident 4-5 c@4)"}, {"1-2-3", "Minus 0-5 (Minus 0-3 (Number 0-1 #1) (Number 2-3 #2)) (Number 4-5 #3)"},
		{"!a&&b<c", "And 0-7 (Not 0-2 (Ident 1-2 a@1)) (Less 4-7 (Ident 4-5 b@4) (Ident 6-7 c@6))"}, {"!a.length", "Not 0-9 (Length 1-9 (Ident 1-2 a@1))"},
	} {
		if got := told(expOf(t, x[0]), len(aheadExp)); got != x[1] {
			t.Errorf("%s: %s, want %s", x[0], got, x[1])
		}
	}
}

// An expression in brackets keeps its own places, and what it is a part of has the brackets too.
func TestBrackets(t *testing.T) {
	for _, x := range [][2]string{
		{"(a)", "Ident 1-2 a@1"}, {"( a )", "Ident 2-3 a@2"}, {"((a))", "Ident 2-3 a@2"}, {"( /*(*/ ( a+1 ) )", "Plus 10-13 (Ident 10-11 a@10) (Number 12-13 #1)"}, {"(((7)))", "Number 3-4 #7"}, {"(new A())", "Object 1-8 A@5"},
		{"(a)+(b)", "Plus 0-7 (Ident 1-2 a@1) (Ident 5-6 b@5)"}, {"(a + 1) * 2", "Times 0-11 (Plus 1-6 (Ident 1-2 a@1) (Number 5-6 #1)) (Number 10-11 #2)"}, {"2*( a+1 )", "Times 0-9 (Number 0-1 #2) (Plus 4-7 (Ident 4-5 a@4) (Number 6-7 #1))"},
		{"1-(2-3)", "Minus 0-7 (Number 0-1 #1) (Minus 3-6 (Number 3-4 #2) (Number 5-6 #3))"}, {"(1-2)-3", "Minus 0-7 (Minus 1-4 (Number 1-2 #1) (Number 3-4 #2)) (Number 6-7 #3)"},
		{"!(a)", "Not 0-4 (Ident 2-3 a@2)"}, {"!(a&&b)", "Not 0-7 (And 2-6 (Ident 2-3 a@2) (Ident 5-6 b@5))"}, {"(!a)&&b", "And 0-7 (Not 1-3 (Ident 2-3 a@2)) (Ident 6-7 b@6)"}, {"(a)[(b)]", "Index 0-8 (Ident 1-2 a@1) (Ident 5-6 b@5)"},
		{"(a).length", "Length 0-10 (Ident 1-2 a@1)"}, {"(a).b((c),((d)))", "Call 0-16 b@4 (Ident 1-2 a@1) (Ident 7-8 c@7) (Ident 12-13 d@12)"}, {"new int[(a)]", "Array 0-12 (Ident 9-10 a@9)"}, {"((a)<(b))", "Less 1-8 (Ident 2-3 a@2) (Ident 6-7 b@6)"},
	} {
		if got := told(expOf(t, x[0]), len(aheadExp)); got != x[1] {
			t.Errorf("%s: %s, want %s", x[0], got, x[1])
		}
	}
}

func TestStatements(t *testing.T) {
	for _, x := range []struct {
		s    string
		want []string
	}{
		{"", nil}, {"{ }", []string{"Block 0-3"}}, {"{ } {}", []string{"Block 0-3", "Block 4-6"}}, {"{ { } a=b; }", []string{"Block 0-12 {Block 2-5} {Assign 6-10 a@6 (Ident 8-9 b@8)}"}},
		{"a = 1;", []string{"Assign 0-6 a@0 (Number 4-5 #1)"}}, {"a=(1) ;", []string{"Assign 0-7 a@0 (Number 3-4 #1)"}}, {"System=out;", []string{"Assign 0-11 System@0 (Ident 7-10 out@7)"}},
		{"a[0] = b;", []string{"Store 0-9 a@0 (Number 2-3) (Ident 7-8 b@7)"}}, {"a [ b[1] ] = c[2] ;", []string{"Store 0-19 a@0 (Index 4-8 (Ident 4-5 b@4) (Number 6-7 #1)) (Index 13-17 (Ident 13-14 c@13) (Number 15-16 #2))"}},
		{printer + "(a);", []string{"Print 0-22 (Ident 19-20 a@19)"}}, {printer + " ( (1) ) ;", []string{"Print 0-28 (Number 22-23 #1)"}},
		{"while (a) { }", []string{"While 0-13 (Ident 7-8 a@7) {Block 10-13}"}}, {"while(!a)b=c;", []string{"While 0-13 (Not 6-8 (Ident 7-8 a@7)) {Assign 9-13 b@9 (Ident 11-12 c@11)}"}},
		{"if (a) { } else b = 1;", []string{"If 0-22 (Ident 4-5 a@4) {Block 7-10} {Assign 16-22 b@16 (Number 20-21 #1)}"}}, {"if(a)if(b){}else{}else{}", []string{"If 0-24 (Ident 3-4 a@3) {If 5-18 (Ident 8-9 b@8) {Block 10-12} {Block 16-18}} {Block 22-24}"}},
		{"while((a))while(b){a=b;}c=d;", []string{"While 0-24 (Ident 7-8 a@7) {While 10-24 (Ident 16-17 b@16) {Block 18-24 {Assign 19-23 a@19 (Ident 21-22 b@21)}}}", "Assign 24-28 c@24 (Ident 26-27 d@26)"}},
	} {
		var got []string
		for _, k := range stmtsOf(t, x.s) {
			got = append(got, toldStmt(k, len(aheadStmt)))
		}
		if !slices.Equal(got, x.want) {
			t.Errorf("%s: %q, want %q", x.s, got, x.want)
		}
	}
}

// asksOf asks that classes, written with these gaps, have the view that was written, and holds what the chapter says of places against the text.
func asksOf(t *testing.T, list []view.Class, more func() int, gaps ...string) {
	t.Helper()
	s, want := written(list, more, gaps...)
	if len(s) > mostBytes {
		return
	}
	got, at, err := view.Of(s)
	if at != 0 || err != nil || !reflect.DeepEqual(got, want) {
		t.Fatalf("%s:\n%+v, %d, %v, want\n%+v", s, got, at, err, want)
	}
	asksPlaces(t, s, got)
}

// asksPlaces asks that in the order of all names' places each stands where the text has it, and that they are all the names that the text has.
func asksPlaces(t *testing.T, s string, list []view.Class) {
	t.Helper()
	var got, want []string
	all := namesOf(list)
	slices.SortFunc(all, func(a, b view.Name) int { return a.At - b.At })
	for _, n := range all {
		text := n.Text
		if text == "int[]" {
			text = "int"
		}
		if !strings.HasPrefix(s[n.At:], text) {
			t.Errorf("%s: no %s at %d", s, n.Text, n.At)
		}
		if sign.Name(text) == nil {
			got = append(got, fmt.Sprint(n.At, " ", text))
		}
	}
	p, _, _ := decl.Read(s)
	for l := range decl.Names(p) {
		want = append(want, fmt.Sprint(l.At, " ", l.Text))
	}
	if !slices.Equal(got, want) {
		t.Errorf("%s: names %q, want %q", s, got, want)
	}
}

// namesOf is all names of a view, of types too.
func namesOf(list []view.Class) []view.Name {
	var all []view.Name
	var look func(v reflect.Value)
	look = func(v reflect.Value) {
		switch x := v.Interface().(type) {
		case view.Name:
			if x != (view.Name{}) {
				all = append(all, x)
			}
			return
		}
		switch v.Kind() {
		case reflect.Struct:
			for i := range v.NumField() {
				look(v.Field(i))
			}
		case reflect.Slice:
			for i := range v.Len() {
				look(v.Index(i))
			}
		}
	}
	look(reflect.ValueOf(list))
	return all
}

// method is a class of one method that says these.
func method(m view.Method) []view.Class {
	return []view.Class{{Name: view.Name{Text: "A"}, Methods: []view.Method{m}}}
}

func name(text string) view.Name { return view.Name{Text: text} }

// simple is an expression of a kind, each kid of which is the same one.
func simple(k tree.Kind, kid view.Exp) view.Exp {
	e := view.Exp{Kind: k}
	for range kidsOf(k) {
		e.Kids = append(e.Kids, kid)
	}
	if named(k) {
		e.Name = name("n")
	}
	if k == tree.Number {
		e.Number = 5
	}
	return e
}

// Each kind of expression with each kind of expression as each of its kids, with as few brackets as can be and with more.
func TestExpressionsWithinExpressions(t *testing.T) {
	a := simple(tree.Ident, view.Exp{})
	for _, k := range expKinds() {
		for _, first := range expKinds() {
			for _, second := range expKinds() {
				e := simple(k, simple(first, a))
				if k == tree.Call {
					e.Kids = append(e.Kids, simple(second, a), a)
				} else if len(e.Kids) == 2 {
					e.Kids[1] = simple(second, a)
				}
				m := view.Method{Type: name("int"), Name: name("m"), Return: e}
				asksOf(t, method(m), none, "")
				asksOf(t, method(m), func() int { return 1 }, " ")
				if len(e.Kids) < 2 {
					break
				}
			}
		}
	}
}

// Each kind of statement within each kind of statement.
func TestStatementsWithinStatements(t *testing.T) {
	a := simple(tree.Ident, view.Exp{})
	kinds := []tree.Kind{tree.Block, tree.If, tree.While, tree.Print, tree.Assign, tree.Store}
	make1 := func(k tree.Kind, kids ...view.Stmt) view.Stmt {
		s := view.Stmt{Kind: k, Exps: []view.Exp{a}, Kids: kids}
		switch k {
		case tree.Block:
			s.Exps = nil
		case tree.While:
			s.Kids = kids[:1]
		case tree.Print, tree.Assign:
			s.Kids = nil
		case tree.Store:
			s.Kids, s.Exps = nil, []view.Exp{a, simple(tree.This, a)}
		}
		if k == tree.Assign || k == tree.Store {
			s.Name = name("v")
		}
		return s
	}
	block := make1(tree.Block)
	for _, k := range kinds {
		for _, first := range kinds {
			for _, second := range kinds {
				body := []view.Stmt{make1(k, make1(first, block, block), make1(second, block, block))}
				m := view.Method{Type: name("int"), Name: name("m"), Vars: []view.Var{{Type: name("v"), Name: name("v")}}, Body: append(body, body...), Return: a}
				for _, g := range gaps() {
					asksOf(t, method(m), none, g...)
					asksOf(t, []view.Class{{Main: true, Name: name("M"), Arg: name("a"), Body: body}}, none, g...)
				}
			}
		}
	}
}

// With all kinds of gaps and with brackets drawn anew a drawn view is read as it was written, and as the same one but for places.
func TestDrawnFiles(t *testing.T) {
	for seed := range uint64(1000) {
		d := newDrawer(seed)
		list := d.classes()
		s := text(list, none, " ")
		if len(s) > mostBytes {
			continue
		}
		first := of(t, s)
		for _, g := range gaps() {
			asksOf(t, list, none, g...)
			asksOf(t, list, d.brackets, g...)
			s := text(list, d.brackets, g...)
			if len(s) > mostBytes {
				continue
			}
			if other := of(t, s); !view.Same(first, other) || !view.Same(other, first) {
				t.Errorf("%s: with other blanks and brackets it isn't the same", s)
			}
		}
	}
}

// text is the text of some classes.
func text(list []view.Class, more func() int, gaps ...string) string {
	s, _ := written(list, more, gaps...)
	return s
}

// How far constructs may lie within one another, and where the one too many is.
func TestDeep(t *testing.T) {
	rep := strings.Repeat
	for _, x := range []struct{ ahead, open, mid, shut, behind string }{
		{aheadExp, "!", "a", "", behindExp}, {aheadExp, "(", "a", ")", behindExp}, {aheadExp, "a[", "a", "]", behindExp}, {aheadExp, "new int[", "a", "]", behindExp}, {aheadExp, "a.m(", "a", ")", behindExp}, {aheadExp, "a+(", "a", ")", behindExp},
		{aheadStmt, "{", "", "}", "}}"}, {aheadStmt, "while(a)", "{}", "", "}}"}, {aheadStmt, "if(a){}else ", "{}", "", "}}"},
	} {
		most := mostDeep
		if x.mid == "{}" {
			most--
		}
		s := x.ahead + rep(x.open, most) + x.mid + rep(x.shut, most) + x.behind
		list := of(t, s)
		asksPlaces(t, s, list)
		if got := depth(list); got != deepest(x.open) {
			t.Errorf("%s..: %d deep, want %d", x.open, got, deepest(x.open))
		}
		s = x.ahead + rep(x.open, most+1) + x.mid + rep(x.shut, most+1) + x.behind
		_, want, _ := decl.Read(s)
		if list, at, err := view.Of(s); list != nil || at != want || at <= len(x.ahead) || err != api.ErrDeep {
			t.Errorf("%s..: %d, %d, %v", x.open, len(list), at, err)
		}
	}
}

// deepest tells how many expressions or statements lie within one another, when constructs lie as deep as can be.
func deepest(open string) int {
	switch open {
	case "(":
		return 1
	case "{", "while(a)", "if(a){}else ":
		return mostDeep
	}
	return mostDeep + 1
}

// depth tells how many expressions or statements of a view lie within one another.
func depth(list []view.Class) int {
	var exp func(e view.Exp) int
	exp = func(e view.Exp) int {
		most := 0
		for _, k := range e.Kids {
			most = max(most, exp(k))
		}
		return most + 1
	}
	var stmts func(list []view.Stmt) int
	stmts = func(list []view.Stmt) int {
		most := 0
		for _, s := range list {
			most = max(most, stmts(s.Kids)+1)
		}
		return most
	}
	if list[0].Main {
		return stmts(list[0].Body)
	}
	return exp(list[0].Methods[0].Return)
}

// In 200 brackets an expression keeps its own places.
func TestManyBrackets(t *testing.T) {
	e := expOf(t, strings.Repeat("( ", mostDeep)+"a+1"+strings.Repeat(" )", mostDeep))
	if got := told(e, len(aheadExp)); got != "Plus 400-403 (Ident 400-401 a@400) (Number 402-403 #1)" {
		t.Error(got)
	}
}

// What is long lies as deep as it is long, though it is one construct.
func TestLong(t *testing.T) {
	for _, x := range []struct {
		sign string
		kind tree.Kind
	}{{"+", tree.Plus}, {"-", tree.Minus}, {"*", tree.Times}, {"<", tree.Less}, {"&&", tree.And}} {
		most := (mostBytes - len(aheadExp+behindExp) - 1) / (1 + len(x.sign))
		e := expOf(t, "a"+strings.Repeat(x.sign+"a", most))
		n, to := 0, e.To
		for ; e.Kind == x.kind; e = e.Kids[0] {
			if e.From != len(aheadExp) || e.To != to || len(e.Kids) != 2 || told(e.Kids[1], to-1) != "Ident 0-1 a@0" {
				t.Fatal(x.sign, n, e.From, e.To)
			}
			n, to = n+1, to-1-len(x.sign)
		}
		if n != most || told(e, len(aheadExp)) != "Ident 0-1 a@0" {
			t.Error(x.sign, n, told(e, len(aheadExp)))
		}
	}
	if list := of(t, strings.Repeat("class A{}", mostBytes/9)); len(list) != mostBytes/9 || list[443].Name != (view.Name{Text: "A", At: 443*9 + 6}) {
		t.Error(len(list))
	}
	if list := of(t, "class A{"+strings.Repeat("A a;", 900)+"}"); len(list[0].Fields) != 900 || list[0].Fields[899] != (view.Var{Type: view.Name{Text: "A", At: 3604}, Name: view.Name{Text: "a", At: 3606}, From: 3604, To: 3608}) {
		t.Error(len(list[0].Fields))
	}
}

// Texts, names and numbers at their limits, and beyond.
func TestLimits(t *testing.T) {
	long := strings.Repeat("n", 64)
	full := "class A { int b; }"
	full += strings.Repeat(" ", mostBytes-len(full))
	for _, s := range []string{full, strings.Repeat("/", mostBytes), full[:10] + full[18:] + "int b; }"} {
		list, at, err := view.Of(s)
		if at != 0 || err != nil || len(list) > 1 {
			t.Errorf("%.50q..: %d, %v", s, at, err)
		}
		asksPlaces(t, s, list)
		if list, at, err := view.Of(s + " "); list != nil || at != mostBytes || err != api.ErrLarge {
			t.Errorf("%.50q..: %d, %d, %v", s, len(list), at, err)
		}
	}
	if list, at, err := view.Of("?" + full); list != nil || at != mostBytes || err != api.ErrLarge {
		t.Error(list, at, err)
	}
	if c := of(t, "class "+long+" extends "+long+" { "+long+" "+long+"; }")[0]; c.Name.Text != long || c.Super.Text != long || c.Fields[0].Type.Text != long || c.Fields[0].Name.Text != long {
		t.Error(c)
	}
	if e := expOf(t, "2147483647"); e.Number != 2147483647 {
		t.Error(e)
	}
}

// Wrong texts, and where they are wrong (at @).
func TestWrongTexts(t *testing.T) {
	long := strings.Repeat("n", 65)
	for _, x := range []struct {
		s   string
		err error
	}{
		{"@int", api.ErrForm}, {"@a", api.ErrForm}, {"class@", api.ErrForm}, {"class @{ }", api.ErrForm}, {"class @main { }", api.ErrForm}, {"class A@", api.ErrForm}, {"class A @B { }", api.ErrForm}, {"class A extends @{ }", api.ErrForm}, {"class A {@", api.ErrForm}, {"class A { int @}", api.ErrForm},
		{"class A { x @}", api.ErrForm}, {"class A { int x@", api.ErrForm}, {"class A { int x @= 1; }", api.ErrForm}, {"class A { } @}", api.ErrForm}, {"class A { } class@", api.ErrForm}, {"class A { public m@() { } }", api.ErrForm}, {"class A { public @void m() { } }", api.ErrForm}, {"class A { public int m(@,) { } }", api.ErrForm}, {"class A { public int m(int a,@) { } }", api.ErrForm},
		{"class A { public int m() { @} }", api.ErrForm}, {"class A { public int m() { return @; } }", api.ErrForm}, {"class A { public int m() { return a; @b = c; } }", api.ErrForm}, {"class A { public int m() { a = b; @int c; return a; } }", api.ErrForm}, {"class A { public int m() { return a; } @int b; }", api.ErrForm},
		{"class M { public static void main(String[] a) { @int b; } }", api.ErrForm}, {"class M { public static void main(String[] a) { @return b; } }", api.ErrForm}, {"class M { public static @int main(String[] a) { } }", api.ErrForm}, {"class M { public static void main(String[] a) { } @int b; }", api.ErrForm}, {"class M extends A { public @static void main(String[] a) { } }", api.ErrForm},
		{"class A { @? }", api.ErrForm}, {"class A { } @/*", api.ErrForm}, {"class A { int @" + long + "; }", api.ErrForm}, {aheadExp + "@2147483648" + behindExp, api.ErrForm}, {aheadExp + "@00" + behindExp, api.ErrForm}, {aheadExp + "a @& b" + behindExp, api.ErrForm}, {"int @? class", api.ErrForm}, {"class @\xff", api.ErrForm}, {aheadExp + "!a.b@" + behindExp, api.ErrForm}, {"class A { @\xe4 }", api.ErrForm}, {"class A { @\x00 }", api.ErrForm},
		{aheadExp + strings.Repeat("!", mostDeep) + "@!a" + behindExp, api.ErrDeep}, {aheadStmt + strings.Repeat("{", mostDeep) + "@{", api.ErrDeep},
	} {
		at := strings.Index(x.s, "@")
		s := strings.Replace(x.s, "@", "", 1)
		if list, got, err := view.Of(s); list != nil || got != at || err != x.err {
			t.Errorf("%.200q: %v, %d, %v, want %d, %v", s, list, got, err, at, x.err)
		}
	}
}

// Drawn texts with a token left out, doubled or put in place of another one: either layer 11 reads them, or its error and place are told.
func TestSpoiltTexts(t *testing.T) {
	others := []string{"class", "{", "}", "(", ")", ";", "a", "int", "public", "return", "=", ".", "length", "1", "!", "&&", "?", "[", "]", ","}
	for seed := range uint64(60) {
		d := newDrawer(seed)
		tokens := strings.Fields(text(d.classes(), d.brackets, " "))
		for i := range tokens {
			other := others[d.IntN(len(others))]
			for _, part := range [][]string{{}, {tokens[i], tokens[i]}, {other}, {tokens[i], other}} {
				s := strings.Join(slices.Concat(tokens[:i], part, tokens[i+1:]), " ")
				list, at, err := view.Of(s)
				_, wantAt, want := decl.Read(s)
				if at != wantAt || err != want || err != nil && list != nil {
					t.Fatalf("%s: %d, %v, want %d, %v", s, at, err, wantAt, want)
				}
				if err == nil {
					asksPlaces(t, s, list)
				}
			}
		}
	}
}
