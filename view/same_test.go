package view_test

import (
	"reflect"
	"strconv"
	"strings"
	"testing"

	"namesake/api"
	"namesake/tree"
	"namesake/view"
)

// full is a view whose every list and text says something, though no text has such a view.
func full() []view.Class {
	n := func(text string) view.Name { return view.Name{Text: text, At: 3} }
	a, b := view.Exp{Kind: tree.Number, Name: n("a"), Number: 1, From: 1, To: 2}, view.Exp{Kind: tree.Ident, Name: n("b"), Number: 2, From: 5, To: 6}
	exp := func(kids ...view.Exp) view.Exp {
		return view.Exp{Kind: tree.Call, Name: n("c"), Number: 3, From: 7, To: 8, Kids: kids}
	}
	v := func(text string) view.Var { return view.Var{Type: n(text), Name: n(text + "1"), From: 9, To: 10} }
	stmt := func(kids ...view.Stmt) view.Stmt {
		return view.Stmt{Kind: tree.Store, Name: n("d"), From: 11, To: 12, Exps: []view.Exp{exp(a, exp(b, a)), b}, Kids: kids}
	}
	m := view.Method{Type: n("e"), Name: n("f"), Params: []view.Var{v("g"), v("h")}, Vars: []view.Var{v("i"), v("j")}, Body: []view.Stmt{stmt(stmt()), {Kind: tree.Block}}, Return: exp(b, a)}
	c := view.Class{Main: true, Name: n("k"), Super: n("l"), Fields: []view.Var{v("m"), v("n")}, Methods: []view.Method{m, {Name: n("o"), Return: a}}, Arg: n("p"), Body: []view.Stmt{stmt(stmt(stmt(), view.Stmt{}))}}
	return []view.Class{c, {Name: n("q")}}
}

// parts goes through each part of a view, with its way from the root, as something that can be changed.
func parts(v reflect.Value, way string, yield func(way string, v reflect.Value)) {
	switch v.Kind() {
	case reflect.Struct:
		for i := range v.NumField() {
			parts(v.Field(i), way+"."+v.Type().Field(i).Name, yield)
		}
	case reflect.Slice:
		yield(way, v)
		for i := range v.Len() {
			parts(v.Index(i), way+"."+strconv.Itoa(i), yield)
		}
	default:
		yield(way, v)
	}
}

// asksSame asks of two views, either way round, whether they are the same.
func asksSame(t *testing.T, way string, a, b []view.Class, want bool) {
	t.Helper()
	if view.Same(a, b) != want || view.Same(b, a) != want {
		t.Errorf("%s: not %v", way, want)
	}
}

// Two views that differ in one part alone differ, if that part isn't a place.
func TestSameInEachPart(t *testing.T) {
	var ways []string
	look := full()
	parts(reflect.ValueOf(&look).Elem(), "", func(way string, v reflect.Value) { ways = append(ways, way) })
	places := 0
	for _, way := range ways {
		for which := range 5 {
			a, b := full(), full()
			changed := false
			parts(reflect.ValueOf(&b).Elem(), "", func(w string, v reflect.Value) {
				if w == way && !changed {
					changed = change(v, which)
				}
			})
			place := strings.HasSuffix(way, ".At") || strings.HasSuffix(way, ".From") || strings.HasSuffix(way, ".To")
			if place && changed {
				places++
			}
			asksSame(t, way, a, b, place || !changed)
			asksSame(t, way, b, b, true)
		}
	}
	if len(ways) < 300 || places < 300 {
		t.Error(len(ways), places)
	}
}

// change changes a part in one of several ways, and tells whether it could.
func change(v reflect.Value, which int) bool {
	switch v.Kind() {
	case reflect.String:
		old := v.String()
		v.SetString([]string{old + "x", "x" + old, "", "A", old + "1"}[which])
		return v.String() != old
	case reflect.Int:
		v.SetInt(v.Int() + []int64{1, -1, 1 << 62, -9, 100}[which])
		return true
	case reflect.Bool:
		v.SetBool(!v.Bool())
		return true
	}
	n := v.Len()
	if which < 2 || n == 0 {
		v.Set(reflect.Append(v, reflect.Zero(v.Type().Elem()))) // one more
		return true
	}
	if which == 2 {
		v.Set(v.Slice(0, n-1))
		return true
	}
	if which == 3 {
		v.Set(v.Slice(1, n))
		return true
	}
	if n == 1 || reflect.DeepEqual(v.Index(0).Interface(), v.Index(1).Interface()) {
		return false
	}
	list := reflect.MakeSlice(v.Type(), 0, n) // two in the other order
	list = reflect.Append(list, v.Index(1), v.Index(0))
	v.Set(reflect.AppendSlice(list, v.Slice(2, n)))
	return true
}

// All places are other ones, and nothing else is.
func TestSameButForPlaces(t *testing.T) {
	a, b := full(), full()
	n := int64(1000)
	parts(reflect.ValueOf(&b).Elem(), "", func(way string, v reflect.Value) {
		if strings.HasSuffix(way, ".At") || strings.HasSuffix(way, ".From") || strings.HasSuffix(way, ".To") {
			n = -n - 1
			v.SetInt(n)
		}
	})
	asksSame(t, "places", a, b, true)
}

// nil and empty lists say the same.
func TestSameOfEmptyLists(t *testing.T) {
	empty := []view.Class{{Fields: []view.Var{}, Methods: []view.Method{}, Body: []view.Stmt{}}, {Methods: []view.Method{{Params: []view.Var{}, Vars: []view.Var{}, Body: []view.Stmt{{Exps: []view.Exp{}, Kids: []view.Stmt{}}}, Return: view.Exp{Kids: []view.Exp{}}}}}}
	lists := []view.Class{{}, {Methods: []view.Method{{Body: []view.Stmt{{}}}}}}
	asksSame(t, "empty lists", empty, lists, true)
	asksSame(t, "no classes", nil, []view.Class{}, true)
	asksSame(t, "no classes", nil, nil, true)
	asksSame(t, "one class", nil, []view.Class{{}}, false)
}

func TestSameOfTexts(t *testing.T) {
	like := func(same bool, texts ...string) {
		t.Helper()
		for i, s := range texts {
			for k, x := range texts {
				if got := view.Same(of(t, s), of(t, x)); got != (same || i == k) {
					t.Errorf("%q, %q: %v", s, x, got)
				}
			}
		}
	}
	like(true, "", " ", "// class A { }", "/**/")
	like(true, "class A{int[]a;}", " class A { int [ ] a ; } ", "class A{int/**/[//\n]a;}")
	like(true, aheadExp+"a+b*c"+behindExp, aheadExp+"(a)+(b*c)"+behindExp, aheadExp+"((a + (b) * c))"+behindExp)
	like(false, aheadExp+"a+b*c"+behindExp, aheadExp+"(a+b)*c"+behindExp, aheadExp+"a*b+c"+behindExp, aheadExp+"a+b*d"+behindExp, aheadExp+"a+(b-c)"+behindExp)
	like(false, aheadExp+"1"+behindExp, aheadExp+"2"+behindExp, aheadExp+"true"+behindExp, aheadExp+"false"+behindExp, aheadExp+"this"+behindExp, aheadExp+"a"+behindExp, aheadExp+"new a()"+behindExp, aheadExp+"new int[1]"+behindExp, aheadExp+"a.a()"+behindExp, aheadExp+"a.a(a)"+behindExp, aheadExp+"a.b(a)"+behindExp, aheadExp+"a.a(a,a)"+behindExp, aheadExp+"a[a]"+behindExp, aheadExp+"a.length"+behindExp)
	like(false, "class A { }", "class B { }", "class A extends A { }", "class A extends B { }", "class A { } class A { }", "class M { public static void main(String[] A) { } }", "class A { int A; }", "class A { boolean A; }", "class A { int[] A; }", "class A { A A; }")
	like(false, "class A { public static void main(String[] a) { } }", "class A { public static void main(String[] b) { } }", "class A { public static void main(String[] a) { { } } }", "class A { public static void main(String[] a) { { } { } } }", "class A { public static void main(String[] a) { { { } } } }", "class A { }")
	like(false, "class A { int a; A b; }", "class A { A b; int a; }", "class A { int a; }", "class A { int a; A b; A c; }", "class A { int a; } class A { A b; }")
	like(false, "class A { public int m(int a) { return b; } }", "class A { public int m() { int a; return b; } }", "class A { public int m(int a) { int a; return b; } }", "class A { int a; public int m() { return b; } }", "class A { public int m(int a, int a) { return b; } }", "class A { public int n(int a) { return b; } }", "class A { public A m(int a) { return b; } }", "class A { public int m(int a) { return c; } }", "class A { public int m(int a) { a = b; return b; } }")
	like(false, "class A { } class B { }", "class B { } class A { }", "class A { } class B { } class A { }", "class A { } class B extends A { }")
}

func TestAll(t *testing.T) {
	main := "class M { public static void main(String[] a) { } }"
	eight := strings.Split(strings.Repeat("class A { int a; }\n|", 7)+main, "|")
	for _, texts := range [][]string{
		{""}, {" // a\n"}, {"class A { }"}, {"class A { } ", " class A { int b; } class B extends A { }\n", main}, {"", "class A { }", "", ""}, {main, main}, {wide, main, wide}, eight, {strings.Repeat(" ", mostBytes), "class A { }"},
	} {
		all, pos, err := view.All(workspace(texts...))
		if len(all) != len(texts) || pos != (api.Pos{}) || err != nil {
			t.Errorf("%.300q: %d, %v, %v", texts, len(all), pos, err)
			continue
		}
		for i, s := range texts {
			if !same(all[i], of(t, s)) {
				t.Errorf("%.300q: of file %d %+v", texts, i, all[i])
			}
		}
	}
}

// workspace is files of these texts, in order.
func workspace(texts ...string) []api.File {
	var list []api.File
	for i, s := range texts {
		list = append(list, api.File{Name: "F" + strconv.Itoa(i) + ".java", Text: s})
	}
	return list
}

// Of several files that fail the first one's failure is told.
func TestAllFails(t *testing.T) {
	deep := aheadStmt + strings.Repeat("{", mostDeep+1)
	for _, x := range []struct {
		texts []string
		pos   api.Pos
		err   error
	}{
		{[]string{"int"}, api.Pos{File: 0, At: 0}, api.ErrForm}, {[]string{"class A { int }"}, api.Pos{File: 0, At: 14}, api.ErrForm}, {[]string{"class A { }", "class ? "}, api.Pos{File: 1, At: 6}, api.ErrForm}, {[]string{"class A { } }", "class A { }"}, api.Pos{File: 0, At: 12}, api.ErrForm},
		{[]string{"", "class A { }", deep}, api.Pos{File: 2, At: len(deep) - 1}, api.ErrDeep}, {[]string{"", deep, "?"}, api.Pos{File: 1, At: len(deep) - 1}, api.ErrDeep}, {[]string{"", "class A", deep}, api.Pos{File: 1, At: 7}, api.ErrForm},
		{[]string{"class A {", "}", "?"}, api.Pos{File: 0, At: 9}, api.ErrForm}, {[]string{"", "", "", "", "", "", "", "/*"}, api.Pos{File: 7, At: 0}, api.ErrForm},
	} {
		if all, pos, err := view.All(workspace(x.texts...)); all != nil || pos != x.pos || err != x.err {
			t.Errorf("%.300q: %d, %v, %v, want %v, %v", x.texts, len(all), pos, err, x.pos, x.err)
		}
	}
}

// A workspace that isn't right is answered ErrForm at no place, whatever its files say.
func TestAllOfNoWorkspace(t *testing.T) {
	large := strings.Repeat(" ", mostBytes+1)
	for _, list := range [][]api.File{
		nil, {}, make([]api.File, 1), make([]api.File, 9), workspace(make([]string, 9)...), workspace(large), workspace("class A { }", large), workspace("class A { int }", large), workspace("?", "", large),
		{{Name: "a", Text: "class A { }"}, {Name: "a", Text: "class B { }"}}, {{Name: "a", Text: "class ?"}, {Name: "a"}}, {{Name: "", Text: "class A { }"}}, {{Name: "a b"}}, {{Name: "a/b", Text: "?"}}, {{Name: strings.Repeat("a", 41)}}, {{Name: "a"}, {Name: "\xff"}},
	} {
		if all, pos, err := view.All(list); all != nil || pos != (api.Pos{}) || err != api.ErrForm {
			t.Errorf("%.300q: %d, %v, %v", list, len(all), pos, err)
		}
	}
	if all, _, err := view.All([]api.File{{Name: strings.Repeat("a", 40), Text: large[1:]}}); len(all) != 1 || err != nil {
		t.Error(len(all), err)
	}
}

// spoil changes all of some classes, and what room their lists have.
func spoil(list []view.Class) {
	room := list[:cap(list)]
	for i, c := range room {
		for _, m := range c.Methods[:cap(c.Methods)] {
			spoilVars(m.Params)
			spoilVars(m.Vars)
			spoilStmts(m.Body)
			spoilExps(m.Return.Kids)
		}
		clear(c.Methods[:cap(c.Methods)])
		spoilVars(c.Fields)
		spoilStmts(c.Body)
		room[i] = view.Class{Main: !c.Main, Name: name("spoilt"), Super: name("spoilt"), Arg: name("spoilt")}
	}
}

// spoilVars changes all of some variables likewise.
func spoilVars(list []view.Var) {
	room := list[:cap(list)]
	for i := range room {
		room[i] = view.Var{Type: name("spoilt"), Name: name("spoilt"), From: -7, To: -7}
	}
}

// texts are those of which views are asked again.
func texts() []string {
	all := []string{"", "class A { }", wide, "class A { int a; int b; int c; public int m(int d, int e, int f) { int g; int h; int i; j = k; l = m; n = o; return p.q(r, s, t); } }", "class M { public static void main(String[] a) { b = c; d = e; f = g; { } } }", strings.Repeat("class A{}", 20)}
	for seed := range uint64(30) {
		d := newDrawer(seed)
		if s := text(d.classes(), d.brackets, " "); len(s) <= mostBytes {
			all = append(all, s)
		}
	}
	return all
}

// Who changes an answer changes no other one, nor what is told later.
func TestAnswersAreNew(t *testing.T) {
	for _, s := range texts() {
		one, two := of(t, s), of(t, s)
		want := deepCopy(reflect.ValueOf(two)).Interface()
		spoil(one)
		if three := of(t, s); !reflect.DeepEqual(two, want) || !reflect.DeepEqual(three, want) {
			t.Errorf("%s: %+v, %+v", s, two, three)
		}
		list := workspace(s, s)
		first, _, _ := view.All(list)
		spoil(first[0])
		if second, _, _ := view.All(list); !reflect.DeepEqual(first[1], want) || !reflect.DeepEqual(second[0], want) {
			t.Errorf("All of %s: %+v, %+v", s, first[1], second[0])
		}
	}
}

// Lists are taken with their spare room: no place in memory is in two lists of one answer, or of two, or of an answer and an argument.
func TestListsShareNothing(t *testing.T) {
	for _, s := range texts() {
		seen := map[uintptr]bool{}
		one, two := of(t, s), of(t, s)
		all, _, _ := view.All(workspace(s, s))
		asksShared(t, seen, reflect.ValueOf(one))
		asksShared(t, seen, reflect.ValueOf(two))
		asksShared(t, seen, reflect.ValueOf(all))
		var loops [3][]any // kept, lest their memory is used again
		for _, c := range one {
			for _, m := range append(c.Methods, view.Method{Body: c.Body}) {
				for x := range view.Stmts(m.Body) {
					loops[0] = append(loops[0], x)
				}
				for x := range view.Within(m.Body) {
					loops[1] = append(loops[1], x)
				}
				for x := range view.Exps(m.Return) {
					loops[2] = append(loops[2], x)
				}
			}
		}
		for _, list := range loops {
			for _, x := range list {
				asksShared(t, seen, reflect.ValueOf(x))
			}
		}
	}
}

// asksShared asks that no list of a value, nor its spare room, was seen ahead.
func asksShared(t *testing.T, seen map[uintptr]bool, v reflect.Value) {
	t.Helper()
	switch v.Kind() {
	case reflect.Struct:
		for i := range v.NumField() {
			asksShared(t, seen, v.Field(i))
		}
	case reflect.Slice:
		room := v.Slice(0, v.Cap())
		for i := range room.Len() {
			at := room.Index(i).Addr().Pointer()
			if seen[at] {
				t.Fatal("a place in memory is in two lists")
			}
			seen[at] = true
			asksShared(t, seen, room.Index(i))
		}
	}
}

// What is handed in stays as it was, and what changes later changes no answer.
func TestFilesStay(t *testing.T) {
	room := append(workspace("class A { int a; } ", wide), workspace("spare")...)
	list := room[:2]
	before := append([]api.File(nil), room...)
	all, _, err := view.All(list)
	if err != nil || !reflect.DeepEqual(room, before) {
		t.Errorf("%v, %v", room, err)
	}
	for i := range room {
		room[i] = api.File{Name: "spoilt", Text: "spoilt"}
	}
	for i, c := range all {
		if !reflect.DeepEqual(c, of(t, before[i].Text)) {
			t.Errorf("file %d: %+v", i, c)
		}
	}
}

// Whoever asks again is told the same.
func TestTheSame(t *testing.T) {
	for _, s := range append(texts(), "class A", "class A { } }", "?", aheadStmt+strings.Repeat("{", mostDeep+1), strings.Repeat(" ", mostBytes+1)) {
		list, at, err := view.Of(s)
		all, pos, fault := view.All(workspace("", s))
		for range 3 {
			list2, at2, err2 := view.Of(s)
			all2, pos2, fault2 := view.All(workspace("", s))
			if !reflect.DeepEqual(list, list2) || at != at2 || err != err2 || !reflect.DeepEqual(all, all2) || pos != pos2 || fault != fault2 {
				t.Errorf("%.100q: %+v, %d, %v, %v, %v", s, list2, at2, err2, pos2, fault2)
			}
		}
	}
}
