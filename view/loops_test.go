package view_test

import (
	"iter"
	"reflect"
	"slices"
	"strings"
	"testing"

	"namesake/tree"
	"namesake/view"
)

// wide is a text with each kind of statement and of expression, and what it says within one another.
const wide = "class A { public int m() { { a = b + 1; { } c[d[0]] = e.f(g, !h, (i)); } if (j && k < l) while (m) n = new int[o]; else { " + printer + "(p.length); } q = new R().s(this.t()); u[v - 1] = w * (true); return x; } }"

// bodies are lists of statements: those of wide, drawn ones, and ones made by hand.
func bodies(t *testing.T) [][]view.Stmt {
	all := [][]view.Stmt{nil, {}, of(t, wide)[0].Methods[0].Body, handmade(), {{}}, {{}, {Kids: make([]view.Stmt, 3), Exps: make([]view.Exp, 2)}}}
	for seed := range uint64(100) {
		_, list := written(method(view.Method{Type: name("A"), Name: name("m"), Body: newDrawer(seed).stmts(4), Return: view.Exp{Kind: tree.This}}), none, " ")
		all = append(all, list[0].Methods[0].Body)
	}
	return all
}

// handmade are statements of which no text says anything alike; From tells their order.
func handmade() []view.Stmt {
	e := func(from int, kids ...view.Exp) view.Exp {
		return view.Exp{Kind: -1, Name: view.Name{Text: "no name", At: -from}, Number: -5, From: from, To: -from, Kids: kids}
	}
	s := func(from int, exps []view.Exp, kids ...view.Stmt) view.Stmt {
		return view.Stmt{Kind: tree.Leaf, Name: view.Name{Text: "?", At: from}, From: from, To: -from, Exps: exps, Kids: kids}
	}
	return []view.Stmt{
		s(1, []view.Exp{e(1, e(2), e(3, e(4))), e(5)}, s(2, []view.Exp{e(6)}), s(3, nil, s(4, []view.Exp{e(7, e(8)), e(9)}))),
		s(5, nil), s(6, []view.Exp{e(10), e(11, e(12), e(13), e(14))}, s(7, []view.Exp{e(15)}), s(8, nil)),
	}
}

// expsByHand gathers an expression and all within by a list of what is still to come.
func expsByHand(list ...view.Exp) (all []view.Exp) {
	todo := slices.Clone(list)
	for len(todo) > 0 {
		e := todo[0]
		all = append(all, e)
		todo = slices.Concat(e.Kids, todo[1:])
	}
	return all
}

// stmtsByHand gathers statements and all within likewise.
func stmtsByHand(list []view.Stmt) (all []view.Stmt) {
	todo := slices.Clone(list)
	for len(todo) > 0 {
		s := todo[0]
		all = append(all, s)
		todo = slices.Concat(s.Kids, todo[1:])
	}
	return all
}

// withinByHand gathers all expressions within statements.
func withinByHand(list []view.Stmt) (all []view.Exp) {
	for _, s := range stmtsByHand(list) {
		all = append(all, expsByHand(s.Exps...)...)
	}
	return all
}

// same tells whether two lists say the same all over, be they nil or empty.
func same[T any](a, b []T) bool { return reflect.DeepEqual(a, b) || len(a) == 0 && len(b) == 0 }

func TestLoops(t *testing.T) {
	for _, body := range bodies(t) {
		if got := slices.Collect(view.Stmts(body)); !same(got, stmtsByHand(body)) {
			t.Errorf("Stmts of %+v:\n%+v", body, got)
		}
		if got := slices.Collect(view.Within(body)); !same(got, withinByHand(body)) {
			t.Errorf("Within %+v:\n%+v", body, got)
		}
		for _, e := range withinByHand(body) {
			if got := slices.Collect(view.Exps(e)); !same(got, expsByHand(e)) {
				t.Errorf("Exps of %+v:\n%+v", e, got)
			}
		}
	}
	if got := slices.Collect(view.Exps(view.Exp{})); !reflect.DeepEqual(got, []view.Exp{{}}) {
		t.Error(got)
	}
}

// The order, written out: by what each statement and expression of the text wide begins with.
func TestOrder(t *testing.T) {
	body := of(t, wide)[0].Methods[0].Body
	var got []string
	for s := range view.Stmts(body) {
		got = append(got, kindNames[s.Kind]+s.Name.Text)
	}
	if want := strings.Fields("Block Assigna Block Storec If While Assignn Block Print Assignq Storeu"); !slices.Equal(got, want) {
		t.Errorf("%q, want %q", got, want)
	}
	got = nil
	for e := range view.Within(body) {
		got = append(got, kindNames[e.Kind]+e.Name.Text)
	}
	want := strings.Fields("Plus Identb Number Index Identd Number Callf Idente Identg Not Identh Identi And Identj Less Identk Identl Identm Array Idento Length Identp Calls ObjectR Callt This Minus Identv Number Times Identw True")
	if !slices.Equal(got, want) {
		t.Errorf("%q, want %q", got, want)
	}
	got = nil
	for e := range view.Exps(body[0].Kids[2].Exps[1]) {
		got = append(got, wide[e.From:e.To])
	}
	if want := []string{"e.f(g, !h, (i))", "e", "g", "!h", "h", "i"}; !slices.Equal(got, want) {
		t.Errorf("%q, want %q", got, want)
	}
}

// In a text that was read what begins first comes first, and of two that begin alike the longer one.
func TestOrderInTheText(t *testing.T) {
	byPlace := func(from1, to1, from2, to2 int) int {
		if from1 != from2 {
			return from1 - from2
		}
		return to2 - to1
	}
	for seed := range uint64(200) {
		d := newDrawer(seed)
		s := text(method(view.Method{Type: name("A"), Name: name("m"), Body: d.stmts(4), Return: d.exp(3)}), d.brackets, "")
		if len(s) > mostBytes {
			continue
		}
		m := of(t, s)[0].Methods[0]
		exps := slices.Collect(view.Exps(m.Return))
		stmts := slices.Collect(view.Stmts(m.Body))
		for _, list := range [][]view.Exp{exps, slices.Collect(view.Within(m.Body))} {
			if !slices.IsSortedFunc(list, func(a, b view.Exp) int { return byPlace(a.From, a.To, b.From, b.To) }) {
				t.Errorf("%s: expressions out of order", s)
			}
		}
		if !slices.IsSortedFunc(stmts, func(a, b view.Stmt) int { return byPlace(a.From, a.To, b.From, b.To) }) {
			t.Errorf("%s: statements out of order", s)
		}
	}
}

// asksLeft asks that an iterator may be left at each item, ranged over again, and ranged over within itself.
func asksLeft[T any](t *testing.T, all iter.Seq[T], want []T) {
	t.Helper()
	for most := range len(want) {
		var got []T
		for x := range all {
			got = append(got, x)
			if len(got) > most {
				break
			}
		}
		if !same(got, want[:most+1]) {
			t.Errorf("left behind %d: %+v", most+1, got)
		}
		calls := 0
		all(func(T) bool { // told that it is left, it tells no more
			calls++
			return calls <= most
		})
		if calls != most+1 {
			t.Errorf("left behind %d, it goes on to %d", most+1, calls)
		}
	}
	for range 2 {
		if got := slices.Collect(all); !same(got, want) {
			t.Errorf("ranged over again: %+v", got)
		}
	}
	pairs := 0
	for range all {
		for range all {
			pairs++
		}
	}
	if pairs != len(want)*len(want) {
		t.Errorf("%d pairs of %d", pairs, len(want))
	}
}

func TestLeftEarly(t *testing.T) {
	for _, body := range bodies(t) {
		asksLeft(t, view.Stmts(body), stmtsByHand(body))
		asksLeft(t, view.Within(body), withinByHand(body))
		for _, s := range body {
			for _, e := range s.Exps {
				asksLeft(t, view.Exps(e), expsByHand(e))
			}
		}
	}
}

// spoilExps changes all of some expressions, and what room their lists have.
func spoilExps(list []view.Exp) {
	room := list[:cap(list)]
	for i := range room {
		spoilExps(room[i].Kids)
		room[i] = view.Exp{Kind: -7, Name: view.Name{Text: "spoilt", At: -7}, Number: -7, From: -7, To: -7}
	}
}

// spoilStmts changes all of some statements likewise.
func spoilStmts(list []view.Stmt) {
	room := list[:cap(list)]
	for i := range room {
		spoilExps(room[i].Exps)
		spoilStmts(room[i].Kids)
		room[i] = view.Stmt{Kind: -7, Name: view.Name{Text: "spoilt", At: -7}, From: -7, To: -7}
	}
}

// copyOf are the same statements in other memory, with the same spare room.
func copyOf(list []view.Stmt) []view.Stmt {
	return deepCopy(reflect.ValueOf(list)).Interface().([]view.Stmt)
}

// deepCopy is the same value in other memory, its lists' spare room included.
func deepCopy(v reflect.Value) reflect.Value {
	out := reflect.New(v.Type()).Elem()
	switch v.Kind() {
	case reflect.Struct:
		for i := range v.NumField() {
			out.Field(i).Set(deepCopy(v.Field(i)))
		}
	case reflect.Slice:
		if v.IsNil() {
			return out
		}
		room := v.Slice(0, v.Cap())
		list := reflect.MakeSlice(v.Type(), v.Cap(), v.Cap())
		for i := range v.Cap() {
			list.Index(i).Set(deepCopy(room.Index(i)))
		}
		out.Set(list.Slice(0, v.Len()))
	default:
		out.Set(v)
	}
	return out
}

// roomy are statements whose lists have spare room, which isn't empty.
func roomy() []view.Stmt {
	ident := func(text string) view.Exp { return view.Exp{Kind: tree.Ident, Name: name(text)} }
	kids := append(make([]view.Exp, 0, 8), ident("a"), ident("b"))
	exps := append(make([]view.Exp, 0, 8), view.Exp{Kind: tree.And, Kids: kids}, ident("c"))
	empty := append(make([]view.Stmt, 0, 4), view.Stmt{Kind: tree.While})[:0]
	list := append(make([]view.Stmt, 0, 8), view.Stmt{Kind: tree.If, Exps: exps, Kids: empty}, view.Stmt{Kind: tree.Block})
	kids[:3][2], exps[:3][2], list[:3][2] = ident("d"), ident("e"), view.Stmt{Kind: tree.Assign, Name: name("f")}
	return list
}

// equalRoom tells whether two lists of statements say the same all over, their spare room included.
func equalRoom(a, b []view.Stmt) bool {
	full := func(list []view.Stmt) []view.Stmt { return list[:cap(list)] }
	return len(a) == len(b) && reflect.DeepEqual(full(a), full(b)) &&
		reflect.DeepEqual(a[0].Exps[:8], b[0].Exps[:8]) && reflect.DeepEqual(a[0].Exps[0].Kids[:8], b[0].Exps[0].Kids[:8]) && reflect.DeepEqual(a[0].Kids[:4], b[0].Kids[:4])
}

// What is handed in stays as it was, whatever is done to what is told of.
func TestStatementsStay(t *testing.T) {
	list, before := roomy(), roomy()
	for s := range view.Stmts(list) {
		_ = append(s.Exps, view.Exp{Number: -7})
		_ = append(s.Kids, view.Stmt{From: -7})
		spoilExps(s.Exps)
		spoilStmts(s.Kids)
	}
	for e := range view.Within(list) {
		_ = append(e.Kids, view.Exp{Number: -7})
		spoilExps(e.Kids)
	}
	for e := range view.Exps(list[0].Exps[0]) {
		_ = append(e.Kids, view.Exp{Number: -7})
		spoilExps(e.Kids)
	}
	one := []view.Class{{Main: true, Body: list, Methods: []view.Method{{Body: list}}}}
	view.Same(one, one)
	view.Same(one, []view.Class{{Main: true, Body: before}})
	if !equalRoom(list, before) {
		t.Errorf("%+v", list)
	}
}

// Who changes what is told of changes nothing that is told of later, nor anything that is told of when it is gone through again.
func TestToldAnew(t *testing.T) {
	for _, body := range bodies(t) {
		stmts, within := view.Stmts(body), view.Within(body)
		for range 2 {
			var n, m int
			for s := range stmts {
				if want := stmtsByHand(body)[n]; !reflect.DeepEqual(s, want) {
					t.Fatalf("%+v, want %+v", s, want)
				}
				spoilExps(s.Exps)
				spoilStmts(s.Kids)
				n++
			}
			for e := range within {
				if want := withinByHand(body)[m]; !reflect.DeepEqual(e, want) {
					t.Fatalf("%+v, want %+v", e, want)
				}
				spoilExps(e.Kids)
				m++
			}
		}
		for _, e := range withinByHand(body) {
			exps := view.Exps(e)
			for range 2 {
				n := 0
				for x := range exps {
					if want := expsByHand(e)[n]; !reflect.DeepEqual(x, want) {
						t.Fatalf("%+v, want %+v", x, want)
					}
					spoilExps(x.Kids)
					n++
				}
			}
		}
	}
}

// What is handed in isn't kept: it may be changed ahead of the loop, and within it.
func TestStatementsAreNotKept(t *testing.T) {
	for _, body := range bodies(t) {
		list := copyOf(body)
		stmts, within := view.Stmts(list), view.Within(list)
		spoilStmts(list)
		if got := slices.Collect(stmts); !same(got, stmtsByHand(body)) {
			t.Errorf("Stmts of %+v:\n%+v", body, got)
		}
		if got := slices.Collect(within); !same(got, withinByHand(body)) {
			t.Errorf("Within %+v:\n%+v", body, got)
		}
		list = copyOf(body)
		n := 0
		for range view.Within(list) {
			spoilStmts(list)
			n++
		}
		if n != len(withinByHand(body)) {
			t.Errorf("Within %+v: %d", body, n)
		}
		for _, s := range copyOf(body) {
			for _, e := range s.Exps {
				want := expsByHand(deepCopy(reflect.ValueOf(e)).Interface().(view.Exp))
				exps := view.Exps(e)
				spoilExps(e.Kids)
				if got := slices.Collect(exps); !same(got, want) {
					t.Errorf("Exps:\n%+v, want\n%+v", got, want)
				}
			}
		}
	}
}

// What lies deep within itself is gone through too.
func TestDeepLoops(t *testing.T) {
	const deep = 2000
	e := view.Exp{Number: deep}
	for i := range deep {
		e = view.Exp{Number: deep - 1 - i, Kids: []view.Exp{e}}
	}
	n := 0
	for x := range view.Exps(e) {
		if x.Number != n {
			t.Fatal(x.Number, n)
		}
		n++
	}
	s := view.Stmt{From: deep, Exps: []view.Exp{e}}
	for i := range deep {
		s = view.Stmt{From: deep - 1 - i, Kids: []view.Stmt{s}}
	}
	m := 0
	for x := range view.Stmts([]view.Stmt{s}) {
		if x.From != m {
			t.Fatal(x.From, m)
		}
		m++
	}
	k := 0
	for range view.Within([]view.Stmt{s}) {
		k++
	}
	if n != deep+1 || m != deep+1 || k != deep+1 {
		t.Error(n, m, k)
	}
	one, two := []view.Class{{Body: []view.Stmt{s}}}, []view.Class{{Body: []view.Stmt{s}, Methods: []view.Method{{Return: e}}}}
	if !view.Same(one, one) || !view.Same(two, two) || view.Same(one, two) {
		t.Error("Same of what lies deep")
	}
	// 10000 deep, left early.
	for range 10000 - deep {
		e = view.Exp{Kids: []view.Exp{e}}
	}
	for x := range view.Exps(e) {
		if len(x.Kids) != 1 {
			t.Error(len(x.Kids))
		}
		break
	}
}
