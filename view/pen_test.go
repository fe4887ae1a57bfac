package view_test

import (
	"math/rand/v2"
	"strconv"
	"strings"

	"namesake/tree"
	"namesake/view"
)

const printer = "System.out.println"

var signs = map[tree.Kind]string{tree.And: "&&", tree.Less: "<", tree.Plus: "+", tree.Minus: "-", tree.Times: "*"}

// pen writes views as texts, token by token, and tells them anew with the places where it wrote.
type pen struct {
	gaps   []string   // in turn, ahead of each token and at the end
	more   func() int // how many brackets an expression gets, needed or not
	text   strings.Builder
	starts []int // where each token begins
	last   string
}

// wordy tells whether a token could grow together with a word beside it.
func wordy(c byte) bool {
	return 'a' <= c && c <= 'z' || 'A' <= c && c <= 'Z' || '0' <= c && c <= '9' || c == '_'
}

// gap writes what stands ahead of a token; where it would be empty between two words it is a blank.
func (p *pen) gap(token string) {
	gap := p.gaps[len(p.starts)%len(p.gaps)]
	if gap == "" && token != "" && p.last != "" && wordy(token[0]) && wordy(p.last[len(p.last)-1]) {
		gap = " "
	}
	p.text.WriteString(gap)
}

// put writes tokens, and tells where the last one begins.
func (p *pen) put(tokens ...string) int {
	for _, token := range tokens {
		p.gap(token)
		p.starts = append(p.starts, p.text.Len())
		p.text.WriteString(token)
		p.last = token
	}
	return p.starts[len(p.starts)-1]
}

// name writes a name.
func (p *pen) name(n view.Name) view.Name { return view.Name{Text: n.Text, At: p.put(n.Text)} }

// typed writes a type.
func (p *pen) typed(n view.Name) view.Name {
	if n.Text != "int[]" {
		return p.name(n)
	}
	n.At = p.put("int")
	p.put("[", "]")
	return n
}

// level tells how strongly an expression of a kind holds together.
func level(k tree.Kind) int {
	switch k {
	case tree.And:
		return 1
	case tree.Less:
		return 2
	case tree.Plus, tree.Minus:
		return 3
	case tree.Times:
		return 4
	case tree.Not:
		return 5
	}
	return 6
}

// exp writes an expression, within brackets if it holds together less than it must.
func (p *pen) exp(e view.Exp, least int) view.Exp {
	brackets := p.more()
	if brackets == 0 && level(e.Kind) < least {
		brackets = 1
	}
	for range brackets {
		p.put("(")
	}
	begun := len(p.starts)
	e.Name, e.Kids = p.within(e)
	e.From, e.To = p.starts[begun], p.text.Len()
	for range brackets {
		p.put(")")
	}
	return e
}

// within writes what an expression is made of, and tells its name and its kids.
func (p *pen) within(e view.Exp) (n view.Name, kids []view.Exp) {
	kid := func(i, least int) { kids = append(kids, p.exp(e.Kids[i], least)) }
	switch e.Kind {
	case tree.And, tree.Less, tree.Plus, tree.Minus, tree.Times:
		kid(0, level(e.Kind))
		p.put(signs[e.Kind])
		kid(1, level(e.Kind)+1)
	case tree.Not:
		p.put("!")
		kid(0, level(tree.Not))
	case tree.Index:
		kid(0, 6)
		p.put("[")
		kid(1, 0)
		p.put("]")
	case tree.Length:
		kid(0, 6)
		p.put(".", "length")
	case tree.Call:
		kid(0, 6)
		p.put(".")
		n = p.name(e.Name)
		p.put("(")
		for i := range e.Kids[1:] {
			if i > 0 {
				p.put(",")
			}
			kid(i+1, 0)
		}
		p.put(")")
	case tree.Number:
		p.put(strconv.Itoa(e.Number))
	case tree.True:
		p.put("true")
	case tree.False:
		p.put("false")
	case tree.Ident:
		n = p.name(e.Name)
	case tree.This:
		p.put("this")
	case tree.Array:
		p.put("new", "int", "[")
		kid(0, 0)
		p.put("]")
	case tree.Object:
		p.put("new")
		n = p.name(e.Name)
		p.put("(", ")")
	}
	return n, kids
}

// variable writes a type and a name, and what stands behind them.
func (p *pen) variable(v view.Var, behind ...string) view.Var {
	begun := len(p.starts)
	v.Type, v.Name = p.typed(v.Type), p.name(v.Name)
	p.put(behind...)
	v.From, v.To = p.starts[begun], p.text.Len()
	return v
}

// stmts writes statements, one behind the other.
func (p *pen) stmts(list []view.Stmt) (out []view.Stmt) {
	for _, s := range list {
		out = append(out, p.stmt(s))
	}
	return out
}

// stmt writes a statement.
func (p *pen) stmt(s view.Stmt) view.Stmt {
	begun := len(p.starts)
	exps, kids := s.Exps, s.Kids
	s.Exps, s.Kids = nil, nil
	exp := func(i int, behind ...string) {
		s.Exps = append(s.Exps, p.exp(exps[i], 0))
		p.put(behind...)
	}
	kid := func(i int) { s.Kids = append(s.Kids, p.stmt(kids[i])) }
	switch s.Kind {
	case tree.Block:
		p.put("{")
		s.Kids = p.stmts(kids)
		p.put("}")
	case tree.If:
		p.put("if", "(")
		exp(0, ")")
		kid(0)
		p.put("else")
		kid(1)
	case tree.While:
		p.put("while", "(")
		exp(0, ")")
		kid(0)
	case tree.Print:
		p.put(printer, "(")
		exp(0, ")", ";")
	case tree.Assign:
		s.Name = p.name(s.Name)
		p.put("=")
		exp(0, ";")
	case tree.Store:
		s.Name = p.name(s.Name)
		p.put("[")
		exp(0, "]", "=")
		exp(1, ";")
	}
	s.From, s.To = p.starts[begun], p.text.Len()
	return s
}

// method writes a method.
func (p *pen) method(m view.Method) view.Method {
	p.put("public")
	params, vars := m.Params, m.Vars
	m.Type, m.Name, m.Params, m.Vars = p.typed(m.Type), p.name(m.Name), nil, nil
	p.put("(")
	for i, v := range params {
		if i > 0 {
			p.put(",")
		}
		m.Params = append(m.Params, p.variable(v))
	}
	p.put(")", "{")
	for _, v := range vars {
		m.Vars = append(m.Vars, p.variable(v, ";"))
	}
	m.Body = p.stmts(m.Body)
	p.put("return")
	m.Return = p.exp(m.Return, 0)
	p.put(";", "}")
	return m
}

// class writes a class, main or other.
func (p *pen) class(c view.Class) view.Class {
	p.put("class")
	c.Name = p.name(c.Name)
	if c.Main {
		p.put("{", "public", "static", "void", "main", "(", "String", "[", "]")
		c.Arg = p.name(c.Arg)
		p.put(")", "{")
		c.Body = p.stmts(c.Body)
		p.put("}", "}")
		return c
	}
	if c.Super.Text != "" {
		p.put("extends")
		c.Super = p.name(c.Super)
	}
	p.put("{")
	fields, methods := c.Fields, c.Methods
	c.Fields, c.Methods = nil, nil
	for _, v := range fields {
		c.Fields = append(c.Fields, p.variable(v, ";"))
	}
	for _, m := range methods {
		c.Methods = append(c.Methods, p.method(m))
	}
	p.put("}")
	return c
}

// written is the text of some classes with these gaps, and their view with its places.
func written(list []view.Class, more func() int, gaps ...string) (string, []view.Class) {
	p := &pen{gaps: gaps, more: more}
	var out []view.Class
	for _, c := range list {
		out = append(out, p.class(c))
	}
	p.gap("")
	return p.text.String(), out
}

func none() int { return 0 }

// gaps are those with which texts are written.
func gaps() [][]string {
	return [][]string{{""}, {" "}, {"/* } ; */"}, {"// class A\n"}, {"", " ", "\t\r\n", "", "/**/ //}\n "}}
}

// drawer draws views without places.
type drawer struct{ *rand.Rand }

func newDrawer(seed uint64) drawer { return drawer{rand.New(rand.NewPCG(seed, 12))} }

// name draws a name, among them some that other names, or words, begin with.
func (d drawer) name() view.Name {
	list := []string{"a", "b", "c", "x", "y1", "_", "A", "B", "C", "aa", "System", "out", "println", "Main", "ints", "classes", "lengths", "newer", "thiss"}
	return view.Name{Text: list[d.IntN(len(list))]}
}

// typed draws a type.
func (d drawer) typed() view.Name {
	if n := d.IntN(5); n < 3 {
		return view.Name{Text: []string{"int", "boolean", "int[]"}[n]}
	}
	return d.name()
}

// exp draws an expression that is at most so deep.
func (d drawer) exp(deep int) view.Exp {
	kinds := expKinds()
	if deep == 0 {
		kinds = leafKinds()
	}
	e := view.Exp{Kind: kinds[d.IntN(len(kinds))]}
	for range kidsOf(e.Kind) {
		e.Kids = append(e.Kids, d.exp(deep-1))
	}
	switch e.Kind {
	case tree.Number:
		e.Number = []int{0, 1, 7, 10, 999, 2147483647}[d.IntN(6)]
	case tree.Call:
		for range d.IntN(4) {
			e.Kids = append(e.Kids, d.exp(deep-1))
		}
	}
	if named(e.Kind) {
		e.Name = d.name()
	}
	return e
}

// stmt draws a statement that is at most so deep.
func (d drawer) stmt(deep int) view.Stmt {
	kinds := []tree.Kind{tree.Print, tree.Assign, tree.Store, tree.Block, tree.If, tree.While}
	if deep == 0 {
		kinds = kinds[:3]
	}
	s := view.Stmt{Kind: kinds[d.IntN(len(kinds))]}
	exps, kids := 1, 0
	switch s.Kind {
	case tree.Block:
		exps, kids = 0, d.IntN(4)
	case tree.If:
		kids = 2
	case tree.While:
		kids = 1
	case tree.Store:
		exps = 2
	}
	for range exps {
		s.Exps = append(s.Exps, d.exp(d.IntN(3)))
	}
	for range kids {
		s.Kids = append(s.Kids, d.stmt(deep-1))
	}
	if s.Kind == tree.Assign || s.Kind == tree.Store {
		s.Name = d.name()
	}
	return s
}

// vars draws up to so many variables.
func (d drawer) vars(most int) (list []view.Var) {
	for range d.IntN(most + 1) {
		list = append(list, view.Var{Type: d.typed(), Name: d.name()})
	}
	return list
}

// stmts draws up to so many statements.
func (d drawer) stmts(most int) (list []view.Stmt) {
	for range d.IntN(most + 1) {
		list = append(list, d.stmt(d.IntN(3)))
	}
	return list
}

// class draws a class, main or other.
func (d drawer) class() view.Class {
	c := view.Class{Name: d.name()}
	if d.IntN(3) == 0 {
		c.Main, c.Arg, c.Body = true, d.name(), d.stmts(3)
		return c
	}
	if d.IntN(2) == 0 {
		c.Super = d.name()
	}
	c.Fields = d.vars(3)
	for range d.IntN(3) {
		c.Methods = append(c.Methods, view.Method{Type: d.typed(), Name: d.name(), Params: d.vars(3), Vars: d.vars(2), Body: d.stmts(2), Return: d.exp(2)})
	}
	return c
}

// classes draws up to three classes.
func (d drawer) classes() (list []view.Class) {
	for range d.IntN(4) {
		list = append(list, d.class())
	}
	return list
}

// brackets draws how many brackets an expression gets.
func (d drawer) brackets() int { return max(0, d.IntN(6)-3) }

func leafKinds() []tree.Kind {
	return []tree.Kind{tree.Number, tree.True, tree.False, tree.Ident, tree.This, tree.Object}
}

func expKinds() []tree.Kind {
	return append(leafKinds(), tree.And, tree.Less, tree.Plus, tree.Minus, tree.Times, tree.Not, tree.Index, tree.Length, tree.Call, tree.Array)
}

// kidsOf tells how many kids an expression of a kind has at least.
func kidsOf(k tree.Kind) int {
	switch k {
	case tree.And, tree.Less, tree.Plus, tree.Minus, tree.Times, tree.Index:
		return 2
	case tree.Not, tree.Length, tree.Call, tree.Array:
		return 1
	}
	return 0
}

func named(k tree.Kind) bool { return k == tree.Ident || k == tree.Call || k == tree.Object }
