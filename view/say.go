package view

import (
	"namesake/decl"
	"namesake/sign"
	"namesake/tree"
)

// classes is what a file that was read says.
func classes(p decl.Parsed) []Class { return parts(p.Tree, tree.Main, tree.Class, class) }

// class is what a class says, main or other.
func class(n tree.Node) Class {
	own := names(n)
	c := Class{Name: own[0]}
	if n.Kind == tree.Main {
		c.Main = true
		c.Arg = own[1]
		c.Body = parts(n, tree.Block, tree.Store, stmt)
		return c
	}
	if len(own) > 1 {
		c.Super = own[1]
	}
	c.Fields = parts(n, tree.Field, tree.Field, variable)
	c.Methods = parts(n, tree.Method, tree.Method, method)
	return c
}

// method is what a method says.
func method(n tree.Node) Method {
	v := variable(n)
	return Method{
		Type:   v.Type,
		Name:   v.Name,
		Params: parts(n, tree.Param, tree.Param, variable),
		Vars:   parts(n, tree.Var, tree.Var, variable),
		Body:   parts(n, tree.Block, tree.Store, stmt),
		Return: parts(n, tree.And, tree.Paren, exp)[0],
	}
}

// variable is what a node of a type and a name says: a field, a parameter, a variable, or a method's beginning.
func variable(n tree.Node) Var {
	return Var{
		Type: parts(n, tree.Type, tree.Type, typed)[0],
		Name: names(n)[0],
		From: begin(n),
		To:   end(n),
	}
}

// typed is a type's name, without what stands between its tokens.
func typed(n tree.Node) Name {
	t := Name{At: n.Kids[0].At}
	for _, leaf := range n.Kids {
		t.Text += leaf.Text
	}
	return t
}

// stmt is what a statement says.
func stmt(n tree.Node) Stmt {
	return Stmt{
		Kind: n.Kind,
		Name: first(names(n)),
		From: begin(n),
		To:   end(n),
		Exps: parts(n, tree.And, tree.Paren, exp),
		Kids: parts(n, tree.Block, tree.Store, stmt),
	}
}

// exp is what an expression says.
func exp(n tree.Node) Exp {
	if n.Kind == tree.Paren {
		return parts(n, tree.And, tree.Paren, exp)[0]
	}
	e := Exp{
		Kind: n.Kind,
		Name: first(names(n)),
		From: begin(n),
		To:   end(n),
		Kids: parts(n, tree.And, tree.Paren, exp),
	}
	if n.Kind == tree.Number {
		e.Number, _ = sign.Number(n.Kids[0].Text)
	}
	return e
}

// begin is where a node's first token begins. (tree.Span would ask the whole tree below for whether it is right, at each node anew.)
func begin(n tree.Node) int {
	if n.Kind == tree.Leaf {
		return n.At
	}
	return begin(n.Kids[0])
}

// end is where a node's last token ends.
func end(n tree.Node) int {
	if n.Kind == tree.Leaf {
		return n.At + len(n.Text)
	}
	return end(n.Kids[len(n.Kids)-1])
}

// parts is what those of a node's kids say that are of these kinds, from the first one to the last one.
func parts[T any](n tree.Node, from, to tree.Kind, say func(tree.Node) T) []T {
	var list []T
	for _, k := range n.Kids {
		if from <= k.Kind && k.Kind <= to {
			list = append(list, say(k))
		}
	}
	return list
}

// names is the names among a node's own leaves, in order.
func names(n tree.Node) []Name {
	var list []Name
	for _, k := range n.Kids {
		if k.Kind == tree.Leaf && sign.Name(k.Text) == nil {
			list = append(list, Name{Text: k.Text, At: k.At})
		}
	}
	return list
}

// first is the first of some names, if there is one.
func first(list []Name) Name {
	if len(list) == 0 {
		return Name{}
	}
	return list[0]
}
