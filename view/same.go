package view

import "slices"

// sameClass tells whether two classes are the same but for places.
func sameClass(a, b Class) bool {
	return a.Main == b.Main &&
		a.Name.Text == b.Name.Text && a.Super.Text == b.Super.Text && a.Arg.Text == b.Arg.Text &&
		slices.EqualFunc(a.Fields, b.Fields, sameVar) &&
		slices.EqualFunc(a.Methods, b.Methods, sameMethod) &&
		slices.EqualFunc(a.Body, b.Body, sameStmt)
}

// sameMethod tells whether two methods are the same but for places.
func sameMethod(a, b Method) bool {
	return a.Type.Text == b.Type.Text && a.Name.Text == b.Name.Text &&
		slices.EqualFunc(a.Params, b.Params, sameVar) &&
		slices.EqualFunc(a.Vars, b.Vars, sameVar) &&
		slices.EqualFunc(a.Body, b.Body, sameStmt) &&
		sameExp(a.Return, b.Return)
}

// sameVar tells whether two fields, parameters or variables are the same but for places.
func sameVar(a, b Var) bool { return texts(a) == texts(b) }

// texts is all that a variable says: its type's text, and its own name's.
func texts(v Var) [2]string { return [2]string{v.Type.Text, v.Name.Text} }

// sameStmt tells whether two statements are the same but for places.
func sameStmt(a, b Stmt) bool {
	return a.Kind == b.Kind && a.Name.Text == b.Name.Text &&
		slices.EqualFunc(a.Exps, b.Exps, sameExp) &&
		slices.EqualFunc(a.Kids, b.Kids, sameStmt)
}

// sameExp tells whether two expressions are the same but for places.
func sameExp(a, b Exp) bool {
	return a.Kind == b.Kind && a.Name.Text == b.Name.Text && a.Number == b.Number &&
		slices.EqualFunc(a.Kids, b.Kids, sameExp)
}
