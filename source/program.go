package source

import "workflow/api"

func (w *writer) program(n api.Node) {
	for _, kid := range n.Kids {
		w.declaration(kid)
		w.put("\n")
	}
}

func (w *writer) declaration(n api.Node) {
	switch n.Op {
	case api.DVar:
		w.closed("var "+n.Name+" = ", n)
	case api.DFunc:
		w.function(n)
	case api.DSignal:
		w.handler("signal ", n)
	case api.DQuery:
		w.handler("query ", n)
	case api.DUpdate:
		w.handler("update ", n)
	}
}

func (w *writer) function(n api.Node) {
	last := len(n.Kids) - 1
	w.put("func ", n.Name)
	w.elements("(", n.Kids[:last], ") ")
	w.block(n.Kids[last])
}

func (w *writer) handler(keyword string, n api.Node) {
	w.put("on ", keyword, n.Name, "(", n.Text, ") ")
	last := len(n.Kids) - 1
	if last > 0 {
		w.put("check ")
		w.block(n.Kids[0])
		w.put(" ")
	}
	w.block(n.Kids[last])
}

// block writes braces, and between them the statements of a block, or the branches of a select statement.
func (w *writer) block(n api.Node) {
	w.put("{\n")
	w.indent += 2
	for _, kid := range n.Kids {
		w.begin()
		w.statement(kid)
		w.put("\n")
	}
	w.indent -= 2
	w.begin()
	w.put("}")
}

// statement writes a statement, or a branch of a select statement.
func (w *writer) statement(n api.Node) {
	switch n.Op {
	case api.SLet:
		w.closed("let "+n.Name+" = ", n)
	case api.SSet:
		w.closed(n.Name+" = ", n)
	case api.SReturn:
		w.result(n)
	case api.SThrow:
		w.closed("throw ", n)
	case api.SExpr:
		w.closed("", n)
	case api.SUndo:
		w.call("undo ", n)
		w.put(";")
	default:
		w.compound(n)
	}
}

// closed writes a text before the expression that is the kid of a node, and a semicolon behind it.
func (w *writer) closed(before string, n api.Node) {
	w.put(before)
	w.expr(n.Kids[0])
	w.put(";")
}

func (w *writer) result(n api.Node) {
	if len(n.Kids) == 0 {
		w.put("return;")
		return
	}
	w.closed("return ", n)
}

// compound writes a statement that contains blocks, or a branch of a select statement.
func (w *writer) compound(n api.Node) {
	switch n.Op {
	case api.SIf:
		w.condition(n)
	case api.SWhile:
		w.guarded("while ", n)
	case api.STry:
		w.put("try ")
		w.block(n.Kids[0])
		w.put(" catch ", n.Name, " ")
		w.block(n.Kids[1])
	case api.SSaga:
		w.put("saga ")
		w.block(n.Kids[0])
	case api.SSelect:
		w.put("select ")
		w.block(n)
	case api.SCase:
		w.branch(n)
	case api.SElse:
		w.put("else ")
		w.block(n.Kids[0])
	}
}

// guarded writes a text before the expression and the block that are the first kids of a node.
func (w *writer) guarded(before string, n api.Node) {
	w.put(before)
	w.expr(n.Kids[0])
	w.put(" ")
	w.block(n.Kids[1])
}

func (w *writer) condition(n api.Node) {
	w.guarded("if ", n)
	if len(n.Kids) < 3 {
		return
	}
	w.put(" else ")
	if n.Kids[2].Op == api.SIf {
		w.condition(n.Kids[2])
	} else {
		w.block(n.Kids[2])
	}
}

// branch writes a case of a select statement.
func (w *writer) branch(n api.Node) {
	if n.Name == "" {
		w.guarded("case ", n)
	} else {
		w.guarded("case "+n.Name+" = ", n)
	}
}
