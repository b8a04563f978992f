package syntax

import "workflow/api"

func (p *parser) program() api.Node {
	n := node(api.DProgram)
	for p.next().Kind != api.TokEnd {
		n.Kids = append(n.Kids, p.declaration())
	}
	return n
}

func (p *parser) declaration() api.Node {
	if p.skip("var") {
		return p.global()
	}
	if p.skip("func") {
		return p.function()
	}
	p.take("on")
	if p.skip("signal") {
		return p.handler(api.DSignal)
	}
	if p.skip("query") {
		return p.handler(api.DQuery)
	}
	p.take("update")
	return p.handler(api.DUpdate)
}

func (p *parser) global() api.Node {
	name := p.name()
	p.take("=")
	n := named(api.DVar, name, p.constant())
	p.take(";")
	return n
}

func (p *parser) constant() api.Node {
	if p.skip("-") {
		p.require(p.next().Kind == api.TokInt)
		return node(api.XNeg, p.literal())
	}
	return p.literal()
}

func (p *parser) function() api.Node {
	name := p.name()
	p.take("(")
	kids := p.elements(")", func() api.Node { return named(api.XName, p.name()) })
	return named(api.DFunc, name, append(kids, p.block())...)
}

func (p *parser) handler(op int) api.Node {
	n := named(op, p.name())
	p.take("(")
	n.Text = p.name()
	p.take(")")
	if op == api.DUpdate && p.skip("check") {
		n.Kids = append(n.Kids, p.block())
	}
	n.Kids = append(n.Kids, p.block())
	return n
}

func (p *parser) block() api.Node {
	n := node(api.SBlock)
	p.take("{")
	for !p.skip("}") {
		n.Kids = append(n.Kids, p.statement())
	}
	return n
}

func (p *parser) statement() api.Node {
	switch {
	case p.skip("let"):
		return p.assignment(api.SLet)
	case p.skip("if"):
		return p.condition()
	case p.skip("while"):
		return node(api.SWhile, p.expr(), p.block())
	case p.skip("return"):
		return p.result()
	case p.skip("throw"):
		return p.closed(api.SThrow)
	case p.skip("try"):
		return p.attempt()
	case p.skip("saga"):
		return node(api.SSaga, p.block())
	case p.skip("undo"):
		return p.compensation()
	case p.skip("select"):
		return p.choice()
	case p.assigns():
		return p.assignment(api.SSet)
	}
	return p.closed(api.SExpr)
}

// closed reads an expression and a semicolon.
func (p *parser) closed(op int) api.Node {
	n := node(op, p.expr())
	p.take(";")
	return n
}

// assigns reports whether a name and the sign = follow, which do not begin an expression.
func (p *parser) assigns() bool {
	return p.next().Kind == api.TokName && fixedText(p.tokens[p.at+1]) == "="
}

func (p *parser) assignment(op int) api.Node {
	name := p.name()
	p.take("=")
	n := p.closed(op)
	n.Name = name
	return n
}

// condition reads an if statement behind its keyword.
func (p *parser) condition() api.Node {
	n := node(api.SIf, p.expr(), p.block())
	if !p.skip("else") {
		return n
	}
	if p.skip("if") {
		n.Kids = append(n.Kids, p.condition())
	} else {
		n.Kids = append(n.Kids, p.block())
	}
	return n
}

// result reads a return statement behind its keyword.
func (p *parser) result() api.Node {
	if p.skip(";") {
		return node(api.SReturn)
	}
	return p.closed(api.SReturn)
}

// attempt reads a try statement behind its keyword.
func (p *parser) attempt() api.Node {
	body := p.block()
	p.take("catch")
	name := p.name()
	return named(api.STry, name, body, p.block())
}

// compensation reads an undo statement behind its keyword.
func (p *parser) compensation() api.Node {
	n := p.call(api.SUndo)
	p.take(";")
	return n
}

// choice reads a select statement behind its keyword.
func (p *parser) choice() api.Node {
	n := node(api.SSelect)
	p.take("{")
	for len(n.Kids) < api.MaxCases && p.skip("case") {
		n.Kids = append(n.Kids, p.branch())
	}
	if p.skip("else") {
		n.Kids = append(n.Kids, node(api.SElse, p.block()))
	}
	p.require(len(n.Kids) > 0)
	p.take("}")
	return n
}

// branch reads a case behind its keyword.
func (p *parser) branch() api.Node {
	name := ""
	if p.assigns() {
		name = p.name()
		p.take("=")
	}
	return named(api.SCase, name, p.expr(), p.block())
}
