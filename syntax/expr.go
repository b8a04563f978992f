package syntax

import "workflow/api"

// Levels of the operators between two operands; those of a higher level bind more tightly.
const (
	levelNone = iota
	levelOr
	levelAnd
	levelCompare
	levelSum
	levelProduct
)

// infix returns the Op and the level of an operator between two operands; for other texts, the level is levelNone.
func infix(text string) (op, level int) {
	switch text {
	case "or":
		return api.XOr, levelOr
	case "and":
		return api.XAnd, levelAnd
	case "<":
		return api.XLt, levelCompare
	case "<=":
		return api.XLe, levelCompare
	case ">":
		return api.XGt, levelCompare
	case ">=":
		return api.XGe, levelCompare
	case "==":
		return api.XEq, levelCompare
	case "!=":
		return api.XNe, levelCompare
	case "+":
		return api.XAdd, levelSum
	case "-":
		return api.XSub, levelSum
	case "*":
		return api.XMul, levelProduct
	case "/":
		return api.XDiv, levelProduct
	case "%":
		return api.XMod, levelProduct
	}
	return 0, levelNone
}

// operator reads an operator of a level if one follows, and returns its Op.
func (p *parser) operator(level int) (op int, found bool) {
	op, at := infix(p.fixed())
	if at != level {
		return 0, false
	}
	p.at++
	return op, true
}

// chain reads operands with operators of a level between them, which are applied from the left.
func (p *parser) chain(level int, operand func() api.Node) api.Node {
	n := operand()
	for {
		op, found := p.operator(level)
		if !found {
			return n
		}
		n = node(op, n, operand())
	}
}

func (p *parser) expr() api.Node {
	return p.chain(levelOr, p.conjunction)
}

func (p *parser) conjunction() api.Node {
	return p.chain(levelAnd, p.negation)
}

func (p *parser) negation() api.Node {
	if p.skip("not") {
		return node(api.XNot, p.negation())
	}
	return p.comparison()
}

func (p *parser) comparison() api.Node {
	n := p.sum()
	if op, found := p.operator(levelCompare); found {
		return node(op, n, p.sum())
	}
	return n
}

func (p *parser) sum() api.Node {
	return p.chain(levelSum, p.product)
}

func (p *parser) product() api.Node {
	return p.chain(levelProduct, p.unary)
}

func (p *parser) unary() api.Node {
	switch {
	case p.skip("-"):
		return node(api.XNeg, p.unary())
	case p.skip("await"):
		return node(api.XAwait, p.unary())
	case p.skip("go"):
		return p.call(api.XGo)
	}
	return p.postfix()
}

func (p *parser) postfix() api.Node {
	n := p.primary()
	for {
		switch {
		case p.skip("."):
			n = named(api.XField, p.name(), n)
		case p.skip("["):
			n = node(api.XIndex, n, p.expr())
			p.take("]")
		default:
			return n
		}
	}
}

func (p *parser) primary() api.Node {
	switch {
	case p.next().Kind == api.TokName:
		return p.mention()
	case p.skip("["):
		return node(api.XList, p.elements("]", p.expr)...)
	case p.skip("{"):
		return node(api.XMap, p.elements("}", p.pair)...)
	case p.skip("("):
		n := p.expr()
		p.take(")")
		return n
	}
	return p.literal()
}

// mention reads a variable or a call.
func (p *parser) mention() api.Node {
	if fixedText(p.tokens[p.at+1]) == "(" {
		return p.call(api.XCall)
	}
	return named(api.XName, p.name())
}

// call reads the name of a function and its arguments.
func (p *parser) call(op int) api.Node {
	name := p.name()
	p.take("(")
	return named(op, name, p.elements(")", p.expr)...)
}

// pair reads a key of a map and its element.
func (p *parser) pair() api.Node {
	t := p.next()
	p.require(t.Kind == api.TokText)
	p.at++
	p.take(":")
	return api.Node{Op: api.XPair, Text: t.Text, Kids: []api.Node{p.expr()}}
}

// literal reads an integer, a string or a constant with a keyword of its own.
func (p *parser) literal() api.Node {
	t := p.next()
	switch {
	case t.Kind == api.TokInt:
		p.at++
		return api.Node{Op: api.XInt, Int: t.Int}
	case t.Kind == api.TokText:
		p.at++
		return api.Node{Op: api.XText, Text: t.Text}
	case p.skip("true"):
		return node(api.XTrue)
	case p.skip("false"):
		return node(api.XFalse)
	}
	p.take("null")
	return node(api.XNull)
}
