package source

import (
	"strconv"

	"workflow/api"
	"workflow/token"
)

// Levels of expressions, by their operators; those of a higher level bind more tightly.
const (
	levelOr = iota + 1
	levelAnd
	levelNot
	levelCompare
	levelSum
	levelProduct
	levelUnary
	levelPrimary
)

func level(op int) int {
	switch op {
	case api.XNot:
		return levelNot
	case api.XNeg, api.XAwait, api.XGo:
		return levelUnary
	}
	if text, between := infix(op); text != "" {
		return between
	}
	return levelPrimary
}

// infix returns the text and the level of an operator between two operands; for other nodes, the text is "".
func infix(op int) (string, int) {
	switch op {
	case api.XOr:
		return "or", levelOr
	case api.XAnd:
		return "and", levelAnd
	case api.XLt:
		return "<", levelCompare
	case api.XLe:
		return "<=", levelCompare
	case api.XGt:
		return ">", levelCompare
	case api.XGe:
		return ">=", levelCompare
	case api.XEq:
		return "==", levelCompare
	case api.XNe:
		return "!=", levelCompare
	case api.XAdd:
		return "+", levelSum
	case api.XSub:
		return "-", levelSum
	case api.XMul:
		return "*", levelProduct
	case api.XDiv:
		return "/", levelProduct
	case api.XMod:
		return "%", levelProduct
	}
	return "", 0
}

// expr writes an expression, a pair of a map, or a parameter, which is a name like an expression.
func (w *writer) expr(n api.Node) {
	switch n.Op {
	case api.XNull:
		w.put("null")
	case api.XTrue:
		w.put("true")
	case api.XFalse:
		w.put("false")
	case api.XInt:
		w.put(strconv.Itoa(n.Int))
	case api.XText:
		w.put(token.Quote(n.Text))
	case api.XName:
		w.put(n.Name)
	case api.XList:
		w.elements("[", n.Kids, "]")
	case api.XMap:
		w.elements("{", n.Kids, "}")
	case api.XPair:
		w.put(token.Quote(n.Text), ": ")
		w.expr(n.Kids[0])
	case api.XCall:
		w.call("", n)
	case api.XGo:
		w.call("go ", n)
	default:
		w.operation(n)
	}
}

// operation writes an expression with operands.
func (w *writer) operation(n api.Node) {
	switch n.Op {
	case api.XAwait:
		w.unary("await ", n)
	case api.XNot:
		w.unary("not ", n)
	case api.XNeg:
		w.unary("-", n)
	case api.XIndex:
		w.operand(n.Kids[0], levelPrimary)
		w.elements("[", n.Kids[1:], "]")
	case api.XField:
		w.operand(n.Kids[0], levelPrimary)
		w.put(".", n.Name)
	default:
		w.binary(n)
	}
}

// operand writes an expression at a place where the grammar requires a level.
func (w *writer) operand(n api.Node, required int) {
	if level(n.Op) >= required {
		w.expr(n)
		return
	}
	w.elements("(", []api.Node{n}, ")")
}

// unary writes an operator before its operand, which may have the same operator.
func (w *writer) unary(operator string, n api.Node) {
	w.put(operator)
	w.operand(n.Kids[0], level(n.Op))
}

// binary writes an operator between its operands. The left one may be of the same level, since operators are applied from the
// left, but a comparison is no operand of another one.
func (w *writer) binary(n api.Node) {
	text, left := infix(n.Op)
	right := left + 1
	if left == levelCompare {
		left = levelSum
	}
	w.operand(n.Kids[0], left)
	w.put(" ", text, " ")
	w.operand(n.Kids[1], right)
}

// call writes a function and its arguments.
func (w *writer) call(keyword string, n api.Node) {
	w.put(keyword, n.Name)
	w.elements("(", n.Kids, ")")
}

// elements writes nodes between two brackets, separated by commas.
func (w *writer) elements(first string, nodes []api.Node, last string) {
	w.put(first)
	for i, n := range nodes {
		if i > 0 {
			w.put(", ")
		}
		w.expr(n)
	}
	w.put(last)
}
