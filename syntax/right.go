package syntax

import (
	"workflow/api"
	"workflow/token"
)

// Right reports whether n is a valid program tree, and RightExpr whether it is a valid expression tree.
func Right(n api.Node) bool {
	return n.Op == api.DProgram && withinLimits(n) && wellFormed(n)
}

func RightExpr(n api.Node) bool {
	return isExpr(n) && withinLimits(n) && wellFormed(n)
}

// withinLimits checks the size and the depth of a tree without going beyond them.
func withinLimits(n api.Node) bool {
	nodes := 0
	return fits(n, 1, &nodes)
}

// fits reports whether a node at a depth, and all below it, are within the limits; it counts them in nodes.
func fits(n api.Node, depth int, nodes *int) bool {
	*nodes++
	if depth > api.MaxNesting || *nodes > api.MaxTree {
		return false
	}
	for _, kid := range n.Kids {
		if !fits(kid, depth+1, nodes) {
			return false
		}
	}
	return true
}

func wellFormed(n api.Node) bool {
	return rightFields(n) && rightKids(n) && all(n.Kids, wellFormed)
}

// rightFields checks the fields other than Kids.
func rightFields(n api.Node) bool {
	switch n.Op {
	case api.XInt:
		return n.Name == "" && n.Int >= 0 && n.Text == ""
	case api.XText, api.XPair:
		return n.Name == "" && n.Int == 0 && len(n.Text) <= api.MaxText
	case api.XName, api.XCall, api.XGo, api.XField, api.SLet, api.SSet, api.STry, api.SUndo, api.DVar, api.DFunc:
		return isName(n.Name) && n.Int == 0 && n.Text == ""
	case api.SCase:
		return (n.Name == "" || isName(n.Name)) && n.Int == 0 && n.Text == ""
	case api.DSignal, api.DQuery, api.DUpdate:
		return isName(n.Name) && n.Int == 0 && isName(n.Text)
	}
	return n.Name == "" && n.Int == 0 && n.Text == ""
}

// isName reports whether s is a name that is not a keyword: a text of one token, without blanks.
func isName(s string) bool {
	l, _, _ := token.Scan(s)
	return len(l) == 2 && l[0].Kind == api.TokName && l[0].Text == s
}

// rightKids checks the kinds of the kids, and the number of them.
func rightKids(n api.Node) bool {
	kids := n.Kids
	switch n.Op {
	case api.DProgram:
		return all(kids, isDeclaration)
	case api.DVar:
		return are(kids, isConstant)
	case api.DFunc:
		last := len(kids) - 1
		return last >= 0 && all(kids[:last], isParameter) && isBlock(kids[last])
	case api.DSignal, api.DQuery:
		return are(kids, isBlock)
	case api.DUpdate:
		return are(kids, isBlock) || are(kids, isBlock, isBlock)
	}
	return rightExprKids(n.Op, kids) || rightStatementKids(n.Op, kids)
}

func rightExprKids(op int, kids []api.Node) bool {
	switch op {
	case api.XNull, api.XTrue, api.XFalse, api.XInt, api.XText, api.XName:
		return len(kids) == 0
	case api.XList, api.XCall, api.XGo:
		return all(kids, isExpr)
	case api.XMap:
		return all(kids, isPair)
	case api.XPair, api.XAwait, api.XNot, api.XNeg, api.XField:
		return are(kids, isExpr)
	case api.XMul, api.XDiv, api.XMod, api.XAdd, api.XSub, api.XLt, api.XLe, api.XGt, api.XGe, api.XEq, api.XNe,
		api.XAnd, api.XOr, api.XIndex:
		return are(kids, isExpr, isExpr)
	}
	return false
}

func rightStatementKids(op int, kids []api.Node) bool {
	switch op {
	case api.SLet, api.SSet, api.SThrow, api.SExpr:
		return are(kids, isExpr)
	case api.SIf:
		return are(kids, isExpr, isBlock) || are(kids, isExpr, isBlock, isAlternative)
	case api.SWhile, api.SCase:
		return are(kids, isExpr, isBlock)
	case api.SReturn:
		return are(kids) || are(kids, isExpr)
	case api.STry:
		return are(kids, isBlock, isBlock)
	case api.SSaga, api.SElse:
		return are(kids, isBlock)
	case api.SUndo:
		return all(kids, isExpr)
	case api.SSelect:
		return areBranches(kids)
	case api.SBlock:
		return all(kids, isStatement)
	}
	return false
}

// areBranches reports whether the nodes are those of a select statement.
func areBranches(kids []api.Node) bool {
	cases := kids
	if last := len(kids) - 1; last >= 0 && kids[last].Op == api.SElse {
		cases = kids[:last]
	}
	return len(kids) > 0 && len(cases) <= api.MaxCases && all(cases, isCase)
}

// are reports whether the nodes are of the given kinds, one of each.
func are(nodes []api.Node, kinds ...func(api.Node) bool) bool {
	if len(nodes) != len(kinds) {
		return false
	}
	for i, n := range nodes {
		if !kinds[i](n) {
			return false
		}
	}
	return true
}

// all reports whether the nodes are all of one kind.
func all(nodes []api.Node, kind func(api.Node) bool) bool {
	for _, n := range nodes {
		if !kind(n) {
			return false
		}
	}
	return true
}

// The following functions tell the kind of a node by its Op; that the rest of the node is right is checked where it is visited.

// isExpr relies on the order of the codes: those of the expressions and of XPair are adjacent.
func isExpr(n api.Node) bool {
	return n.Op >= api.XNull && n.Op <= api.XField && n.Op != api.XPair
}

// isStatement relies on the order of the codes: those of the statements, SCase and SElse are adjacent.
func isStatement(n api.Node) bool {
	return n.Op >= api.SLet && n.Op <= api.SExpr && n.Op != api.SCase && n.Op != api.SElse
}

// isDeclaration relies on the order of the codes: those of the declarations are adjacent.
func isDeclaration(n api.Node) bool {
	return n.Op >= api.DVar && n.Op <= api.DUpdate
}

func isConstant(n api.Node) bool {
	switch n.Op {
	case api.XNull, api.XTrue, api.XFalse, api.XInt, api.XText:
		return true
	}
	return n.Op == api.XNeg && len(n.Kids) == 1 && n.Kids[0].Op == api.XInt
}

func isAlternative(n api.Node) bool {
	return isBlock(n) || n.Op == api.SIf
}

func isBlock(n api.Node) bool {
	return n.Op == api.SBlock
}

func isCase(n api.Node) bool {
	return n.Op == api.SCase
}

func isPair(n api.Node) bool {
	return n.Op == api.XPair
}

func isParameter(n api.Node) bool {
	return n.Op == api.XName
}
