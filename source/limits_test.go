package source_test

import (
	"math/rand"
	"slices"
	"strings"
	"testing"

	"workflow/api"
	"workflow/source"
	"workflow/syntax"
)

// wrongExprs are trees whose root is that of an expression, but which are no expression trees.
func wrongExprs() []api.Node {
	a := variable("a")
	return []api.Node{
		variable(""), variable("1a"), variable("if"), variable("a b"), variable(strings.Repeat("n", api.MaxName+1)),
		{Op: api.XName, Name: "a", Int: 1}, {Op: api.XName, Name: "a", Text: "s"}, named(api.XName, "a", a),
		number(-1), text(strings.Repeat("s", api.MaxText+1)), named(api.XNull, "a"), node(api.XNull, a),
		node(api.XAdd), node(api.XAdd, a), node(api.XAdd, a, a, a), node(api.XAdd, a, number(-1)),
		node(api.XNot), node(api.XNeg, a, a), node(api.XAwait, api.Node{}),
		node(api.XMap, a), node(api.XMap, node(api.XPair)), node(api.XList, node(api.XPair, a)), node(api.XList, block()),
		named(api.XCall, "", a), named(api.XCall, "and"), named(api.XGo, "f", program()),
		named(api.XField, "a"), named(api.XField, "", a), node(api.XIndex, a),
	}
}

func TestWrongExprTrees(t *testing.T) { // P9.1
	for _, n := range wrongExprs() {
		checkFault(t, source.Expr, n, api.ErrArg)
		checkFault(t, source.Expr, node(api.XList, n), api.ErrArg)
		checkFault(t, source.Print, n, api.ErrArg)
		checkFault(t, source.Print, inBody(node(api.SExpr, n)), api.ErrArg)
	}
	for op := -1; op <= api.DUpdate+1; op++ {
		if op < api.XNull || op > api.XField || op == api.XPair {
			checkFault(t, source.Expr, node(op), api.ErrArg)
			checkFault(t, source.Expr, named(op, "a", variable("a"), block()), api.ErrArg)
		}
	}
	a := variable("a")
	for _, n := range []api.Node{{}, program(), inBody(), block(), node(api.SExpr, a), node(api.XPair, a)} {
		checkFault(t, source.Expr, n, api.ErrArg)
	}
}

func TestWrongProgramTrees(t *testing.T) { // P9.1
	a, b := variable("a"), block()
	for _, n := range []api.Node{
		{}, a, b, named(api.DFunc, "f", b), node(api.SReturn), named(api.DVar, "x", number(1)),
		{Op: api.DProgram, Name: "p"}, {Op: api.DProgram, Int: 1}, {Op: api.DProgram, Text: "p"},
	} {
		checkFault(t, source.Print, n, api.ErrArg)
	}
	for _, n := range []api.Node{
		{}, a, b, program(), node(api.SReturn),
		named(api.DVar, "x"), named(api.DVar, "x", a), named(api.DVar, "", number(1)),
		named(api.DVar, "x", number(1), number(1)), named(api.DVar, "x", node(api.XNeg, text("s"))),
		named(api.DFunc, "f"), named(api.DFunc, "f", a), named(api.DFunc, "f", number(1), b), named(api.DFunc, "f", b, b),
		named(api.DFunc, "on", b), handler(api.DFunc, "f", "p", b),
		handler(api.DSignal, "s", "", b), handler(api.DSignal, "s", "p"), handler(api.DSignal, "s", "p", b, b),
		handler(api.DQuery, "q", "if", b), handler(api.DQuery, "q", "p", b, b), handler(api.DUpdate, "u", "p"),
		handler(api.DUpdate, "u", "p", b, b, b), handler(api.DUpdate, "", "p", b), handler(api.DUpdate, "u", "p", a, b),
	} {
		checkFault(t, source.Print, program(n), api.ErrArg)
		checkFault(t, source.Print, program(named(api.DFunc, "f", b), n), api.ErrArg)
	}
	one, last := node(api.SCase, a, b), node(api.SElse, b)
	for _, n := range []api.Node{
		{}, a, b, program(), one, last,
		named(api.SLet, "", a), named(api.SLet, "x"), named(api.SSet, "x", a, a), node(api.SSet, a), node(api.SExpr),
		node(api.SIf, a), node(api.SIf, a, a), node(api.SIf, a, b, node(api.SReturn)), node(api.SIf, a, b, b, b),
		node(api.SWhile, b), node(api.SReturn, a, a), node(api.SThrow), node(api.STry, b, b), named(api.STry, "x", b),
		node(api.SSaga), node(api.SSaga, a), node(api.SUndo, a), named(api.SUndo, "f", b), node(api.SSelect),
		node(api.SSelect, b), node(api.SSelect, last, last), node(api.SSelect, last, one),
	} {
		checkFault(t, source.Print, inBody(n), api.ErrArg)
	}
	cases := slices.Repeat([]api.Node{node(api.SCase, a, b)}, api.MaxCases+1)
	checkFault(t, source.Print, inBody(node(api.SSelect, cases...)), api.ErrArg)
	want := "func f() {\n  select {\n" + strings.Repeat("    case a {\n    }\n", api.MaxCases) + "  }\n}\n"
	checkProgram(t, inBody(node(api.SSelect, cases[1:]...)), want)
}

// eachDamage calls visit with copies of a tree in which one node is damaged in one way.
func eachDamage(r *rand.Rand, n api.Node, visit func(api.Node)) {
	one := func(change func(*api.Node)) {
		damaged := n
		damaged.Kids = append([]api.Node{}, n.Kids...)
		change(&damaged)
		visit(damaged)
	}
	one(func(n *api.Node) {
		n.Op = []int{0, api.XNull, api.XName, api.XPair, api.XNeg, api.XAdd, api.SExpr, api.SBlock, api.SCase}[r.Intn(9)]
	})
	one(func(n *api.Node) { n.Name = []string{"", "x", "if", "a b"}[r.Intn(4)] })
	one(func(n *api.Node) { n.Int = []int{-1, 0, 7}[r.Intn(3)] })
	one(func(n *api.Node) { n.Text = []string{"", "x", "if"}[r.Intn(3)] })
	one(func(n *api.Node) { n.Kids = append(n.Kids, []api.Node{variable("a"), block(), {}}[r.Intn(3)]) })
	if len(n.Kids) == 0 {
		return
	}
	i := r.Intn(len(n.Kids))
	one(func(n *api.Node) { n.Kids = append(n.Kids[:i], n.Kids[i+1:]...) })
	for range min(len(n.Kids), 3) {
		i := r.Intn(len(n.Kids))
		eachDamage(r, n.Kids[i], func(kid api.Node) { one(func(n *api.Node) { n.Kids[i] = kid }) })
	}
}

func TestDamagedTrees(t *testing.T) { // P9.1, P9.2
	r := rand.New(rand.NewSource(5))
	right, wrong := 0, 0
	visit := func(n api.Node) {
		if syntax.Right(n) {
			right++
			checkProgram(t, n, modelProgram(n))
		} else {
			wrong++
			checkFault(t, source.Print, n, api.ErrArg)
		}
	}
	eachProgram(5, 400, func(plain, _ string) {
		if n, ok := withinLimits(t, syntax.Parse, plain); ok && len(plain) < 400 {
			eachDamage(r, n, visit)
		}
	})
	eachExpr(6, 200, func(plain, _ string) {
		n, ok := withinLimits(t, syntax.Expr, plain)
		if !ok || len(plain) > 400 {
			return
		}
		eachDamage(r, n, func(n api.Node) {
			if !syntax.RightExpr(n) {
				checkFault(t, source.Expr, n, api.ErrArg)
			} else {
				checkExpr(t, n, modelExpr(n))
			}
		})
	})
	if right < 500 || wrong < 500 {
		t.Errorf("%d trees are right, %d are not", right, wrong)
	}
}

func TestLimitsOfTrees(t *testing.T) { // P9.1, P9.2
	deep := variable("a")
	for range api.MaxNesting - 1 {
		deep = node(api.XNeg, deep)
	}
	checkExpr(t, deep, strings.Repeat("-", api.MaxNesting-1)+"a")
	checkFault(t, source.Expr, node(api.XNeg, deep), api.ErrArg)

	nested := block()
	for range (api.MaxNesting - 3) / 2 {
		nested = block(node(api.SSaga, nested))
	}
	n := program(named(api.DFunc, "f", nested))
	checkProgram(t, n, modelProgram(n))
	checkFault(t, source.Print, program(named(api.DFunc, "f", block(node(api.SSaga, nested)))), api.ErrArg)

	kids := slices.Repeat([]api.Node{number(1)}, api.MaxTree-1)
	checkExpr(t, node(api.XList, kids...), "["+strings.Repeat("1, ", api.MaxTree-2)+"1]")
	checkFault(t, source.Expr, node(api.XList, append(kids, number(1))...), api.ErrArg)

	globals := slices.Repeat([]api.Node{named(api.DVar, "x", number(1))}, api.MaxTree/2)
	checkFault(t, source.Print, program(globals[1:]...), api.ErrSize)
	checkFault(t, source.Print, program(globals...), api.ErrArg)
}

// filled returns texts of MaxText bytes and one of the rest, so that their literals have total bytes, and a list of them has.
func filled(total int) api.Node {
	list := node(api.XList)
	left := total - len("[]")
	for left > 0 {
		if len(list.Kids) > 0 {
			left -= len(", ")
		}
		size := min(left-len(`""`), api.MaxText)
		list.Kids = append(list.Kids, text(strings.Repeat("s", size)))
		left -= size + len(`""`)
	}
	return list
}

func TestLimitOfText(t *testing.T) { // P9.1, P9.2
	exact := filled(api.MaxSource)
	checkExpr(t, exact, modelExpr(exact))
	if s, _ := source.Expr(exact); len(s) != api.MaxSource {
		t.Errorf("a text of %d bytes", len(s))
	}
	checkFault(t, source.Expr, filled(api.MaxSource+1), api.ErrSize)
	checkFault(t, source.Expr, node(api.XNeg, exact), api.ErrSize)

	around := len("func f() {\n  ;\n}\n")
	n := inBody(node(api.SExpr, filled(api.MaxSource-around)))
	checkProgram(t, n, modelProgram(n))
	if s, _ := source.Print(n); len(s) != api.MaxSource {
		t.Errorf("a text of %d bytes", len(s))
	}
	checkFault(t, source.Print, inBody(node(api.SExpr, filled(api.MaxSource-around+1))), api.ErrSize)

	kids := slices.Repeat([]api.Node{text(strings.Repeat("\xff", api.MaxText))}, api.MaxTree-1)
	checkFault(t, source.Expr, node(api.XList, kids...), api.ErrSize)
	kids[len(kids)-1] = number(-1)
	checkFault(t, source.Expr, node(api.XList, kids...), api.ErrArg)
}

func TestTreeThatContainsItself(t *testing.T) { // P9.1
	n := node(api.XNeg, variable("a"))
	n.Kids[0] = n
	checkFault(t, source.Expr, n, api.ErrArg)
	p := program(named(api.DFunc, "f", block(node(api.SSaga, block()))))
	saga := p.Kids[0].Kids[0].Kids
	saga[0].Kids[0].Kids = saga
	checkFault(t, source.Print, p, api.ErrArg)
}

func TestFormatFaults(t *testing.T) { // P9.1
	checkFormatFault(t, "func f(", 7, api.ErrSyntax)
	checkFormatFault(t, "var x = 1", 9, api.ErrSyntax)
	checkFormatFault(t, "func f() { select { } }", 20, api.ErrSyntax)
	checkFormatFault(t, "a + b", 0, api.ErrSyntax)
	checkFormatFault(t, "var x = 1 ! 2", 10, api.ErrForm)
	checkFormatFault(t, "var x = 012;", 8, api.ErrForm)
	checkFormatFault(t, `var x = "a`, 8, api.ErrShort)
	checkFormatFault(t, "var x = 9223372036854775808;", 8, api.ErrRange)
	checkFormatFault(t, "var "+strings.Repeat("n", api.MaxName+1), 4, api.ErrName)
	checkFormatFault(t, "var x = \""+strings.Repeat("s", api.MaxText+1)+"\";", 8, api.ErrSize)
	checkFormatFault(t, strings.Repeat(" ", api.MaxSource+1), 0, api.ErrSize)
	checkFormatFault(t, strings.Repeat("var x=1;", api.MaxTree/2), 0, api.ErrSize)
	checkFormatFault(t, "func f() { return "+strings.Repeat("-", api.MaxNesting-4)+"a; }", 0, api.ErrDepth)
	deepest := "return " + strings.Repeat("-", api.MaxNesting-5) + "a;"
	checkFormat(t, "func f() { "+deepest+" }", "func f() {\n  "+deepest+"\n}\n")

	// Each declaration has 8 bytes here and 11 in the canonical text.
	most := api.MaxSource / len("var x = 1;\n")
	checkFormat(t, strings.Repeat("var x=1;", most), strings.Repeat("var x = 1;\n", most))
	checkFormatFault(t, strings.Repeat("var x=1;", most+1), 0, api.ErrSize)
	checkFormatFault(t, strings.Repeat("var x=1;", most+1)+"var x=1", 8*(most+2)-1, api.ErrSyntax)
	checkFormat(t, strings.Repeat(" ", api.MaxSource-9)+"var x=1;", "var x = 1;\n")
}

func TestResultsAreRepeated(t *testing.T) { // P9.1
	eachProgram(7, 50, func(plain, _ string) {
		s, at, e := source.Format(plain)
		if again, atAgain, eAgain := source.Format(plain); again != s || atAgain != at || eAgain != e {
			t.Errorf("Format(%s) = %s, %d, %d, then %s, %d, %d", short(plain), short(s), at, e, short(again), atAgain, eAgain)
		}
	})
}
