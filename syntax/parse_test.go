package syntax_test

import (
	"strings"
	"testing"

	"workflow/api"
	"workflow/syntax"
)

var (
	a, b, c = variable("a"), variable("b"), variable("c")
	one     = number(1)
	null    = node(api.XNull)
)

func TestExprOperands(t *testing.T) { // P8.2
	for src, want := range map[string]api.Node{
		"null": null, "true": node(api.XTrue), "false": node(api.XFalse), "a": a, "_1": variable("_1"), "main": variable("main"),
		"0": number(0), "9223372036854775807": number(greatest), `""`: text(""), `"a\n\xff"`: text("a\n\xff"), `"if"`: text("if"),
		"[]": node(api.XList), "[a]": node(api.XList, a), "[a, 1, [b]]": node(api.XList, a, one, node(api.XList, b)),
		"{}": node(api.XMap), `{"k": a}`: node(api.XMap, pair("k", a)), `{"": 1, "": {}}`: node(api.XMap, pair("", one), pair("", node(api.XMap))),
		"f()": named(api.XCall, "f"), "f(a)": named(api.XCall, "f", a), "f(a, g(b), c)": named(api.XCall, "f", a, named(api.XCall, "g", b), c),
		"go f()": named(api.XGo, "f"), "go f(a, b)": named(api.XGo, "f", a, b), "await a": node(api.XAwait, a), "not a": node(api.XNot, a), "-a": node(api.XNeg, a),
		"a.b": named(api.XField, "b", a), "a[b]": node(api.XIndex, a, b), "(a)": a, "((a))": a, " \t\na\n": a,
		"[(a or b), c]": node(api.XList, node(api.XOr, a, b), c), "f(-1)": named(api.XCall, "f", node(api.XNeg, one)), "f(not a)": named(api.XCall, "f", node(api.XNot, a)),
		`{"k": a or b}`: node(api.XMap, pair("k", node(api.XOr, a, b))), "a[b or c]": node(api.XIndex, a, node(api.XOr, b, c)),
	} {
		checkExpr(t, src, want)
		checkExpr(t, "("+src+")", want)
		checkBody(t, src+";", node(api.SExpr, want))
		checkBody(t, "return "+src+";", node(api.SReturn, want))
	}
	long := strings.Repeat("s", api.MaxText)
	checkExpr(t, `"`+long+`"`, text(long))
	checkExpr(t, `{"`+long+`": "`+long+`"}`, node(api.XMap, pair(long, text(long))))
	name := strings.Repeat("n", api.MaxName)
	checkExpr(t, name+"."+name, named(api.XField, name, variable(name)))
}

func TestExprOperators(t *testing.T) { // P8.2
	for sign, op := range map[string]int{
		"*": api.XMul, "/": api.XDiv, "%": api.XMod, "+": api.XAdd, "-": api.XSub, "<": api.XLt, "<=": api.XLe, ">": api.XGt,
		">=": api.XGe, "==": api.XEq, "!=": api.XNe, "and": api.XAnd, "or": api.XOr,
	} {
		checkExpr(t, "a "+sign+" b", node(op, a, b))
		checkExpr(t, "(a) "+sign+" (b)", node(op, a, b))
		checkExpr(t, "a "+sign+" (b "+sign+" c)", node(op, a, node(op, b, c)))
		checkExpr(t, "(a "+sign+" b) "+sign+" c", node(op, node(op, a, b), c))
		if op < api.XLt || op > api.XNe {
			checkExpr(t, "a "+sign+" b "+sign+" c", node(op, node(op, a, b), c))
		}
	}
	checkExpr(t, "a+b*2", node(api.XAdd, a, node(api.XMul, b, number(2))))
	checkExpr(t, "a - b + c", node(api.XAdd, node(api.XSub, a, b), c))
	checkExpr(t, "a / b * c % a", node(api.XMod, node(api.XMul, node(api.XDiv, a, b), c), a))
	checkExpr(t, "(a+b)*-c", node(api.XMul, node(api.XAdd, a, b), node(api.XNeg, c)))
	checkExpr(t, "a--b", node(api.XSub, a, node(api.XNeg, b)))
	checkExpr(t, "a or b and c", node(api.XOr, a, node(api.XAnd, b, c)))
	checkExpr(t, "a and b or c", node(api.XOr, node(api.XAnd, a, b), c))
	checkExpr(t, "not a and not b", node(api.XAnd, node(api.XNot, a), node(api.XNot, b)))
	checkExpr(t, "not not a == b", node(api.XNot, node(api.XNot, node(api.XEq, a, b))))
	checkExpr(t, "a + b < b * c", node(api.XLt, node(api.XAdd, a, b), node(api.XMul, b, c)))
	checkExpr(t, "(a < b) == (b < c)", node(api.XEq, node(api.XLt, a, b), node(api.XLt, b, c)))
	checkExpr(t, "a < b and b < c", node(api.XAnd, node(api.XLt, a, b), node(api.XLt, b, c)))
}

func TestExprUnary(t *testing.T) { // P8.2
	checkExpr(t, "-a.b", node(api.XNeg, named(api.XField, "b", a)))
	checkExpr(t, "(-a).b", named(api.XField, "b", node(api.XNeg, a)))
	checkExpr(t, "await a[b]", node(api.XAwait, node(api.XIndex, a, b)))
	checkExpr(t, "(await a)[b]", node(api.XIndex, node(api.XAwait, a), b))
	checkExpr(t, "await - await a", node(api.XAwait, node(api.XNeg, node(api.XAwait, a))))
	checkExpr(t, "await go f() + 1", node(api.XAdd, node(api.XAwait, named(api.XGo, "f")), one))
	checkExpr(t, "-go f()", node(api.XNeg, named(api.XGo, "f")))
	checkExpr(t, "(go f()).a", named(api.XField, "a", named(api.XGo, "f")))
	checkExpr(t, "- 1", node(api.XNeg, one))
	checkExpr(t, "--1", node(api.XNeg, node(api.XNeg, one)))
	checkExpr(t, "a.b.c[1][a].b", named(api.XField, "b", node(api.XIndex, node(api.XIndex, named(api.XField, "c", named(api.XField, "b", a)), one), a)))
	checkExpr(t, "f(a).b", named(api.XField, "b", named(api.XCall, "f", a)))
	checkExpr(t, "f (a)", named(api.XCall, "f", a))
	checkExpr(t, `"s".a`, named(api.XField, "a", text("s")))
	checkExpr(t, "1.a", named(api.XField, "a", one))
	checkExpr(t, "[a][1]", node(api.XIndex, node(api.XList, a), one))
	checkExpr(t, "{}.a", named(api.XField, "a", node(api.XMap)))
	checkExpr(t, "null[true]", node(api.XIndex, null, node(api.XTrue)))
}

func TestParseStatements(t *testing.T) { // P8.1
	empty := block()
	checkBody(t, "")
	checkBody(t, "let x = 1;", named(api.SLet, "x", one))
	checkBody(t, "x = 1;", named(api.SSet, "x", one))
	checkBody(t, "x == 1;", node(api.SExpr, node(api.XEq, variable("x"), one)))
	checkBody(t, "{};", node(api.SExpr, node(api.XMap)))
	checkBody(t, `{"a": 1}.a;`, node(api.SExpr, named(api.XField, "a", node(api.XMap, pair("a", one)))))
	checkBody(t, "if a {}", node(api.SIf, a, empty))
	checkBody(t, "if {} {}", node(api.SIf, node(api.XMap), empty))
	checkBody(t, "if a {} else {a;}", node(api.SIf, a, empty, block(node(api.SExpr, a))))
	checkBody(t, "if a {} else if b {}", node(api.SIf, a, empty, node(api.SIf, b, empty)))
	checkBody(t, "if a {} else if b {} else if c {} else {}", node(api.SIf, a, empty, node(api.SIf, b, empty, node(api.SIf, c, empty, empty))))
	checkBody(t, "if a { if b {} } else {}", node(api.SIf, a, block(node(api.SIf, b, empty)), empty))
	checkBody(t, "if a {} if b {}", node(api.SIf, a, empty), node(api.SIf, b, empty))
	checkBody(t, "while a or b { while 1 {} }", node(api.SWhile, node(api.XOr, a, b), block(node(api.SWhile, one, empty))))
	checkBody(t, "return;", node(api.SReturn))
	checkBody(t, "return 1;", node(api.SReturn, one))
	checkBody(t, "throw 1;", node(api.SThrow, one))
	checkBody(t, "try {return;} catch x {throw x;}", named(api.STry, "x", block(node(api.SReturn)), block(node(api.SThrow, variable("x")))))
	checkBody(t, "saga {undo f(); undo g(a, 1);}", node(api.SSaga, block(named(api.SUndo, "f"), named(api.SUndo, "g", a, one))))
	checkBody(t, "a; b; c;", node(api.SExpr, a), node(api.SExpr, b), node(api.SExpr, c))
	checkBody(t, "let x={}; x={};", named(api.SLet, "x", node(api.XMap)), named(api.SSet, "x", node(api.XMap)))
}

func TestParseSelect(t *testing.T) { // P8.1
	empty := block()
	checkBody(t, "select { case a {} }", node(api.SSelect, node(api.SCase, a, empty)))
	checkBody(t, "select { case x = a {} }", node(api.SSelect, named(api.SCase, "x", a, empty)))
	checkBody(t, "select { case x == a {} }", node(api.SSelect, node(api.SCase, node(api.XEq, variable("x"), a), empty)))
	checkBody(t, "select { case x = {} {} }", node(api.SSelect, named(api.SCase, "x", node(api.XMap), empty)))
	checkBody(t, "select { else {} }", node(api.SSelect, node(api.SElse, empty)))
	checkBody(t, "select { case a {a;} case x = b {} else {return;} }", node(api.SSelect,
		node(api.SCase, a, block(node(api.SExpr, a))), named(api.SCase, "x", b, empty), node(api.SElse, block(node(api.SReturn)))))
	for cases := 1; cases <= api.MaxCases; cases++ {
		var kids []api.Node
		for range cases {
			kids = append(kids, node(api.SCase, a, empty))
		}
		checkBody(t, "select {"+strings.Repeat("case a {}", cases)+"}", node(api.SSelect, kids...))
		checkBody(t, "select {"+strings.Repeat("case a {}", cases)+"else {} }", node(api.SSelect, append(kids, node(api.SElse, empty))...))
	}
	// Each statement has cases of its own.
	full := "select { " + strings.Repeat("case a { } ", api.MaxCases) + "} "
	nested := "func f() { select { " + strings.Repeat("case a { "+full+"} ", 2) + "} " + full + full + "}"
	if n, at, e := syntax.Parse(nested); e != api.OK || !syntax.Right(n) {
		t.Errorf("%s: %d, %d", nested, at, e)
	}
	open := strings.TrimSuffix(full, "} ")
	checkMarked(t, syntax.Parse, "func f() { "+full+open+"^case a {} } }")
	checkMarked(t, syntax.Parse, "func f() { "+full+open+"else { "+full+open+"^case a {} } } } }")
}

func TestParseDeclarations(t *testing.T) { // P8.1
	empty := block()
	for src, want := range map[string]api.Node{
		"var x = null;": named(api.DVar, "x", null), "var x = true;": named(api.DVar, "x", node(api.XTrue)), "var x=false;": named(api.DVar, "x", node(api.XFalse)),
		"var x = 1;": named(api.DVar, "x", one), "var x = -1;": named(api.DVar, "x", node(api.XNeg, one)), "var x = - 0;": named(api.DVar, "x", node(api.XNeg, number(0))),
		`var x = "s";`: named(api.DVar, "x", text("s")), "func f() {}": named(api.DFunc, "f", empty), "func f(x) {}": named(api.DFunc, "f", variable("x"), empty),
		"func f(a, b, a) {return a;}":         named(api.DFunc, "f", a, b, a, block(node(api.SReturn, a))),
		"on signal s(x) {}":                   {Op: api.DSignal, Name: "s", Text: "x", Kids: []api.Node{empty}},
		"on query q(x) {return 1;}":           {Op: api.DQuery, Name: "q", Text: "x", Kids: []api.Node{block(node(api.SReturn, one))}},
		"on update u(x) {}":                   {Op: api.DUpdate, Name: "u", Text: "x", Kids: []api.Node{empty}},
		"on update u(x) check {return 1;} {}": {Op: api.DUpdate, Name: "u", Text: "x", Kids: []api.Node{block(node(api.SReturn, one)), empty}},
	} {
		checkParse(t, src, node(api.DProgram, want))
		checkParse(t, src+src, node(api.DProgram, want, want))
		checkParse(t, "var v = 1;\n"+src+"\tfunc g() {}", node(api.DProgram, named(api.DVar, "v", one), want, named(api.DFunc, "g", empty)))
	}
	checkParse(t, "", node(api.DProgram))
	checkParse(t, " \n\t", node(api.DProgram))
	// The grammar itself does not limit parameters and declarations.
	params := strings.Repeat("x, ", 200) + "x"
	var kids []api.Node
	for range 201 {
		kids = append(kids, variable("x"))
	}
	checkParse(t, "func f("+params+") {}", node(api.DProgram, named(api.DFunc, "f", append(kids, empty)...)))
	kids = nil
	for range 300 {
		kids = append(kids, named(api.DVar, "x", one))
	}
	checkParse(t, strings.Repeat("var x = 1;", 300), node(api.DProgram, kids...))
}

func TestExamples(t *testing.T) { // P8.1, P8.2
	checkExpr(t, "a + b * 2", node(api.XAdd, a, node(api.XMul, b, number(2))))
	checkFault(t, syntax.Expr, "a +", 3, api.ErrSyntax)
	checkFault(t, syntax.Expr, "a < b < c", 6, api.ErrSyntax)
	x := variable("x")
	checkParse(t, "func f(x) { return x; }", node(api.DProgram, named(api.DFunc, "f", x, block(node(api.SReturn, x)))))
	checkFault(t, syntax.Parse, "func f() { select { } }", 20, api.ErrSyntax)
	checkBody(t, `let t = timer(5); select { case x = receive("s") { return x; } case t { return null; } }`,
		named(api.SLet, "t", named(api.XCall, "timer", number(5))),
		node(api.SSelect, named(api.SCase, "x", named(api.XCall, "receive", text("s")), block(node(api.SReturn, x))),
			node(api.SCase, variable("t"), block(node(api.SReturn, null)))))
}

func TestParseMemory(t *testing.T) { // P8.1, P8.2
	src := "func f(a, b, c) { if f(a, b, c) { select { case a {} case b {} else {} } } else if [a, b, c, 1, 2] { a; b; c; } }" +
		` on update u(x) check { return {"a": 1, "b": 2, "c": 3}; } { a + b + c; } var v = -1;`
	first, _, _ := syntax.Parse(src)
	second, _, _ := syntax.Parse(src)
	checkMemory(t, first, second)
	expr := `[f(a, b, c), {"a": -1, "b": not 2, "c": await go g(a, b, c)}, a.b[c], a and b or c]`
	third, _, _ := syntax.Expr(expr)
	fourth, _, _ := syntax.Expr(expr)
	checkMemory(t, third, fourth)
	if show(first) != show(second) || show(third) != show(fourth) || first.Op != api.DProgram || third.Op != api.XList {
		t.Error("two calls differ")
	}
}
