package source_test

import (
	"strings"
	"testing"

	"workflow/api"
	"workflow/source"
	"workflow/syntax"
)

func TestExamples(t *testing.T) { // P9.1
	for _, x := range [][2]string{{"(a+b)*-c", "(a + b) * -c"}, {"a+(b*c)", "a + b * c"}, {"not (a or b)", "not (a or b)"}} {
		n, _, _ := syntax.Expr(x[0])
		checkExpr(t, n, x[1])
	}
	checkFormat(t, `func main(x){if x{return 1;}else{throw "n";}}`, `func main(x) {
  if x {
    return 1;
  } else {
    throw "n";
  }
}
`)
}

func TestExpr(t *testing.T) { // P9.1, P9.2
	a, b, c := variable("a"), variable("b"), variable("c")
	pair := func(key string, x api.Node) api.Node {
		return api.Node{Op: api.XPair, Text: key, Kids: []api.Node{x}}
	}
	for _, x := range []struct {
		n    api.Node
		want string
	}{
		{node(api.XNull), "null"},
		{node(api.XTrue), "true"},
		{node(api.XFalse), "false"},
		{number(0), "0"},
		{number(greatest), "9223372036854775807"},
		{text(""), `""`},
		{text("a\"\\\n\t\r\x00\x1f ~\x7f\xff\u00e9(b)"), `"a\"\\\n\t\x0d\x00\x1f ~\x7f\xff\xc3\xa9(b)"`},
		{a, "a"},
		{variable("_A1"), "_A1"},
		{node(api.XList), "[]"},
		{node(api.XList, a), "[a]"},
		{node(api.XList, a, b, c), "[a, b, c]"},
		{node(api.XMap), "{}"},
		{node(api.XMap, pair("k", a)), `{"k": a}`},
		{node(api.XMap, pair("l", a), pair("k", b), pair("l", c)), `{"l": a, "k": b, "l": c}`},
		{node(api.XMap, pair("", a), pair("\n", node(api.XMap))), `{"": a, "\n": {}}`},
		{named(api.XCall, "f"), "f()"},
		{named(api.XCall, "f", a), "f(a)"},
		{named(api.XCall, "f", a, named(api.XCall, "g", b), c), "f(a, g(b), c)"},
		{named(api.XGo, "f"), "go f()"},
		{named(api.XGo, "f", a, b), "go f(a, b)"},
		{node(api.XAwait, a), "await a"},
		{node(api.XNot, a), "not a"},
		{node(api.XNeg, a), "-a"},
		{node(api.XNeg, number(0)), "-0"},
		{node(api.XIndex, a, b), "a[b]"},
		{named(api.XField, "x", a), "a.x"},
		{named(api.XField, "x", number(1)), "1.x"},
		{node(api.XIndex, text("s"), number(0)), `"s"[0]`},
		{node(api.XIndex, node(api.XList, a), node(api.XList)), "[a][[]]"},
		{node(api.XIndex, named(api.XField, "x", named(api.XCall, "f")), a), "f().x[a]"},
	} {
		checkExpr(t, x.n, x.want)
	}
	for i, want := range strings.Split("a * b,a / b,a % b,a + b,a - b,a < b,a <= b,a > b,a >= b,a == b,a != b,a and b,a or b", ",") {
		checkExpr(t, node(api.XMul+i, a, b), want)
	}
}

// Each of these texts is canonical: their parentheses are needed, and no others are.
func TestParentheses(t *testing.T) { // P9.1, P9.2
	for _, s := range strings.Split(strings.TrimSpace(`
a or b or c
a or (b or c)
a or b and c
(a or b) and c
a and b and c
a and (b and c)
a and (b or c)
not a and not b
not a or not b
not (a and b)
not (a or b)
not not a
not a < b
not (not a and b)
(not a) < b
a < (not b)
(a and b) < (a or b)
(a < b) < c
a < (b < c)
(a == b) != (c >= d)
a + b <= c - d
(a < b) + (c > d)
a + b + c
a + (b + c)
a - b - c
a - (b - c)
a - (b + c)
a + b * c
(a + b) * c
a * (b + c)
a * b * c
a * (b * c)
a / b % c
a / (b % c)
(not a) + (not b)
(not a) * (not b)
-a
--a
-await a
-go f()
-a.b
-a[b]
-(a + b)
-(a * b)
-(not a)
-a * -b
a - -b
a - --b
await await a
await -a
await go f()
await a.b
await a[b]
await f()
await (a + b)
await (a * b)
await a * await b
await (not a)
(-a).b
(-a)[b]
(await a).b
(await a)[b]
(go f()).b
(go f())[b]
(a + b).c
(a or b)[c]
(not a).b
(not a)[-b]
(a * b)[c]
(a < b)[c]
a[b or c]
a[not b]
a[b][c].d.e[f]
a[b[c]]
f(a or b, not c, -d, await e, go g(a + b))
go f(a or b, not c)
[a or b, not c, (a or b) and c]
{"k": a or b, "l": not c, "m": (a or b).c}
{}["k"].x
null.x + true[0] - false * "s".x
`), "\n") {
		n, _, e := syntax.Expr(s)
		if e != api.OK {
			t.Errorf("Expr(%s): %d", s, e)
			continue
		}
		checkExpr(t, n, s)
		wrapped, _, _ := syntax.Expr("((" + s + "))")
		checkExpr(t, wrapped, s)
	}
}

func TestStatements(t *testing.T) { // P9.1, P9.2
	a, b := variable("a"), variable("b")
	empty, back := block(), block(node(api.SReturn))
	for _, x := range []struct {
		n    api.Node
		want string
	}{
		{named(api.SLet, "x", a), "  let x = a;\n"},
		{named(api.SSet, "x", a), "  x = a;\n"},
		{node(api.SReturn), "  return;\n"},
		{node(api.SReturn, node(api.XOr, a, b)), "  return a or b;\n"},
		{node(api.SThrow, text("n")), "  throw \"n\";\n"},
		{node(api.SExpr, a), "  a;\n"},
		{node(api.SExpr, node(api.XNeg, node(api.XMap))), "  -{};\n"},
		{named(api.SUndo, "g"), "  undo g();\n"},
		{named(api.SUndo, "g", a, node(api.XNot, b)), "  undo g(a, not b);\n"},
		{node(api.SWhile, a, empty), "  while a {\n  }\n"},
		{node(api.SWhile, node(api.XMap), block(node(api.SReturn))), "  while {} {\n    return;\n  }\n"},
		{node(api.SSaga, empty), "  saga {\n  }\n"},
		{node(api.SSaga, block(named(api.SUndo, "g"), node(api.SReturn))), "  saga {\n    undo g();\n    return;\n  }\n"},
		{named(api.STry, "x", empty, empty), "  try {\n  } catch x {\n  }\n"},
		{named(api.STry, "x", block(node(api.SExpr, a)), block(node(api.SThrow, variable("x")))),
			"  try {\n    a;\n  } catch x {\n    throw x;\n  }\n"},
		{node(api.SIf, a, empty), "  if a {\n  }\n"},
		{node(api.SIf, a, empty, empty), "  if a {\n  } else {\n  }\n"},
		{node(api.SIf, a, empty, node(api.SIf, b, empty)), "  if a {\n  } else if b {\n  }\n"},
		{node(api.SIf, a, empty, block(node(api.SIf, b, empty))), "  if a {\n  } else {\n    if b {\n    }\n  }\n"},
		{node(api.SIf, a, back, node(api.SIf, b, back, back)),
			"  if a {\n    return;\n  } else if b {\n    return;\n  } else {\n    return;\n  }\n"},
	} {
		checkProgram(t, inBody(x.n), "func f() {\n"+x.want+"}\n")
		checkProgram(t, inBody(x.n, node(api.SReturn), x.n), "func f() {\n"+x.want+"  return;\n"+x.want+"}\n")
		deeper := strings.ReplaceAll("  "+x.want, "\n", "\n  ")
		checkProgram(t, inBody(node(api.SSaga, block(x.n))), "func f() {\n  saga {\n"+deeper+"}\n}\n")
	}
}

func TestSelect(t *testing.T) { // P9.1, P9.2
	a := variable("a")
	withVariable := named(api.SCase, "x", a, block(node(api.SReturn, variable("x"))))
	without := node(api.SCase, named(api.XCall, "g"), block())
	otherwise := node(api.SElse, block(node(api.SSelect, without)))
	checkProgram(t, inBody(node(api.SSelect, withVariable, without, otherwise)), `func f() {
  select {
    case x = a {
      return x;
    }
    case g() {
    }
    else {
      select {
        case g() {
        }
      }
    }
  }
}
`)
	checkProgram(t, inBody(node(api.SSelect, without)), "func f() {\n  select {\n    case g() {\n    }\n  }\n}\n")
	checkProgram(t, inBody(node(api.SSelect, node(api.SElse, block()))), "func f() {\n  select {\n    else {\n    }\n  }\n}\n")
}

func TestDeclarations(t *testing.T) { // P9.1, P9.2
	empty := block()
	back := block(node(api.SReturn, variable("p")))
	for _, x := range []struct {
		n    api.Node
		want string
	}{
		{named(api.DVar, "x", node(api.XNull)), "var x = null;\n"},
		{named(api.DVar, "x", node(api.XTrue)), "var x = true;\n"},
		{named(api.DVar, "x", node(api.XFalse)), "var x = false;\n"},
		{named(api.DVar, "x", number(greatest)), "var x = 9223372036854775807;\n"},
		{named(api.DVar, "x", node(api.XNeg, number(5))), "var x = -5;\n"},
		{named(api.DVar, "x", text("\n")), "var x = \"\\n\";\n"},
		{named(api.DFunc, "f", empty), "func f() {\n}\n"},
		{named(api.DFunc, "f", variable("a"), empty), "func f(a) {\n}\n"},
		{named(api.DFunc, "f", variable("a"), variable("p"), variable("c"), back), "func f(a, p, c) {\n  return p;\n}\n"},
		{handler(api.DSignal, "s", "p", empty), "on signal s(p) {\n}\n"},
		{handler(api.DSignal, "s", "p", back), "on signal s(p) {\n  return p;\n}\n"},
		{handler(api.DQuery, "q", "p", back), "on query q(p) {\n  return p;\n}\n"},
		{handler(api.DUpdate, "u", "p", back), "on update u(p) {\n  return p;\n}\n"},
		{handler(api.DUpdate, "u", "p", empty, empty), "on update u(p) check {\n} {\n}\n"},
		{handler(api.DUpdate, "u", "p", back, empty), "on update u(p) check {\n  return p;\n} {\n}\n"},
		{handler(api.DUpdate, "u", "p", empty, back), "on update u(p) check {\n} {\n  return p;\n}\n"},
	} {
		checkProgram(t, program(x.n), x.want)
		v := named(api.DVar, "v", number(1))
		checkProgram(t, program(v, x.n, x.n, v), "var v = 1;\n"+x.want+x.want+"var v = 1;\n")
	}
	checkProgram(t, program(), "")
	checkFormat(t, " \t\n", "")
}

func TestEmptyListsOfKids(t *testing.T) { // P9.1
	empty := []api.Node{}
	checkProgram(t, program(empty...), "")
	checkProgram(t, inBody(node(api.SExpr, node(api.XNull, empty...)), node(api.SReturn, empty...)), "func f() {\n  null;\n  return;\n}\n")
	checkExpr(t, node(api.XMap, empty...), "{}")
	few := []api.Node{number(1), number(2), node(api.XOr)}[:2]
	checkExpr(t, node(api.XList, few...), "[1, 2]")
}

func TestBlanksAndParentheses(t *testing.T) { // P9.4
	want := `var x = -5;
func f(a, b) {
  if a < b {
    let c = [a, {"k": b[0].x}];
    return (a + b) * -c;
  }
}
`
	checkFormat(t, `var x=-5;func f(a,b){if a<b{let c=[a,{"k":b[0].x}];return(a+b)*-c;}}`, want)
	blanks := "\tvar\nx\n=\n-\n5\t;func\tf ( a\n,b ) { "
	checkFormat(t, blanks+"if((a)<(b)){let\nc=([(a),({\"k\":((b)[(0)].x)})]);return(((a+b))*(-(c)));}\n\n} \n", want)
	if s, _, e := source.Format("var x = (5);"); s != "" || e != api.ErrSyntax {
		t.Errorf("%q, %d: parentheses that change the program are left out", s, e)
	}
}
