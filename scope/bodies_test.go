package scope_test

import (
	"strings"
	"testing"

	"workflow/api"
)

// inMain returns a program with a global variable, g, functions with zero to two arguments, and a main with the parameter p.
func inMain(statements string) string {
	return "var g = 1; func f0() { } func f1(a) { } func f2(a, b) { } func main(p) { " + statements + " }"
}

// cases are statements, and what Check returns for a program with them in main.
type cases []struct {
	statements string
	want       api.Errno
}

func (l cases) check(t *testing.T) {
	t.Helper()
	for _, x := range l {
		checkError(t, inMain(x.statements), x.want)
	}
}

func TestVisibleVariables(t *testing.T) { // P10.2: XName, SSet
	cases{
		{"return p;", api.OK}, {"return g;", api.OK}, {"return x;", api.ErrName}, {"return f0;", api.ErrName},
		{"return len;", api.ErrName},
		{"return main;", api.ErrName}, {"return a;", api.ErrName}, {"return P;", api.ErrName},
		{"p = 1;", api.OK}, {"g = 1;", api.OK}, {"x = 1;", api.ErrName}, {"f0 = 1;", api.ErrName}, {"len = 1;", api.ErrName},
		{"a = 1;", api.ErrName},
		{"let x = 1; return x;", api.OK}, {"let x = 1; x = x;", api.OK}, {"return x; let x = 1;", api.ErrName},
		{"x = 1; let x = 1;", api.ErrName},
		{"let x = x;", api.ErrName}, {"let x = 1 + (2 - x);", api.ErrName}, {"let g = g; g = g;", api.OK},
		{"let x = p; let y = x; return [x, y];", api.OK},
		{"if true { let x = 1; return x; }", api.OK}, {"if true { let x = 1; } return x;", api.ErrName},
		{"if true { let x = 1; } x = 1;", api.ErrName},
		{"if true { let x = 1; } else { return x; }", api.ErrName}, {"if true { let x = 1; } else if x { }", api.ErrName},
		{"if x { let x = 1; }", api.ErrName}, {"let x = 1; if x { return x; } else if x { return x; } else { return x; }", api.OK},
		{"while p { let x = 1; return x; }", api.OK}, {"while x { let x = 1; }", api.ErrName},
		{"while true { let x = 1; } return x;", api.ErrName},
		{"saga { let x = 1; undo f1(x); }", api.OK}, {"saga { let x = 1; } return x;", api.ErrName},
		{"let x = 1; saga { saga { x = 2; } x = 3; }", api.OK},
		{"if true { let g = 1; } g = 2;", api.OK}, {"if true { let x = 1; if true { let y = x; } return y; }", api.ErrName},
		{"return 1; return x;", api.ErrName}, {"throw x;", api.ErrName}, {"x;", api.ErrName},
	}.check(t)
}

func TestNamesInExpressions(t *testing.T) { // P10.2: the kids of every kind of node are checked
	for _, form := range []string{
		"@", "[@]", "[1, @]", "{\"a\": @}", "{\"a\": 1, \"b\": @}", "len(@)", "f2(1, @)", "go f1(@)", "go f2(@, 1)", "await @", "not @", "-@",
		"@ * 1", "1 * @", "@ / 1", "1 / @", "@ % 1", "1 % @", "@ + 1", "1 + @", "@ - 1", "1 - @", "@ < 1", "1 < @", "@ <= 1", "1 <= @",
		"@ > 1", "1 > @", "@ >= 1", "1 >= @", "@ == 1", "1 == @", "@ != 1", "1 != @", "@ and true", "true and @", "@ or true", "true or @",
		"@[1]", "p[@]", "@.a", "@.x.y",
	} {
		for name, want := range map[string]api.Errno{"p": api.OK, "g": api.OK, "x": api.ErrName} {
			e := strings.ReplaceAll(form, "@", name)
			for _, statement := range []string{
				"return " + e + ";", "throw " + e + ";", e + ";", "let y = " + e + ";", "g = " + e + ";", "if " + e + " { }", "if true { } else if " + e + " { }",
				"while " + e + " { }", "undo f1(" + e + ");", "undo f2(1, " + e + ");", "select { case " + e + " { } }", "select { case y = " + e + " { } }",
				"saga { " + e + "; }", "try { " + e + "; } catch y { }", "try { } catch y { " + e + "; }", "while true { " + e + "; }",
				"if true { " + e + "; }", "if true { } else { " + e + "; }", "select { case g { " + e + "; } }", "select { else { " + e + "; } }",
			} {
				checkError(t, inMain(statement), want)
			}
		}
	}
}

func TestTryAndSelect(t *testing.T) { // P10.2: the variables of catch and case
	cases{
		{"try { } catch e { return e; }", api.OK}, {"try { } catch e { e = 1; }", api.OK},
		{"try { return e; } catch e { }", api.ErrName},
		{"try { } catch e { } return e;", api.ErrName}, {"try { } catch e { } e = 1;", api.ErrName},
		{"try { let x = 1; } catch e { return x; }", api.ErrName},
		{"try { } catch p { }", api.ErrTwice}, {"try { } catch g { g = 1; }", api.OK},
		{"let e = 1; try { } catch e { }", api.ErrTwice},
		{"try { let e = 1; } catch e { return e; }", api.OK}, {"try { } catch e { let e = 1; }", api.ErrTwice},
		{"try { } catch e { if e { let e = 1; } }", api.ErrTwice}, {"try { } catch e { } let e = 1;", api.OK},
		{"try { } catch e { } try { } catch e { }", api.OK},
		{"try { } catch e { try { } catch e { } }", api.ErrTwice}, {"try { try { } catch e { } } catch e { }", api.OK},
		{"try { } catch f0 { f0(); }", api.OK},
		{"try { } catch len { len(len); }", api.OK},
		{"select { case x = p { return x; } }", api.OK}, {"select { case x = p { x = 1; } }", api.OK},
		{"select { case x = x { } }", api.ErrName},
		{"select { case x = p { } } return x;", api.ErrName}, {"select { case x = p { } } x = 1;", api.ErrName},
		{"select { case x = p { } else { return x; } }", api.ErrName},
		{"select { case x = p { } case x { } }", api.ErrName}, {"select { case x = p { } case y = x { } }", api.ErrName},
		{"select { case x = p { } case p { return x; } }", api.ErrName},
		{"select { case p = 1 { } }", api.ErrTwice}, {"select { case g = p { g = 2; } }", api.OK},
		{"let x = 1; select { case x = p { } }", api.ErrTwice},
		{"select { case x = p { } case x = p { } }", api.OK}, {"select { case x = p { let x = 1; } }", api.ErrTwice},
		{"select { case x = p { let y = x; } else { let y = 1; } }", api.OK},
		{"select { case p { let x = 1; } case x = p { return x; } else { let x = 1; } }", api.OK},
		{"select { case x = p { } } let x = 1;", api.OK},
		{"select { case x = p { select { case x = p { } } } }", api.ErrTwice}, {"select { else { let x = 1; } } x = 1;", api.ErrName},
		{"select { case p { let x = 1; return x; } case p { let x = 1; } }", api.OK},
		{"select { case x = p { try { } catch x { } } }", api.ErrTwice},
	}.check(t)
}

func TestVariablesDeclaredTwice(t *testing.T) { // P10.2: SLet
	cases{
		{"let p = 1;", api.ErrTwice}, {"let x = 1; let x = 1;", api.ErrTwice}, {"let x = 1; let X = 1;", api.OK},
		{"let g = 1; let g = 1;", api.ErrTwice},
		{"let x = 1; if true { let x = 1; }", api.ErrTwice}, {"if true { let x = 1; } let x = 1;", api.OK},
		{"if true { let x = 1; } else { let x = 1; }", api.OK},
		{"if true { let x = 1; let x = 1; }", api.ErrTwice}, {"if true { if true { let p = 1; } }", api.ErrTwice},
		{"while true { let x = 1; } while true { let x = 1; }", api.OK},
		{"let x = 1; while true { let x = 1; }", api.ErrTwice}, {"while true { let x = 1; while true { let x = 1; } }", api.ErrTwice},
		{"while true { while true { let x = 1; } let x = 1; } let x = 1;", api.OK},
		{"saga { let x = 1; } saga { let x = 1; }", api.OK}, {"let x = 1; saga { let x = 1; }", api.ErrTwice},
		{"let x = 1; try { let x = 1; } catch e { }", api.ErrTwice}, {"let x = 1; try { } catch e { let x = 1; }", api.ErrTwice},
		{"let x = 1; select { case p { let x = 1; } }", api.ErrTwice}, {"let x = 1; select { else { let x = 1; } }", api.ErrTwice},
		{"if true { } else if true { let x = 1; } else { let x = 2; }", api.OK},
		{"let f0 = f0(); let len = len(1); let main = 1; let a = 1;", api.OK},
	}.check(t)
	checkError(t, "func main(x) { let y = x; return y; }", api.OK)
	checkError(t, "func main(x) { let y = x; return z; }", api.ErrName)
	checkError(t, "func main(x) { let x = 1; return x; }", api.ErrTwice)
	checkError(t, "func f(x, y) { let z = y; } func g(y) { let x = 1; let z = 2; }"+mainFunction, api.OK)
	checkError(t, "func f(x, y) { let y = 1; }"+mainFunction, api.ErrTwice)
	checkError(t, "func f(x) { } func main() { return x; }", api.ErrName)
	checkError(t, "func main() { return v; } var v = 1;", api.OK)
	checkError(t, "func main() { v = 2; } var v = 1;", api.OK)
}

func TestVariablesOfHandlers(t *testing.T) { // P10.2: all kinds of bodies
	for _, form := range []string{
		"on signal h(x) @", "on query h(x) @", "on update h(x) @", "on update h(x) check { let y = 1; } @", "on update h(x) check @ { let y = 1; }",
	} {
		for body, want := range map[string]api.Errno{
			"{ }": api.OK, "{ return x; }": api.OK, "{ x = 1; }": api.OK, "{ let y = x; return y; }": api.OK, "{ return g; }": api.OK,
			"{ return y; }": api.ErrName, "{ y = 1; }": api.ErrName, "{ return h; }": api.ErrName, "{ h(); }": api.ErrName, "{ go h(1); }": api.ErrName,
			"{ let x = 1; }": api.ErrTwice, "{ try { } catch x { } }": api.ErrTwice, "{ let g = 1; g = 2; }": api.OK,
		} {
			checkError(t, strings.Replace(form, "@", body, 1)+"var g = 1;"+mainFunction, want)
			checkError(t, "var g = 1;"+mainFunction+strings.Replace(form, "@", body, 1), want)
		}
	}
}

func TestKeysOfMaps(t *testing.T) { // P10.2: XMap
	cases{
		{`return {};`, api.OK}, {`return {"a": 1};`, api.OK}, {`return {"b": 1, "a": 1, "A": 1, "": 1};`, api.OK},
		{`return {"a": 1, "a": 1};`, api.ErrTwice}, {`return {"a": 1, "b": 1, "a": 2};`, api.ErrTwice},
		{`return {"": 1, "a": 1, "": 1};`, api.ErrTwice},
		{`return {"a": {"a": 1}, "b": {"a": 1}};`, api.OK}, {`return {"a": {"b": 1, "b": 2}, "c": 1};`, api.ErrTwice},
		{`return [{"a": 1}, {"a": 1}];`, api.OK},
		{`return {"a": 1, "\x61": 1};`, api.ErrTwice}, {`return {"p": p, "g": g};`, api.OK},
		{`return {"a": 1, "a": x};`, api.ErrName}, {`return {"a": x, "a": 1};`, api.ErrName},
		{`return {"a": f0(1), "a": 1};`, api.ErrArity},
		{`return [{"a": 1, "a": 1}, x];`, api.ErrTwice}, {`return [x, {"a": 1, "a": 1}];`, api.ErrName},
	}.check(t)
}

func TestCalls(t *testing.T) { // P10.2: XCall, XGo, SUndo
	cases{
		{"f0();", api.OK}, {"f1(1);", api.OK}, {"f2(1, 2);", api.OK}, {"main(1);", api.OK},
		{"f0(1);", api.ErrArity}, {"f1();", api.ErrArity}, {"f1(1, 2);", api.ErrArity}, {"f2(1);", api.ErrArity},
		{"f2(1, 2, 3);", api.ErrArity}, {"main();", api.ErrArity},
		{"f3();", api.ErrName}, {"p();", api.ErrName}, {"g();", api.ErrName}, {"let x = 1; x();", api.ErrName},
		{"Len(1);", api.ErrName},
		{"go f0();", api.OK}, {"go f1(1);", api.OK}, {"go f2(1, 2);", api.OK}, {"go main(1);", api.OK},
		{"go f0(1);", api.ErrArity}, {"go f1();", api.ErrArity}, {"go f2(1);", api.ErrArity}, {"go f2(1, 2, 3);", api.ErrArity},
		{"go f3();", api.ErrName}, {"go g();", api.ErrName},
		{"undo f0();", api.OK}, {"undo f1(1);", api.OK}, {"undo f2(1, 2);", api.OK}, {"undo main(1);", api.OK},
		{"undo f0(1);", api.ErrArity}, {"undo f1();", api.ErrArity}, {"undo f2(1);", api.ErrArity},
		{"undo f2(1, 2, 3);", api.ErrArity}, {"undo f3();", api.ErrName}, {"undo g();", api.ErrName},
		{"f3(x);", api.ErrName}, {"f1(x, 1);", api.ErrName}, {"f1(1, {\"a\": 1, \"a\": 1});", api.ErrTwice},
		{"go f1(1, {\"a\": 1, \"a\": 1});", api.ErrTwice},
		{"go len(x);", api.ErrName}, {"go len(f0(1));", api.ErrArity}, {"undo len(x);", api.ErrName},
		{"undo len({\"a\": 1, \"a\": 1});", api.ErrTwice},
		{"f3({\"a\": 1, \"a\": 1});", api.ErrTwice}, {"f3(len());", api.ErrArity}, {"undo f3(len());", api.ErrArity},
		{"f1(f1(f1(1)));", api.OK}, {"f1(f1(f1()));", api.ErrArity},
	}.check(t)
	for name, arity := range builtins {
		for n := range 6 {
			list := strings.TrimSuffix(strings.Repeat("1, ", n), ", ")
			want := api.OK
			if n < arity[0] || n > arity[1] {
				want = api.ErrArity
			}
			checkError(t, inMain(name+"("+list+");"), want)
			checkError(t, inMain("return "+name+"("+list+") + x;"), map[bool]api.Errno{true: api.ErrName, false: want}[want == api.OK])
			checkError(t, inMain("go "+name+"("+list+");"), api.ErrKind)
			checkError(t, inMain("undo "+name+"("+list+");"), api.ErrKind)
		}
	}
}
