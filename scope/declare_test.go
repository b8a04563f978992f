package scope_test

import (
	"strconv"
	"strings"
	"testing"

	"workflow/api"
	"workflow/scope"
)

// builtins are the builtin functions with their least and greatest numbers of arguments and their classes.
var builtins = map[string][3]int{
	"len": {1, 1, 1}, "str": {1, 1, 1}, "int": {1, 1, 1}, "keys": {1, 1, 1}, "push": {2, 2, 1}, "has": {2, 2, 1}, "put": {3, 3, 1},
	"activity": {2, 3, 2}, "timer": {1, 1, 2}, "receive": {1, 1, 2}, "child": {3, 4, 2}, "send": {3, 3, 2}, "cancellation": {0, 0, 2},
	"now": {0, 0, 3}, "cancelled": {0, 0, 3}, "random": {1, 1, 3}, "record": {1, 1, 3}, "done": {1, 1, 3}, "cancel": {1, 1, 3},
	"attrs": {1, 1, 3}, "continueAs": {1, 1, 3}, "canceled": {1, 1, 3}, "version": {2, 2, 3},
}

func TestArity(t *testing.T) { // P10.3
	for name, want := range builtins {
		if least, most, class := scope.Arity(name); [3]int{least, most, class} != want {
			t.Errorf("Arity(%s) = %d, %d, %d; want %d", name, least, most, class, want)
		}
		for _, other := range []string{name + " ", " " + name, name + "\x00", name[1:], strings.ToUpper(name), "signal " + name} {
			if least, most, class := scope.Arity(other); least != 0 || most != 0 || class != 0 {
				t.Errorf("Arity(%q) = %d, %d, %d", other, least, most, class)
			}
		}
	}
	for _, other := range []string{"", "main", "f", "await", "go", "select", "query", "continue", "canceledAs", "\xff", strings.Repeat("len", 1000)} {
		if least, most, class := scope.Arity(other); least != 0 || most != 0 || class != 0 {
			t.Errorf("Arity(%q) = %d, %d, %d", other, least, most, class)
		}
	}
}

const mainFunction = " func main() { }"

func TestBuiltinNamesOfDeclarations(t *testing.T) { // P10.1
	for name := range builtins {
		checkError(t, "func "+name+"() { }"+mainFunction, api.ErrTwice)
		checkError(t, "var "+name+" = 1;"+mainFunction, api.ErrTwice)
		checkError(t, "func f("+name+") { return "+name+"; }"+mainFunction, api.OK)
		for _, kind := range []string{"signal", "query", "update"} {
			checkError(t, "on "+kind+" "+name+"(x) { }"+mainFunction, api.OK)
			checkError(t, "on "+kind+" x("+name+") { return "+name+"; }"+mainFunction, api.OK)
		}
	}
}

func TestNamesOfDeclarations(t *testing.T) { // P10.1
	for _, x := range []struct {
		src  string
		want api.Errno
	}{
		{"func main() { }", api.OK},
		{"func main(x) { }", api.OK},
		{"func f() { }" + mainFunction, api.OK},
		{mainFunction + mainFunction, api.ErrTwice},
		{"func f() { }" + mainFunction + "func f(x) { }", api.ErrTwice},
		{"var a = 1;" + mainFunction + "var a = 2;", api.ErrTwice},
		{"var a = 1;" + mainFunction + "func a() { }", api.ErrTwice},
		{"func a() { }" + mainFunction + "var a = 1;", api.ErrTwice},
		{"var main = 1;" + mainFunction, api.ErrTwice},
		{mainFunction + "var main = 1;", api.ErrTwice},
		{"var a = 1; var A = 1; func b() { } func B() { }" + mainFunction, api.OK},
		{"func f(a, a) { }" + mainFunction, api.ErrTwice},
		{"func f(a, b, c, b) { }" + mainFunction, api.ErrTwice},
		{"func main(a, a) { }", api.ErrTwice},
		{"func f(a, b) { } func g(b, a) { }" + mainFunction, api.OK},
		{"var a = 1; func f(a) { } func g(f, g, main) { }" + mainFunction, api.OK},
		{"on signal a(x) { } on signal a(x) { }" + mainFunction, api.ErrTwice},
		{"on query a(x) { } on query a(y) { }" + mainFunction, api.ErrTwice},
		{"on update a(x) { } on update a(x) check { } { }" + mainFunction, api.ErrTwice},
		{"on update a(x) check { } { }" + mainFunction + "on update a(x) check { } { }", api.ErrTwice},
		{"on signal a(x) { } on query a(x) { } on update a(x) check { } { }" + mainFunction, api.OK},
		{"on signal a(x) { } on signal b(x) { } on query c(x) { } on query d(x) { }" + mainFunction, api.OK},
		{"on signal a(x) { } func a() { } on signal main(x) { }" + mainFunction, api.OK},
		{"var a = 1; on signal a(a) { } on query a(a) { } on update a(a) { }" + mainFunction, api.OK},
	} {
		checkError(t, x.src, x.want)
	}
}

func TestMain(t *testing.T) { // P10.1
	for _, x := range []struct {
		src  string
		want api.Errno
	}{
		{"", api.ErrNone},
		{"func f() { }", api.ErrNone},
		{"func Main() { } func main_() { }", api.ErrNone},
		{"var main = 1;", api.ErrNone},
		{"on signal main(x) { } on query main(x) { } on update main(x) check { } { }", api.ErrNone},
		{"func f(main) { return main; }", api.ErrNone},
		{"func main(a, b) { }", api.ErrArity},
		{"func main(a, b, c, d, e, f, g, h) { }", api.ErrArity},
		{"func f() { } func main(a) { }", api.OK},
		{"func f(a, b) { main(a); } func main(a) { }", api.OK},
	} {
		checkError(t, x.src, x.want)
	}
}

func TestOrderOfErrors(t *testing.T) { // P10.1
	long := "func f(a, b, c, d, e, f, g, h, i) { }"
	for _, x := range []struct {
		src  string
		want api.Errno
	}{
		{long, api.ErrSize},
		{long + "func f() { }", api.ErrSize},
		{"func f() { }" + long, api.ErrTwice},
		{"func f(a, b, c, d, e, f, g, h, a) { }", api.ErrTwice},
		{"func len(a, b, c, d, e, f, g, h, i) { }", api.ErrTwice},
		{"var a = 1; var a = 1;" + long, api.ErrTwice},
		{long + "var a = 1; var a = 1;", api.ErrSize},
		{"on query q(x) { } on query q(x) { }" + long, api.ErrTwice},
		{"func f() { } func f() { }", api.ErrTwice},
		{"func f() { return x; }", api.ErrNone},
		{"func main(a, b) { return x; }", api.ErrArity},
		{"func main() { return x; } func f() { } func f() { }", api.ErrTwice},
		{"func main() { return x; }" + long, api.ErrSize},
		{"func main(a, b) { }" + long, api.ErrSize},
		{"on query q(x) { now(); } func f() { }", api.ErrNone},
		{"func main() { len(); } func f() { return x; }", api.ErrArity},
		{"func f() { return x; } func main() { len(); }", api.ErrName},
		{"func main() { go len(1); } on query q(x) { f(); }", api.ErrKind},
		{"on query q(x) { f(); } func main() { go len(1); }", api.ErrName},
		{"on update u(x) check { return y; } { let x = 1; } func main() { len(); }", api.ErrName},
		{"on update u(x) check { } { let x = 1; } func main() { len(); }", api.ErrTwice},
		{"on signal s(x) { return y; } on update u(x) { let x = 1; } func main() { len(); }", api.ErrName},
	} {
		checkError(t, x.src, x.want)
	}
}

// repeat joins n texts in which each # is replaced by a number of its own.
func repeat(n int, text string) string {
	var b strings.Builder
	for i := range n {
		b.WriteString(strings.ReplaceAll(text, "#", strconv.Itoa(i)))
	}
	return b.String()
}

func TestLimitOfGlobals(t *testing.T) { // P10.1
	most := repeat(api.MaxGlobals, "var g# = 1; on query q#(x) { }")
	checkError(t, most+mainFunction, api.OK)
	checkError(t, most+"var last = 1;"+mainFunction, api.ErrSize)
	checkError(t, most+"var last = 1;", api.ErrSize)
	checkError(t, most+"var g0 = 1;"+mainFunction, api.ErrTwice)
	checkError(t, most+"var len = 1;"+mainFunction, api.ErrTwice)
	checkError(t, most+"var last = 1; var g0 = 1;"+mainFunction, api.ErrSize)
	checkError(t, most+"func g0() { } var last = 1;"+mainFunction, api.ErrTwice)
}

func TestLimitOfFunctions(t *testing.T) { // P10.1
	if api.MaxFuncs%5 != 0 {
		t.Fatal("the number of functions and handlers below is not MaxFuncs - 1")
	}
	each := "func f#() { } on signal a#(x) { } on query a#(x) { } on update a#(x) check { } { } on update b#(x) { }"
	most := mainFunction + repeat(api.MaxFuncs/5-1, each) + "func g() { } on signal s(x) { } on query q(x) { }"
	for _, last := range []string{"func h() { }", "on signal h(x) { }", "on query h(x) { }", "on update h(x) { }", "on update h(x) check { } { }"} {
		full := most + last
		checkError(t, full, api.OK)
		checkError(t, full+repeat(api.MaxGlobals, "var g# = 1;"), api.OK)
		for _, beyond := range []string{"func z() { }", "on signal z(x) { }", "on query z(x) { }", "on update z(x) { }", "on update z(x) check { } { }"} {
			checkError(t, full+beyond, api.ErrSize)
			checkError(t, repeat(3, "var v# = 1;")+full+beyond+"var v0 = 1;", api.ErrSize)
		}
		checkError(t, full+"func g() { }", api.ErrTwice)
		checkError(t, full+"on signal s(x) { }", api.ErrTwice)
	}
	noMain := strings.Replace(most, "main", "other", 1) + "func h() { } func z() { }"
	checkError(t, noMain, api.ErrSize)
}

func TestLimitOfParameters(t *testing.T) { // P10.1
	list := func(n int) string { return strings.TrimSuffix(repeat(n, "p#, "), ", ") }
	checkError(t, "func f("+list(api.MaxParams)+") { }"+mainFunction, api.OK)
	checkError(t, "func f("+list(api.MaxParams+1)+") { }"+mainFunction, api.ErrSize)
	checkError(t, "func main("+list(api.MaxParams)+") { }", api.ErrArity)
	checkError(t, "func main("+list(api.MaxParams+1)+") { }", api.ErrSize)
}

func TestLimitOfVariables(t *testing.T) { // P10.1
	body := func(params, more int) string { return "{ " + repeat(api.MaxSlots-params+more, "let v# = 1;") + " }" }
	for form, params := range map[string]int{
		"func main() @": 0, "func main(a) @": 1, "func f(a, b) @ func main() { }": 2, "on signal s(a) @ func main() { }": 1,
		"on query q(a) @ func main() { }": 1, "on update u(a) @ func main() { }": 1,
		"on update u(a) check { } @ func main() { }": 1, "on update u(a) check @ { } func main() { }": 1,
	} {
		checkError(t, strings.Replace(form, "@", body(params, 0), 1), api.OK)
		checkError(t, strings.Replace(form, "@", body(params, 1), 1), api.ErrSize)
		twice := strings.Replace(form, "@", "{ if true "+body(params, 0)+" else "+body(params, 0)+" }", 1)
		checkError(t, twice, api.OK)
		checkError(t, strings.Replace(form, "@", "{ let x = 1; if true "+body(params, 0)+" }", 1), api.ErrSize)
	}
	checkError(t, "func main() { try { } catch e "+body(1, 0)+" }", api.OK)
	checkError(t, "func main() { try { } catch e "+body(0, 0)+" }", api.ErrSize)
	checkError(t, "func main() { select { case c = timer(1) "+body(1, 0)+" case timer(1) "+body(0, 0)+" } }", api.OK)
	checkError(t, "func main() { select { case c = timer(1) "+body(0, 0)+" } }", api.ErrSize)
	same := "{ " + strings.Repeat("let v = 1;", api.MaxSlots) + " }"
	checkError(t, "func main() "+same, api.ErrTwice)
	checkError(t, "func f() { "+strings.Repeat("let v = 1;", api.MaxSlots+1)+" }", api.ErrSize)
}
