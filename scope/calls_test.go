package scope_test

import (
	"slices"
	"strings"
	"testing"

	"workflow/api"
	"workflow/scope"
)

func TestFuncs(t *testing.T) { // P10.4
	for src, want := range map[string][]string{
		"":                              nil,
		"var a = 1; on query q(x) { }":  nil,
		"func main() { }":               {"main"},
		"func b() { } func a(x, y) { }": {"b", "a"},
		"func f() { } func len() { }":   {"f", "len"},
		"func f() { } func f(a, a) { }": {"f", "f"},
		"func f() { } var f = 1; func g() { return f() + z(1); } on signal g(x) { } on update f(x) check { } { } func a() { }": {"f", "g", "a"},
	} {
		n := tree(t, src)
		got := scope.Funcs(n)
		if !slices.Equal(got, want) {
			t.Errorf("Funcs(%s) = %q, want %q", src, got, want)
		}
		for i := range got {
			got[i] = "changed"
		}
		if again := scope.Funcs(n); !slices.Equal(again, want) {
			t.Errorf("Funcs(%s) = %q after %q", src, again, want)
		}
	}
}

const callers = `
	func c() { b(); } func main() { go a(); undo c(); } func a() { len(1); } func b() { timer(b()); }
	on update u(x) check { a(); } { main(); } on update v(x) { if x { d(); } } on signal s(x) { c(); } on query s(x) { a(); e(a()); }
	func d() { while f0() { select { case e(1) { } } } } func e(x) { return {"k": [-x.y[f1(1)]]}; }
	func f0() { try { saga { undo g(h(1)); } } catch g { throw a(); } } func f1(x) { } func g(x) { } func h(x) { return await go i(); } func i() { }`

func TestCallsOfBodies(t *testing.T) { // P10.4, P10.5
	checkCalls(t, callers, "main", false, "c", "a", "b")
	checkCalls(t, callers, "c", false, "b")
	checkCalls(t, callers, "a", true)
	checkCalls(t, callers, "b", false, "b")
	checkCalls(t, callers, "check u", true, "a")
	checkCalls(t, callers, "update u", false, "c", "main", "a", "b")
	checkCalls(t, callers, "update v", true, "a", "d", "e", "f0", "f1", "g", "h", "i")
	checkCalls(t, callers, "signal s", false, "c", "b")
	checkCalls(t, callers, "query s", true, "a", "e", "f1")
	checkCalls(t, callers, "d", true, "a", "e", "f0", "f1", "g", "h", "i")
	checkCalls(t, callers, "e", true, "f1")
	checkCalls(t, callers, "f0", true, "a", "g", "h", "i")
	checkCalls(t, callers, "h", true, "i")
	checkCalls(t, callers, "i", true)
	for _, label := range []string{
		"", "u", "s", "x", "len", "timer", "query u", "signal u", "check v", "check s", "update s", "func a", "update", "update  u", " a", "a ", "A", "main()", "update u v",
	} {
		checkCalls(t, callers, label, false)
	}
	checkCalls(t, "", "main", false)
	checkCalls(t, "var main = 1;", "main", false)
	n := tree(t, callers)
	got := scope.Calls(n, "update u")
	got[0] = "changed"
	if again := scope.Calls(n, "update u"); !slices.Equal(again, []string{"c", "main", "a", "b"}) {
		t.Errorf("Calls = %q", again)
	}
}

func TestCallsInCircles(t *testing.T) { // P10.4, P10.5
	circle := "func a() { b(); } func b() { c(); } func c() { @ } func d() { a(); } func e() { } on query a(x) { c(); }"
	back := strings.Replace(circle, "@", "a();", 1)
	checkCalls(t, back, "a", true, "a", "b", "c")
	checkCalls(t, back, "b", true, "a", "b", "c")
	checkCalls(t, back, "c", true, "a", "b", "c")
	checkCalls(t, back, "d", true, "a", "b", "c")
	checkCalls(t, back, "e", true)
	checkCalls(t, back, "query a", true, "a", "b", "c")
	open := strings.Replace(circle, "@", "e(); now();", 1)
	checkCalls(t, open, "a", false, "b", "c", "e")
	checkCalls(t, open, "b", false, "c", "e")
	checkCalls(t, open, "c", false, "e")
	checkCalls(t, open, "d", false, "a", "b", "c", "e")
	checkCalls(t, open, "query a", false, "c", "e")
	itself := strings.Replace(circle, "@", "go c(); b(c(), c());", 1)
	checkCalls(t, itself, "c", true, "b", "c")
	checkCalls(t, itself, "b", true, "b", "c")
	checkCalls(t, itself, "a", true, "b", "c")
}

func TestCallsWithoutCheck(t *testing.T) { // P10.4, P10.5: programs with errors
	// A name denotes the builtin function, then the first function; a label denotes the first body.
	checkCalls(t, "func f() { len(1); go len(2); undo len(3); } func len(x) { now(); }", "f", true)
	checkCalls(t, "func f() { timer(1); } func timer(x) { g(); } func g() { }", "f", false)
	checkCalls(t, "func f() { g(); } func timer(x) { g(); } func g() { }", "timer", true, "g")
	checkCalls(t, "func len(x) { len(now()); } func f() { }", "len", false)
	checkCalls(t, "func len(x) { len(1); f(); } func f() { f(); }", "len", true, "f")
	checkCalls(t, "func f() { g(); } func g() { a(); } func g() { b(); now(); } func a() { } func b() { }", "f", true, "g", "a")
	checkCalls(t, "func f() { g(); } func g() { a(); } func g() { b(); now(); } func a() { } func b() { }", "g", true, "a")
	checkCalls(t, "func f() { g(); } func g() { b(); now(); } func g() { a(); } func a() { } func b() { }", "f", false, "g", "b")
	checkCalls(t, "func g() { } func f() { g(); g(); f(); } func g() { } func f() { now(); }", "f", true, "g", "f")
	checkCalls(t, "func g() { } func f() { f(); g(); } func g() { } func f() { now(); }", "f", true, "g", "f")
	checkCalls(t, "on query q(x) { a(); } on query q(x) { b(); now(); } func a() { } func b() { }", "query q", true, "a")
	checkCalls(t, "on update u(x) { a(); } on update u(x) check { b(); } { now(); } func a() { } func b() { }", "check u", true, "b")
	checkCalls(t, "on update u(x) { a(); } on update u(x) check { b(); } { now(); } func a() { } func b() { }", "update u", true, "a")
	checkCalls(t, "on update u(x) check { a(); } { } on update u(x) check { b(); now(); } { } func a() { } func b() { }", "check u", true, "a")
	// Neither wrong numbers of arguments nor undeclared names matter.
	checkCalls(t, "func f() { g(x, 1); h(); x = now; } func g() { }", "f", true, "g")
	checkCalls(t, "func f() { g(now(1, 2)); } func g(a) { }", "f", false, "g")
	checkCalls(t, "func main(a, b) { main(1); let a = f(); } func f(a, a) { return f; }", "main", true, "main", "f")
	checkCalls(t, "var g = 1; func f() { g(); g = f; } func h() { let f = 1; return f; }", "f", true)
	checkCalls(t, "var g = 1; func f() { g(); g = f; } func h() { let f = 1; return f; }", "h", true)
}

func TestPure(t *testing.T) { // P10.5
	for name, arity := range builtins {
		pure := arity[2] == 1
		for _, form := range []string{"@;", "return [1, @];", "let x = -@;", "f(@);", "go f(@);", "undo f(@);", "await @;", "while @ { }", "try { } catch e { e[@] = @; }"} {
			body := strings.ReplaceAll(strings.Replace(form, "e[@] = @", "e = {\"a\": @}", 1), "@", callOf(name))
			src := "on update u(x) check { " + body + " } { g(); } on query q(x) { } func f(a) { } func g() { h(); } func h() { " + body + " }"
			var calls []string
			if strings.Contains(form, "f(") {
				calls = []string{"f"}
			}
			checkCalls(t, src, "check u", pure, calls...)
			checkCalls(t, src, "h", pure, calls...)
			checkCalls(t, src, "g", pure, append(slices.Clone(calls), "h")...)
			checkCalls(t, src, "update u", pure, append(slices.Clone(calls), "g", "h")...)
			checkCalls(t, src, "query q", true)
		}
		// Only a call is a call of a builtin function.
		src := "func f(" + name + ") { go " + name + "(1); undo " + name + "(1); " + name + " = " + name + "." + name + "; }"
		checkCalls(t, src, "f", true)
		checkCalls(t, "func f() { g(); } func g() { return {\""+name+"\": "+callOf(name)+"}; }", "f", pure, "g")
	}
	// Other impure constructs do not count.
	checkCalls(t, "var g = 1; func f() { g = await go f(); select { else { saga { undo f(); } } } }", "f", true, "f")
}

func TestManyFunctions(t *testing.T) { // P10.4, P10.5
	number := api.MaxTree/6 - 1
	chain := program()
	var names []string
	for i := range number {
		name := "f" + strings.Repeat("x", i%7) + "_" + string(rune('a'+i%26)) + string(rune('a'+i/26))
		names = append(names, name)
	}
	for i, name := range names {
		callee := "f"
		if i > 0 {
			callee = names[i-1]
		}
		chain.Kids = append(chain.Kids, named(api.DFunc, name, block(node(api.SExpr, named(api.XCall, callee)))))
	}
	last := names[number-1]
	if got := scope.Calls(chain, last); !slices.Equal(got, names[:number-1]) {
		t.Errorf("%d functions are called", len(got))
	}
	if !scope.Pure(chain, last) || !scope.Pure(chain, names[0]) {
		t.Error("a function is not pure")
	}
	chain.Kids[0] = named(api.DFunc, names[0], block(node(api.SExpr, named(api.XCall, "now")), node(api.SExpr, named(api.XGo, last))))
	if got := scope.Calls(chain, last); !slices.Equal(got, names) {
		t.Errorf("%d functions are called", len(got))
	}
	if scope.Pure(chain, last) || scope.Pure(chain, names[0]) {
		t.Error("a function is pure")
	}
}
