package scope_test

import (
	"slices"
	"strconv"
	"strings"
	"testing"

	"workflow/api"
	"workflow/scope"
)

func TestLocals(t *testing.T) { // P10.6
	for body, want := range map[string]int{
		"": 0, "return x;": 0, "x = 1;": 0, "let a = 1;": 1, "let a = 1; let b = 2; let c = 3;": 3, "let a = 1; let a = 2;": 2,
		"if true { let a = 1; } else { let b = 1; let c = 2; }":                             2,
		"if true { let a = 1; let b = 2; } else { let c = 1; }":                             2,
		"if true { let a = 1; } else if true { let b = 1; let c = 2; let d = 3; } else { }": 3,
		"let a = 1; if true { let b = 1; }":                                                 2,
		"if true { let b = 1; } let a = 1;":                                                 1,
		"if true { let b = 1; let c = 1; } let a = 1;":                                      2,
		"let a = 1; if true { let b = 1; let c = 1; } let d = 1;":                           3,
		"while true { let a = 1; let b = 2; } while true { let a = 1; }":                    2,
		"let a = 1; while true { let a = 1; while true { let a = 1; } }":                    3,
		"saga { let a = 1; } saga { let b = 1; let c = 1; } saga { let d = 1; }":            2,
		"try { } catch e { }":                                                                                          1,
		"try { let a = 1; } catch e { }":                                                                               1,
		"try { let a = 1; let b = 1; } catch e { }":                                                                    2,
		"try { let a = 1; } catch e { let b = 1; }":                                                                    2,
		"try { try { } catch e { let a = 1; } } catch f { }":                                                           2,
		"let a = 1; try { } catch a { try { } catch a { } } let a = 1;":                                                3,
		"select { case timer(1) { } else { } }":                                                                        0,
		"select { case v = timer(1) { } }":                                                                             1,
		"select { case v = timer(1) { let w = 1; } case timer(2) { } }":                                                2,
		"select { case v = timer(1) { } case timer(2) { let w = 1; let x = 2; } }":                                     2,
		"select { case v = timer(1) { } case w = timer(2) { } else { let a = 1; } }":                                   1,
		"select { case v = timer(1) { } else { let a = 1; let b = 1; } }":                                              2,
		"let a = 1; select { case v = timer(1) { select { case w = v { let b = 1; } } } } let c = 1;":                  4,
		"return 1; let a = 1; throw 2; if false { let b = 2; }":                                                        2,
		"let len = 1; let main = 2; let f = f(x, y, z);":                                                               3,
		"while true { if true { saga { try { let a = 1; } catch b { let c = 1; select { else { let d = 1; } } } } } }": 3,
	} {
		checkLocals(t, "func f() { "+body+" }", want)
		checkLocals(t, "func main(p) { "+body+" }", want+1)
		checkLocals(t, "func f(a, b, c) { "+body+" }", want+3)
		checkLocals(t, "func f(a, a, a, a, a, a, a, a, a) { "+body+" }", want+9)
		for _, kind := range []string{"signal", "query", "update"} {
			checkLocals(t, "on "+kind+" h(a) { "+body+" }", want+1)
		}
		checkLocals(t, "on update u(x) check { "+body+" } { }", want+1)
		checkLocals(t, "on update u(x) check { "+body+" } { let y = 1; }", max(want, 1)+1)
		checkLocals(t, "on update u(x) check { let y = 1; let z = 1; } { "+body+" }", max(want, 2)+1)
	}
	for _, constant := range []string{"1", "-1", "null", "true", "false", `"s"`} {
		checkLocals(t, "var x = "+constant+";", 0)
	}
	n := tree(t, "func f(a) { let x = 1; } on query q(x) { }")
	if got := scope.Locals(n); got != 0 {
		t.Errorf("%d variables in a program", got)
	}
}

func TestManyLocals(t *testing.T) { // P10.6
	for _, n := range []int{api.MaxSlots, api.MaxSlots + 1, 1900} {
		f := named(api.DFunc, "f", block(slices.Repeat([]api.Node{named(api.SLet, "x", node(api.XNull))}, n)...))
		if got := scope.Locals(f); got != n {
			t.Errorf("%d variables, want %d", got, n)
		}
		f = named(api.DFunc, "f", append(slices.Repeat([]api.Node{variable("x")}, n), block())...)
		if got := scope.Locals(f); got != n {
			t.Errorf("%d parameters, want %d", got, n)
		}
	}
}

// wrongDeclarations are nodes that are no declarations, or no right ones.
func wrongDeclarations() []api.Node {
	x, b := variable("x"), block()
	lets := block(named(api.SLet, "a", node(api.XNull)))
	return []api.Node{
		{}, x, b, lets, program(), program(named(api.DFunc, "f", lets)), named(api.SLet, "x", x), node(api.SSaga, lets), named(api.STry, "e", lets, lets),
		named(api.DVar, "x"), named(api.DVar, "x", x), named(api.DVar, "", node(api.XNull)), named(api.DVar, "x", lets),
		named(api.DFunc, "f"), named(api.DFunc, "", lets), named(api.DFunc, "if", lets), named(api.DFunc, "f", x), named(api.DFunc, "f", lets, lets),
		named(api.DFunc, "f", node(api.XNull), lets), named(api.DFunc, "f", variable("a b"), lets), handler(api.DFunc, "f", "p", lets),
		{Op: api.DFunc, Name: "f", Int: 1, Kids: []api.Node{lets}}, named(api.DFunc, "f", block(x)), named(api.DFunc, "f", block(named(api.SLet, "a"))),
		named(api.DFunc, "f", block(lets)), named(api.DFunc, "f", block(node(api.SSelect))), named(api.DFunc, "f", block(named(api.STry, "", b, b))),
		named(api.DFunc, strings.Repeat("f", api.MaxName+1), lets), named(api.DFunc, "f", block(node(api.SExpr, node(api.XPair, x)))),
		handler(api.DSignal, "s", "", lets), handler(api.DSignal, "s", "p"), handler(api.DSignal, "s", "p", lets, lets), handler(api.DSignal, "", "p", lets),
		handler(api.DQuery, "q", "if", lets), handler(api.DQuery, "q", "p", lets, b), handler(api.DQuery, "q", "p", x), handler(api.DQuery, "q", "p", x, lets),
		handler(api.DUpdate, "u", "p"), handler(api.DUpdate, "u", "p", lets, lets, lets), handler(api.DUpdate, "u", "", lets), handler(api.DUpdate, "u", "p", x, lets),
		{Op: api.DUpdate + 1, Name: "f", Kids: []api.Node{lets}}, {Op: -1, Name: "f", Text: "p", Kids: []api.Node{lets}},
	}
}

// checkWrong tests what all functions return for a tree that is no program.
func checkWrong(t *testing.T, n api.Node, labels ...string) {
	t.Helper()
	if got := scope.Check(n); got != api.ErrSyntax {
		t.Errorf("Check = %d for Op %d", got, n.Op)
	}
	if got := scope.Funcs(n); len(got) != 0 {
		t.Errorf("Funcs = %q for Op %d", got, n.Op)
	}
	for _, label := range labels {
		if got := scope.Calls(n, label); len(got) != 0 {
			t.Errorf("Calls(%s) = %q for Op %d", label, got, n.Op)
		}
		if scope.Pure(n, label) {
			t.Errorf("%s is pure for Op %d", label, n.Op)
		}
	}
	if got := scope.Locals(n); got != 0 && (n.Op < api.DFunc || n.Op > api.DUpdate) {
		t.Errorf("Locals = %d for Op %d", got, n.Op)
	}
}

func TestWrongTrees(t *testing.T) { // P10.1, P10.4, P10.5, P10.6
	labels := []string{"", "main", "f", "g", "u", "query q", "signal s", "check u", "update u"}
	main := named(api.DFunc, "main", block(node(api.SExpr, named(api.XCall, "g"))))
	g := named(api.DFunc, "g", block())
	if scope.Check(program(main, g)) != api.OK || len(scope.Calls(program(main, g), "main")) != 1 || !scope.Pure(program(main, g), "main") {
		t.Error("the program is right without wrong declarations")
	}
	for _, d := range wrongDeclarations() {
		if got := scope.Locals(d); got != 0 {
			t.Errorf("Locals = %d for %s", got, short(show(d)))
		}
		if d.Op != api.DProgram {
			checkWrong(t, d, labels...)
		}
		checkWrong(t, program(d), labels...)
		checkWrong(t, program(main, g, d), labels...)
		checkWrong(t, program(d, main, g), labels...)
	}
	for _, n := range []api.Node{main, {Op: api.DProgram, Name: "p"}, {Op: api.DProgram, Int: 1}, {Op: api.DProgram, Text: "p"}, {Op: api.DProgram + 9}} {
		checkWrong(t, n, labels...)
		n.Kids = []api.Node{main, g}
		checkWrong(t, n, labels...)
	}
}

func TestTreesBeyondTheLimits(t *testing.T) { // P10.1, P10.4, P10.5, P10.6
	// A function with depth levels in all; its variable is at the deepest one.
	nested := func(depth int) api.Node {
		statements := block(named(api.SLet, "x", node(api.XNull)))
		for range (depth - 4) / 2 {
			statements = block(node(api.SSaga, statements))
		}
		return named(api.DFunc, "main", statements)
	}
	for _, x := range []struct{ depth, locals int }{{api.MaxNesting - 2, 1}, {api.MaxNesting, 0}} {
		f := nested(x.depth)
		if got := scope.Locals(f); got != x.locals {
			t.Errorf("Locals = %d at the depth %d", got, x.depth)
		}
		if x.locals == 0 {
			checkWrong(t, program(f), "main")
		} else if scope.Check(program(f)) != api.OK || !scope.Pure(program(f), "main") {
			t.Errorf("a program of the depth %d", x.depth)
		}
	}
	// A main with size nodes, which calls itself.
	wide := func(size int) api.Node {
		return named(api.DFunc, "main", block(append(slices.Repeat([]api.Node{node(api.SReturn)}, size-5),
			named(api.SLet, "x", node(api.XNull)), named(api.SUndo, "main"))...))
	}
	f := wide(api.MaxTree - 1)
	if got := scope.Locals(f); got != 1 {
		t.Errorf("Locals = %d", got)
	}
	if n := program(f); scope.Check(n) != api.OK || !slices.Equal(scope.Funcs(n), []string{"main"}) || !slices.Equal(scope.Calls(n, "main"), []string{"main"}) {
		t.Error("a program of MaxTree nodes")
	}
	f = wide(api.MaxTree)
	if got := scope.Locals(f); got != 0 {
		t.Errorf("Locals = %d", got)
	}
	checkWrong(t, program(f), "main")
	main := tree(t, "func main() { f(); } func f() { }")
	main.Kids[1].Kids[0].Kids = main.Kids
	checkWrong(t, main, "main", "f")
	saga := block(node(api.SSaga, block()))
	saga.Kids[0].Kids[0].Kids = saga.Kids
	checkWrong(t, program(named(api.DFunc, "main", saga)), "main")
	if got := scope.Locals(named(api.DFunc, "main", saga)); got != 0 {
		t.Errorf("Locals = %d", got)
	}
}

func TestUnusedCapacity(t *testing.T) { // P10.1, P10.4: what lies between the length and the capacity of a list is ignored
	n := tree(t, "func main() { let a = 1; } func f() { return x; }")
	n.Kids = n.Kids[:1]
	n.Kids[0].Kids[0].Kids = append(n.Kids[0].Kids[0].Kids, named(api.SLet, "a", node(api.XNull)))[:1]
	if scope.Check(n) != api.OK || !slices.Equal(scope.Funcs(n), []string{"main"}) || scope.Pure(n, "f") || scope.Locals(n.Kids[0]) != 1 {
		t.Error("the elements behind a list count")
	}
	if f := n.Kids[:2][1].Name; f != "f" {
		t.Errorf("%s lies behind the list", strconv.Quote(f))
	}
}
