package scope_test

import (
	"strings"
	"testing"

	"workflow/api"
)

// guarded are forms of a query and of a check block, and unguarded are forms of the other bodies, with the parameter x.
var (
	guarded = []string{"on query h(x) @", "on update h(x) check @ { }"}

	unguarded = []string{"on signal h(x) @", "on update h(x) @", "on update h(x) check { } @", "func h(x) @"}
)

const surroundings = " var g = 1; func f0() { } func f1(a) { } func f2(a, b) { } func main() { }"

// checkGuarded tests what Check returns if a body stands in a query or a check block, and if it stands elsewhere. more are further
// declarations.
func checkGuarded(t *testing.T, body, more string, inside, elsewhere api.Errno) {
	t.Helper()
	for _, form := range guarded {
		src := strings.Replace(form, "@", "{ "+body+" }", 1)
		checkError(t, src+surroundings+more, inside)
		checkError(t, more+surroundings+src, inside)
	}
	for _, form := range unguarded {
		checkError(t, strings.Replace(form, "@", "{ "+body+" }", 1)+surroundings+more, elsewhere)
	}
}

// callOf returns a call of a builtin function with as few arguments as possible.
func callOf(name string) string {
	return name + "(" + strings.TrimSuffix(strings.Repeat("1, ", builtins[name][0]), ", ") + ")"
}

func TestImpureConstructs(t *testing.T) { // P10.2: queries and check blocks
	for _, body := range []string{
		"await x;", "return [1, {\"a\": await x}];", "go f0();", "let y = go f1(x);", "select { case x { } }", "select { case y = x { } }",
		"select { else { } }", "saga { }", "undo f0();", "undo f2(x, x);", "g = 1;", "if x { while x { g = 1; } }", "await await x;",
		"if true { let g = 1; } g = 2;", "try { let g = 1; } catch g { } g = 2;", "try { g = 1; } catch g { }", "return x; await x;",
	} {
		checkGuarded(t, body, "", api.ErrKind, api.OK)
	}
	for _, body := range []string{
		"", "return x;", "let y = [x, g]; y = g; return y;", "x = 1;", "let g = 1; g = 2;", "if x { let g = 1; g = 2; }", "try { throw x; } catch g { g = 2; }",
		"f0(); f1(f2(x, g));", "while not x { x = x + 1; }", "return {\"a\": -x * 2 / 3 % 4 - 5, \"b\": x < 1 and x > 2 or x == g, \"c\": x[1].a};",
		"if x { } else if g { } else { throw 1; }", "try { f0(); } catch e { return e; }",
	} {
		checkGuarded(t, body, "", api.OK, api.OK)
	}
	for name, arity := range builtins {
		want := api.OK
		if arity[2] > 1 {
			want = api.ErrKind
		}
		checkGuarded(t, "return "+callOf(name)+";", "", want, api.OK)
		checkGuarded(t, "if false { f1("+callOf(name)+"); }", "", want, api.OK)
		checkGuarded(t, "let y = "+name+"(1, 2, 3, 4, 5);", "", api.ErrArity, api.ErrArity)
		checkGuarded(t, "let "+name+" = 1; return "+name+";", "", api.OK, api.OK)
	}
}

func TestHarmlessFunctions(t *testing.T) { // P10.2: functions that queries and check blocks call
	for _, body := range []string{
		"await 1;", "go f0();", "select { else { } }", "saga { }", "undo f0();", "g = 1;", "if true { let g = 1; } g = 2;", "timer(1);", "now();", "record(1);",
		"while true { try { return [cancelled()]; } catch e { } }",
	} {
		checkGuarded(t, "i(); ", " func i() { "+body+" }", api.ErrKind, api.OK)
		checkGuarded(t, "if false { return 1 + i(); }", " func i() { j(1); } func j(a) { f0(); return k(); } func k() { "+body+" }", api.ErrKind, api.OK)
		checkGuarded(t, "i();", " func i() { if true { j(); } } func j() { if true { i(); } "+body+" }", api.ErrKind, api.OK)
		checkGuarded(t, "j();", " func i() { if true { j(); } } func j() { if true { i(); } "+body+" }", api.ErrKind, api.OK)
		checkGuarded(t, "k();", " func i() { "+body+" } func j() { i(); } func k() { j(); }", api.ErrKind, api.OK)
		checkGuarded(t, "f0();", " func i() { "+body+" } on query other(x) { f0(); }", api.OK, api.OK)
	}
	for _, body := range []string{
		"", "i();", "let g = 1; g = 2;", "len(1); put({}, \"a\", f1(1));", "try { } catch g { g = 1; }", "while true { throw 1; }", "if true { j(); }",
	} {
		checkGuarded(t, "i();", " func i() { "+body+" } func j() { i(); j(); }", api.OK, api.OK)
	}
	checkGuarded(t, "main();", "", api.OK, api.OK)
	checkError(t, "on query q(x) { main(); } func main() { timer(1); }", api.ErrKind)
	checkError(t, "on query q(x) { f(); } func f() { f(); } func main() { }", api.OK)
	checkError(t, "on query q(x) { return now(); } func main() {}", api.ErrKind)
	checkError(t, "on query q(x) { return 1; } on query r(x) { i(); } func i() { now(); } func main() { }", api.ErrKind)
	checkError(t, "on update u(x) check { return len(x); } { await timer(x); i(); } func i() { saga { g = 1; } } var g = 1; func main() { }", api.OK)
}

func TestOrderWithinGuardedBodies(t *testing.T) { // P10.2
	for _, x := range []struct {
		body, more string
		want       api.Errno
	}{
		// The kids of a node come before the node itself, and its other errors before ErrKind.
		{"await y;", "", api.ErrName}, {"saga { return y; }", "", api.ErrName}, {"saga { let x = 1; }", "", api.ErrTwice},
		{"go f0(y);", "", api.ErrName},
		{"go f0(x);", "", api.ErrArity}, {"go f3();", "", api.ErrName}, {"undo f0(x);", "", api.ErrArity},
		{"undo f3(x);", "", api.ErrName},
		{"undo f1(y);", "", api.ErrName}, {"select { case y { } }", "", api.ErrName}, {"select { case x = 1 { } }", "", api.ErrTwice},
		{"select { case 1 { f0(x); } }", "", api.ErrArity}, {"select { else { return {\"a\": 1, \"a\": 1}; } }", "", api.ErrTwice},
		{"y = 1;", "", api.ErrName}, {"g = y;", "", api.ErrName}, {"g = f0(1);", "", api.ErrArity}, {"timer(y);", "", api.ErrName},
		{"timer();", "", api.ErrArity},
		{"i(1);", " func i() { now(); }", api.ErrArity}, {"i(y);", " func i(a) { now(); }", api.ErrName},
		{"i(f0(1));", " func i(a) { now(); }", api.ErrArity},
		// An earlier node comes before a later one.
		{"await x; return y;", "", api.ErrKind}, {"f1(await x, y);", "", api.ErrKind}, {"return [now(), y];", "", api.ErrKind},
		{"saga { } return y;", "", api.ErrKind},
		{"let y = now(); let y = 1;", "", api.ErrKind}, {"try { await x; } catch x { }", "", api.ErrKind},
		{"try { } catch x { await x; }", "", api.ErrTwice},
		{"select { case await x { return y; } }", "", api.ErrKind}, {"select { case x = await x { } }", "", api.ErrKind},
		{"if await x { return y; }", "", api.ErrKind},
		{"saga { await x; return y; }", "", api.ErrKind}, {"f0(await x);", "", api.ErrKind},
		{"i(i(1), y);", " func i(a) { now(); }", api.ErrKind},
		{"return {\"a\": now(), \"a\": 1};", "", api.ErrKind}, {"let x = g + now();", "", api.ErrKind},
		{"return f0(1) + now();", "", api.ErrArity},
	} {
		for _, form := range guarded {
			checkError(t, strings.Replace(form, "@", "{ "+x.body+" }", 1)+surroundings+x.more, x.want)
		}
	}
	// A function that is called is judged before its own errors are met.
	for _, body := range []string{
		"y = 1;", "timer();", "go f3();", "await y;", "if y { now(1, 2); }", "let g = 1; let g = 2; saga { }", "undo len(1);", "if true { let g = 1; let g = 2; } g = 1;",
	} {
		checkError(t, "on query q(x) { i(); }"+surroundings+" func i() { "+body+" }", api.ErrKind)
		checkError(t, "on update u(x) check { i(); } { }"+surroundings+" func i() { "+body+" }", api.ErrKind)
	}
	for body, want := range map[string]api.Errno{"return y;": api.ErrName, "f0(1);": api.ErrArity, "let g = 1; let g = 2; g = 1;": api.ErrTwice} {
		checkError(t, "on query q(x) { i(); }"+surroundings+" func i() { "+body+" }", want)
	}
}
