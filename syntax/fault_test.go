package syntax_test

import (
	"strings"
	"testing"

	"workflow/api"
	"workflow/syntax"
)

func TestParseFaults(t *testing.T) { // P8.1
	for _, s := range []string{
		"^x", "^;", "^1", "^}", "^let x = 1;", "^fun f() {}", "^main", "^if a {}", `^"func"`, "^return;", "var x = 1; ^;", "func f() {} ^}", "func f() {}^;",
		"var^", "var ^1 = 1;", "var ^if = 1;", `var ^"x" = 1;`, "var x^;", "var x ^:= 1;", "var x ^== 1;", "var x =^", "var x = ^;", "var x = ^y;", "var x = ^(1);",
		"var x = ^[];", "var x = ^{};", "var x = ^+1;", "var x = ^not true;", "var x = -^", "var x = -^;", "var x = -^-1;", "var x = -^true;", "var x = -^x;",
		`var x = -^"s";`, "var x = -^(1);", "var x = 1 ^+ 1;", "var x = 1^", "var x = 1 ^var y = 1;", "var x = true ^and true;", "var x^, y = 1;",
		"func^", "func ^() {}", "func ^1() {}", "func ^if() {}", "func ^check() {}", `func ^"f"() {}`, "func f^", "func f ^{}", "func f(^", "func f(^,", "func f(^1) {}",
		"func f(^not) {}", "func f(x^", "func f(x ^y) {}", "func f(x,^", "func f(x,^) {}", "func f(x, ^1) {}", "func f(x,^,y) {}", "func f(x ^= 1) {}", "func f(x^.y) {}",
		"func f()^", "func f() ^;", "func f() ^a", "func f() ^func", "func f() {^", "func f() { a; ^", "func f() {} ^{", "func f() ^check {} {}",
		"on^", "on ^f(x) {}", "on ^check f(x) {}", "on ^func f(x) {}", `on ^"signal" s(x) {}`, "on ^on signal s(x) {}", "on signal^", "on signal ^(x) {}", "on signal ^query(x) {}",
		"on signal ^1(x) {}", "on signal s^", "on signal s ^{}", "on signal s(^", "on signal s(^) {}", "on signal s(^if) {}", "on signal s(^1) {}", `on signal s(^"x") {}`,
		"on signal s(x^", "on signal s(x^, y) {}", "on signal s(x)^", "on signal s(x) ^;", "on signal s(x) {^", "on signal s(x) ^check {} {}", "on query q(x) ^check {} {}",
		"on query ^signal(x) {}", "on query q(^) {}", "on query q(x^,) {}", "on signal s(x) {} ^{}", "on query q(x) {} ^{}", "on update u(x) {} ^{}", "on update u(x) {} ^check {}",
		"on update u(x) check^", "on update u(x) check ^;", "on update u(x) check {}^", "on update u(x) check {} ^func f() {}", "on update u(x) check {} ^check {} {}",
		"on update u(x) check {} {} ^{}", "on update ^check(x) {}", "on update u(^check) {}", "on update u(x) {} ^;",
	} {
		checkMarked(t, syntax.Parse, s)
	}
}

func TestStatementFaults(t *testing.T) { // P8.1
	for _, s := range []string{
		"^;", "^)", "^]", "^,", "^else {}", "^catch x {}", "^case a {}", "^check {}", "^func g() {}", "^var x = 1;", "^on signal s(x) {}", "^signal;", "^and;", "^= 1;", "^/ 1;",
		"let^", "let ^= 1;", "let ^1 = 1;", "let ^let = 1;", `let ^"x" = 1;`, "let x^", "let x^;", "let x ^== 1;", "let x^, y = 1;", "let x =^", "let x = ^;", "let x = 1^", "let x = 1 ^}",
		"let x = ^let y = 1;", "let x = y ^= 1;", "let x^.y = 1;", "x =^", "x = ^;", "x = ^= 1;", "x = y ^= 1;", "x = 1^", "x = 1 ^y = 1;", "x.y ^= 1;", "x[1] ^= 1;", "f() ^= 1;",
		"(x) ^= 1;", "1 ^= 1;", "x + y ^= 1;", "-x ^= 1;", "a^", "a ^b;", "a ^}", "a ^{}", "a; ^;", "a^: b;", "x ^:= 1;", "{} ^{}", "{}^}", "{ ^a; }", "{ ^return; }",
		"if^", "if ^;", "if ^if a {} {}", "if a^", "if a ^;", "if a ^b {}", "if a ^return;", "if (a) ^return;", "if { ^a; }", "if a {^", "if a {} else^", "if a {} else ^;", "if a {} else ^b;",
		"if a {} else ^while b {}", "if a {} else if^", "if a {} else if { ^b; }", "if a {} else if b ^else {}", "if a {} else {} ^else {}", "if a {} else {} ^else if b {}", "if a {}^;",
		"if a ^= 1 {}", "if a {} ^catch x {}", "while^", "while ^;", "while a^", "while a ^;", "while a ^b;", "while a {^", "while a {} ^else {}", "while ^while a {} {}", "while a ^= b {}",
		"return^", "return 1^", "return 1 ^}", "return ^return;", "return a ^= 1;", "return 1^, 2;", "return ^}", "throw^", "throw ^;", "throw 1^", "throw 1 ^}", "throw ^throw 1;",
		"try^", "try ^a;", "try ^;", "try {}^", "try {} ^;", "try {} ^x {}", "try {} ^else {}", "try {} catch^", "try {} catch ^{}", "try {} catch ^1 {}", "try {} catch ^if {}",
		"try {} catch ^(x) {}", "try {} catch x^", "try {} catch x ^;", "try {} catch x {} ^catch y {}", "saga^", "saga ^;", "saga ^a;", "saga {^", "saga {} ^catch x {}", "saga {}^;",
		"undo^", "undo ^;", "undo ^{}", "undo ^1();", "undo ^if();", "undo g^;", "undo g^", "undo g(^", "undo g(^,);", "undo g(a^", "undo g(a,^);", "undo g(a ^b);", "undo g()^", "undo g() ^}",
		"undo g()^.a;", "undo g()^();", "undo g() ^+ 1;", "undo ^-g();", "undo ^(g)();", "undo ^go g();", "undo g^.h();",
	} {
		checkMarked(t, syntax.Parse, "func f() { "+s)
		if !strings.HasSuffix(s, "^") {
			// What stands behind the token does not matter.
			checkMarked(t, syntax.Parse, "func f() { a; "+s+" } func f() {}")
			checkMarked(t, syntax.Parse, "on update u(x) check { while a { "+s+" x ) ) ) {")
			checkMarked(t, syntax.Parse, "func f() { try { } catch x { select { case x = a { "+s+" ; } } } }")
		}
	}
}

func TestSelectFaults(t *testing.T) { // P8.1
	for _, s := range []string{
		"select^", "select ^;", "select ^case a {}", "select ^a {}", "select {^", "select {^}", "select { ^}", "select { ^; }", "select { ^a; }", "select { ^{} }", "select { ^if a {} }",
		"select { case^", "select { case ^;", "select { case {^", "select { case ^case a {} }", "select { case ^else {} }", "select { case a^", "select { case a^;", "select { case a ^b {} }",
		"select { case a^: b; }", "select { case x =^", "select { case x = ^= a {} }", "select { case x = ^; }", "select { case 1 ^= a {} }", "select { case (x) ^= a {} }", "select { case x.y ^= a {} }",
		"select { case x == y ^= a {} }", "select { case x = y ^= a {} }", "select { case ^if = a {} }", "select { case a {^", "select { case a {}^", "select { case a {} ^;", "select { case a {} ^catch x {} }",
		"select { case a {} ^a; }", "select { case a {} ^{} }", "select { else^", "select { else ^;", "select { else ^if a {} }", "select { else ^a {} }", "select { else {^", "select { else {}^",
		"select { else {} ^else {} }", "select { else {} ^case a {} }", "select { case a {} else {} ^case b {} }", "select { case a {} else {} ^else {} }", "select { case a {} else {} ^; }",
		"select { case a {} }^;", "select { case a {} } ^else {}", "select { case a {} } ^case b {}", "select ^x { case a {} }",
	} {
		checkMarked(t, syntax.Parse, "func f() { "+s)
	}
	full := "func f() { select { " + strings.Repeat("case x = a { } ", api.MaxCases)
	for _, s := range []string{"^case a { } } }", "^case", "^case = 1;", "^case a { } else { } } }", "else { } ^case a { } } }", "else { } ^else { } } }", "^", "else^", "^; } }"} {
		checkMarked(t, syntax.Parse, full+s)
	}
}

func TestExprFaults(t *testing.T) { // P8.2
	for _, s := range []string{
		"^", " ^", "^;", "^)", "^]", "^}", "^,", "^.", "^:", "^=", "^==", "^+ 1", "^* 1", "^< 1", "^and a", "^or a", "^if", "^func", "^let", "^return", "^signal", "^check", "^else", "^select",
		"a ^b", "a ^1", `a ^"s"`, "a ^null", "a ^not b", "a ^await b", "a ^go f()", "a^;", "a^)", "a^]", "a^}", "a^,", "a^:", "a ^= 1", "a ^{}", "1 ^2", "1 ^a", "a ^if b",
		"a +^", "a -^", "a *^", "a /^", "a %^", "a <^", "a ==^", "a and^", "a or^", "not^", "await^", "-^", "go^", "a + ^+ b", "a * ^/ b", "a + ^* b", "a and ^and b", "a or ^and b", "a < ^< b",
		"a < b ^< c", "a <= b ^>= c", "a == b ^== c", "a != b ^== c", "a == b + c ^> d", "not a < b ^< c", "a < ^not b", "a + ^not b", "a * ^not b", "- ^not a", "await ^not a", "a == ^not b",
		"a.^", "a.^1", `a.^"b"`, "a.^if", "a.^and", "a.^(b)", "a.^[1]", "a.^.b", "a.b^(c)", "a.b ^c", "1.^5", "a[^", "a[^]", "a[b^", "a[b^, c]", "a[b^:c]", "a[b ^c]", "a[b]^(c)", "a[b]^]",
		"f(^", "f(^,", "f(^,)", "f(a^", "f(a,^", "f(a,^)", "f(a,^,b)", "f(a ^b)", "f(a^;", "f(a^]", "f(a ^= 1)", "f()^()", "f(1)^(2)", "(f)^(1)", `"f"^(1)`, "1^(2)", "[]^()", "null^()",
		"go ^", "go ^1", "go f^.a", "go ^(f)()", "go ^go f()", "go ^-f()", "go ^if()", "go f(^", "go f(a,^)", "go f()^.a", "go f()^[1]", "go f()^()", "go f() ^go f()", `go ^"f"()`,
		"(^", "(^)", "(a^", "(a^,", "(a^, b)", "(a^]", "(a)^)", "((a)^", "(^;", "(a ^b)", "(a^= 1)",
		"[^", "[^,", "[^,]", "[a^", "[a,^", "[a,^]", "[a,^,b]", "[a ^b]", "[a^)", "[a^}", "[a^: b]", "[a]^]", "[^)", "[^}",
		"{^", "{^a: 1}", "{^1: 1}", "{^,}", "{^null: 1}", `{"k"^`, `{"k"^}`, `{"k" ^1}`, `{"k"^, "l": 1}`, `{"k" ^= 1}`, `{"k":^`, `{"k":^}`, `{"k":^: 1}`, `{"k":^, "l": 1}`, `{"k": 1^`, `{"k": 1^]`,
		`{"k": 1,^`, `{"k": 1,^}`, `{"k": 1, ^a: 2}`, `{"k": 1 ^"l": 2}`, `{"k": 1^: 2}`, `{^("k"): 1}`, `{^["k"]: 1}`, `{"k" ^+ "l": 1}`, `{"k": 1}^}`, `{^{}}`, `{^-1: 2}`,
	} {
		checkMarked(t, syntax.Expr, s)
		if !strings.HasSuffix(s, "^") {
			checkMarked(t, syntax.Expr, s+" ) ] } ; let")
		}
	}
}

func TestWrongRule(t *testing.T) { // P8.1, P8.2
	for _, s := range []string{"a", "1", "f()", "{}", "(a)", "[]", "not a", "null", `"s"`, "-1"} {
		checkFault(t, syntax.Parse, s, 0, api.ErrSyntax)
	}
	for _, s := range []string{"func f() {}", "var x = 1;", "on signal s(x) {}", "return;", "let x = 1;", "if a {}"} {
		checkFault(t, syntax.Expr, s, 0, api.ErrSyntax)
	}
	checkFault(t, syntax.Expr, "x = 1;", 2, api.ErrSyntax)
	checkFault(t, syntax.Expr, "a;", 1, api.ErrSyntax)
	checkFault(t, syntax.Expr, "", 0, api.ErrSyntax)
	checkFault(t, syntax.Expr, " \n ", 3, api.ErrSyntax)
}

func TestTokenFaults(t *testing.T) { // P8.1, P8.2
	for _, x := range []struct {
		src string
		at  int
		e   api.Errno
	}{
		{"#", 0, api.ErrForm}, {"a !b", 2, api.ErrForm}, {"a + 01", 4, api.ErrForm}, {"1a", 0, api.ErrForm}, {`a "b`, 2, api.ErrShort}, {`[ "\q" ]`, 2, api.ErrForm},
		{"9223372036854775808", 0, api.ErrRange}, {"-9223372036854775808", 1, api.ErrRange}, {"a." + strings.Repeat("n", api.MaxName+1), 2, api.ErrName},
		{`"` + strings.Repeat("s", api.MaxText+1) + `"`, 0, api.ErrSize}, {`f("` + strings.Repeat("s", api.MaxText+1) + `")`, 2, api.ErrSize},
		{strings.Repeat(" ", api.MaxSource+1), 0, api.ErrSize}, {strings.Repeat("a+", api.MaxSource/2) + "a", 0, api.ErrSize},
		// They are found before any error of the grammar, wherever that is.
		{") ; } #", 6, api.ErrForm}, {"func if = 1 \xff", 12, api.ErrForm}, {`= "`, 2, api.ErrShort}, {"] 00", 2, api.ErrForm}, {strings.Repeat("= ", api.MaxSource/2) + "=", 0, api.ErrSize},
		{strings.Repeat("-", 100) + "1 #", 102, api.ErrForm}, {"[" + strings.Repeat("0,", 5000) + "!", 10001, api.ErrForm},
		{"a b " + strings.Repeat("n", api.MaxName+1), 4, api.ErrName}, {"} 9223372036854775808 #", 2, api.ErrRange},
	} {
		checkFault(t, syntax.Parse, x.src, x.at, x.e)
		checkFault(t, syntax.Expr, x.src, x.at, x.e)
	}
	checkFault(t, syntax.Parse, "func f() { 1a }", 11, api.ErrForm)
	checkFault(t, syntax.Parse, "var x = 9223372036854775808;", 8, api.ErrRange)
}
