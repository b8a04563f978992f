package syntax_test

import (
	"strings"
	"testing"

	"workflow/api"
	"workflow/syntax"
)

func repeat(s string, n int) string {
	return strings.Repeat(s, n)
}

func TestSizeLimit(t *testing.T) { // P8.1, P8.2
	// A list of n elements has n + 1 nodes.
	most := "[" + repeat("0,", api.MaxTree-2) + "0]"
	checkExpr(t, most, func() api.Node {
		n := node(api.XList)
		for range api.MaxTree - 1 {
			n.Kids = append(n.Kids, number(0))
		}
		return n
	}())
	checkFault(t, syntax.Expr, "[0,"+most[1:], 0, api.ErrSize)
	checkFault(t, syntax.Expr, "["+repeat("0,", 8000)+"0]", 0, api.ErrSize)
	// The program, the function, its block and the statement have four nodes; the call has one for itself.
	body := "func f() { f(" + repeat("0,", api.MaxTree-6) + "0); }"
	n, at, e := syntax.Parse(body)
	if size, _ := count(n); size != api.MaxTree || at != 0 || e != api.OK || !syntax.Right(n) {
		t.Errorf("a program of %d nodes: %d, %d", size, at, e)
	}
	checkFault(t, syntax.Parse, strings.Replace(body, "(0", "(0,0", 1), 0, api.ErrSize)
	checkFault(t, syntax.Parse, body+"func f(){}", 0, api.ErrSize)
	// Parameters, pairs, branches and blocks are nodes, too.
	for _, part := range []string{"0;", "{};", "if 0{}", "saga{}", "return;", "undo f();"} {
		for count := range 10 {
			src := "func f(){" + repeat(part, 1990+count) + "}"
			want := api.OK
			nodes := 3 + (1990+count)*2
			if part == "if 0{}" {
				nodes = 3 + (1990+count)*3
			}
			if part == "return;" || part == "undo f();" {
				nodes = 3 + 1990 + count
			}
			if len(src) > api.MaxSource || nodes > api.MaxTree {
				want = api.ErrSize
			}
			if n, at, e := syntax.Parse(src); e != want || at != 0 || e == api.OK && !syntax.Right(n) {
				t.Errorf("%d times %s: %d, %d", 1990+count, part, at, e)
			}
		}
	}
}

func TestDepthLimit(t *testing.T) { // P8.1, P8.2
	for _, x := range []struct {
		open, middle, close string
		step, extra         int // the depth is step times the number of brackets, and extra
	}{
		{"-", "1", "", 1, 1}, {"not ", "a", "", 1, 1}, {"await ", "a", "", 1, 1}, {"[", "", "]", 1, 0}, {"[", "1", "]", 1, 1}, {`{"":`, "1", "}", 2, 1}, {`{"":`, "{}", "}", 2, 1},
		{"f(", "", ")", 1, 0}, {"go f(", "", ")", 1, 0}, {"a[", "0", "]", 1, 1}, {"", "a", "[0]", 1, 1}, {"", "a", ".b", 1, 1}, {"", "1", "+1", 1, 1}, {"", "a", " or b", 1, 1},
		{"", "a", " and b", 1, 1}, {"", "a", "*b", 1, 1}, {"1+(", "1", ")", 1, 1}, {"1<(", "1", ")", 1, 1}, {"a.b[", "0", "]", 1, 2}, {"a.b[a.b[0]+", "0", "]", 2, 3},
	} {
		for count := 1; count <= api.MaxNesting+1; count++ {
			depth, want := x.step*count+x.extra, api.OK
			if depth > api.MaxNesting {
				want = api.ErrDepth
			}
			src := repeat(x.open, count) + x.middle + repeat(x.close, count)
			if n, at, e := syntax.Expr(src); e != want || at != 0 || e == api.OK && syntax.Depth(n) != depth {
				t.Errorf("%s: %d, %d, want %d", src, at, e, want)
			}
			// The program, the function, the block and the statement are above the expression.
			if want = api.OK; depth+4 > api.MaxNesting {
				want = api.ErrDepth
			}
			src = "func f() { return " + src + "; }"
			if n, at, e := syntax.Parse(src); e != want || at != 0 || e == api.OK && syntax.Depth(n) != depth+4 {
				t.Errorf("%s: %d, %d, want %d", src, at, e, want)
			}
		}
	}
}

func TestDepthOfBlocks(t *testing.T) { // P8.1
	for _, x := range []struct {
		open, close string
		step        int
	}{
		{"if a {", "}", 2}, {"if a {} else {", "}", 2}, {"while a {", "}", 2}, {"saga {", "}", 2}, {"try {", "} catch x {}", 2}, {"try {} catch x {", "}", 2},
		{"select { case a {", "} }", 3}, {"select { else {", "} }", 3},
	} {
		for count := 1; count <= 20; count++ {
			// The program and the function are above the first block.
			depth, want := 3+x.step*count, api.OK
			if depth > api.MaxNesting {
				want = api.ErrDepth
			}
			src := "func f() {" + repeat(x.open, count) + repeat(x.close, count) + "}"
			if n, at, e := syntax.Parse(src); e != want || at != 0 || e == api.OK && syntax.Depth(n) != depth {
				t.Errorf("%s: %d, %d, want %d", src, at, e, want)
			}
		}
	}
	// A chain of else if is nested, one level for each if.
	for count := 30; count < 45; count++ {
		depth, want := 4+count, api.OK
		if depth > api.MaxNesting {
			want = api.ErrDepth
		}
		src := "func f() {" + repeat("if a {} else ", count-1) + "if a {} }"
		if n, at, e := syntax.Parse(src); e != want || at != 0 || e == api.OK && syntax.Depth(n) != depth {
			t.Errorf("%s: %d, %d, want %d", src, at, e, want)
		}
	}
}

func TestOrderOfErrors(t *testing.T) { // P8.1, P8.2
	// A syntax error comes before both limits, and the size before the depth.
	wide, deep := repeat("0,", api.MaxTree), repeat("-", api.MaxNesting)
	checkFault(t, syntax.Expr, "["+wide+"0", len(wide)+2, api.ErrSyntax)
	checkFault(t, syntax.Expr, "["+wide+"]", len(wide)+1, api.ErrSyntax)
	checkFault(t, syntax.Expr, deep, len(deep), api.ErrSyntax)
	checkFault(t, syntax.Expr, deep+"1 1", len(deep)+2, api.ErrSyntax)
	checkFault(t, syntax.Expr, deep+"1", 0, api.ErrDepth)
	checkFault(t, syntax.Expr, "["+wide+"0]", 0, api.ErrSize)
	checkFault(t, syntax.Expr, "["+wide+deep+"1]", 0, api.ErrSize)
	checkFault(t, syntax.Expr, "["+deep+"1,"+wide+"1]", 0, api.ErrSize)
	checkFault(t, syntax.Expr, "["+wide+deep+"1] #", len(wide)+len(deep)+4, api.ErrForm)
	checkFault(t, syntax.Parse, "func f() { ["+wide+deep+"1]; }", 0, api.ErrSize)
	checkFault(t, syntax.Parse, "func f() { "+deep+"1; }", 0, api.ErrDepth)
	checkFault(t, syntax.Parse, "func f() { "+deep+"1; } ;", len(deep)+16, api.ErrSyntax)
	checkFault(t, syntax.Parse, "func f() { ["+wide+deep+"1]; }}", len(wide)+len(deep)+17, api.ErrSyntax)
}

func TestLongTexts(t *testing.T) { // P8.1, P8.2
	// As deep as a text within the limit can be: nothing panics, and the errors are those of the whole text.
	for _, s := range []string{"(", "[", "-", "not ", "await ", `{"":`, "f(", "go f(", "a[", "a+", "a or ", "1<(", "- [", "a.b[", "f(1,"} {
		open := repeat(s, api.MaxSource/len(s))
		checkFault(t, syntax.Expr, open, len(open), api.ErrSyntax)
		head := "func f() { "
		open = head + repeat(s, (api.MaxSource-len(head))/len(s))
		checkFault(t, syntax.Parse, open, len(open), api.ErrSyntax)
	}
	for _, s := range []string{"if a {", "while a {", "saga {", "try {", "select { else {", "select { case a {", "if a {} else ", "try {} catch x {", "undo f(); ", "x = 1; "} {
		head := "func f() { "
		open := head + repeat(s, (api.MaxSource-len(head))/len(s))
		checkFault(t, syntax.Parse, open, len(open), api.ErrSyntax)
	}
	half := api.MaxSource/2 - 1
	checkFault(t, syntax.Expr, repeat("[", half)+repeat("]", half), 0, api.ErrSize)
	checkFault(t, syntax.Expr, repeat("-", api.MaxSource-1)+"1", 0, api.ErrSize)
	checkFault(t, syntax.Expr, repeat("[", api.MaxTree)+repeat("]", api.MaxTree), 0, api.ErrDepth)
	checkFault(t, syntax.Expr, "1"+repeat("+1", half), 0, api.ErrSize)
	checkFault(t, syntax.Expr, "a"+repeat(".b", api.MaxTree-1), 0, api.ErrDepth)
	checkFault(t, syntax.Expr, "a"+repeat(".b", api.MaxTree), 0, api.ErrSize)
	checkExpr(t, repeat("(", half)+"a"+repeat(")", half), variable("a"))
}
