package source_test

import (
	"strings"
	"testing"

	"workflow/api"
	"workflow/source"
	"workflow/syntax"
)

// withinLimits returns the tree of a text that matches the grammar, and reports whether it is within the limits.
func withinLimits(t *testing.T, parse parsing, src string) (api.Node, bool) {
	t.Helper()
	n, at, e := parse(src)
	if e != api.OK && e != api.ErrSize && e != api.ErrDepth {
		t.Errorf("%s: %d, %d", short(src), at, e)
	}
	return n, e == api.OK
}

func TestRandomPrograms(t *testing.T) { // P9.1, P9.2, P9.3, P9.4
	seen := map[int]int{}
	eachProgram(1, 4000, func(plain, full string) {
		n, ok := withinLimits(t, syntax.Parse, plain)
		if !ok || len(full) > api.MaxSource {
			return
		}
		want := modelProgram(n)
		if len(want) > api.MaxSource {
			checkFault(t, source.Print, n, api.ErrSize)
			checkFormatFault(t, plain, 0, api.ErrSize)
			return
		}
		checkProgram(t, n, want)
		checkFormat(t, plain, want)
		checkFormat(t, full, want)
		countOps(n, seen)
	})
	for op := api.XNull; op <= api.DUpdate; op++ {
		if seen[op] < 200 && (op <= api.XField || op >= api.SLet && op <= api.SBlock || op >= api.DProgram) {
			t.Errorf("Op %d has been seen %d times", op, seen[op])
		}
	}
}

func countOps(n api.Node, seen map[int]int) {
	seen[n.Op]++
	for _, kid := range n.Kids {
		countOps(kid, seen)
	}
}

func TestRandomExprs(t *testing.T) { // P9.1, P9.2, P9.4
	eachExpr(2, 2500, func(plain, full string) {
		n, ok := withinLimits(t, syntax.Expr, plain)
		if !ok || len(full) > api.MaxSource {
			return
		}
		want := modelExpr(n)
		if len(want) > api.MaxSource {
			checkFault(t, source.Expr, n, api.ErrSize)
			return
		}
		checkExpr(t, n, want)
		other, _ := withinLimits(t, syntax.Expr, full)
		checkExpr(t, other, want)
	})
}

// Every operator has every expression as each of its operands.
func TestAllOperands(t *testing.T) { // P9.1, P9.2
	filled := func(op int) api.Node {
		n := node(op)
		for range operations[op].required {
			n.Kids = append(n.Kids, variable("a"))
		}
		if op == api.XField || op == api.XName || op == api.XCall || op == api.XGo {
			n.Name = "x"
		}
		return n
	}
	for outer, row := range operations {
		for inner := api.XNull; inner <= api.XField; inner++ {
			for i := range row.required {
				n := filled(outer)
				n.Kids[i] = filled(inner)
				if inner != api.XPair {
					checkExpr(t, n, modelExpr(n))
				}
			}
		}
	}
}

// Without one of its pairs of parentheses, a canonical text has another tree or none.
func TestNoParenthesesTooMany(t *testing.T) { // P9.1
	pairs := 0
	eachExpr(3, 2000, func(plain, _ string) {
		n, ok := withinLimits(t, syntax.Expr, plain)
		s, e := source.Expr(n)
		if !ok || e != api.OK || len(s) > 2000 {
			return
		}
		for _, less := range withoutOnePair(s) {
			pairs++
			if other, _, e := syntax.Expr(less); e == api.OK && show(other) == show(n) {
				t.Errorf("%s has the tree of %s", short(less), short(s))
			}
		}
	})
	if pairs < 2000 {
		t.Errorf("only %d pairs of parentheses", pairs)
	}
}

// withoutOnePair returns the texts that a text becomes if one of its pairs of parentheses is replaced by blanks.
func withoutOnePair(s string) []string {
	var out []string
	var open []int
	inString := false
	for i := 0; i < len(s); i++ {
		switch {
		case inString && s[i] == '\\':
			i++
		case s[i] == '"':
			inString = !inString
		case inString:
		case s[i] == '(':
			open = append(open, i)
		case s[i] == ')':
			first := open[len(open)-1]
			open = open[:len(open)-1]
			out = append(out, s[:first]+" "+s[first+1:i]+" "+s[i+1:])
		}
	}
	return out
}

// eachSequence calls visit with texts of at most length tokens, separated by blanks: all with which an expression begins.
func eachSequence(tokens []string, length int, visit func(src string)) {
	var extend func(prefix string, left int)
	extend = func(prefix string, left int) {
		if left == 0 {
			return
		}
		for _, t := range tokens {
			src := prefix + t
			visit(src)
			if _, at, e := syntax.Expr(src); e == api.OK || at == len(src) {
				extend(src+" ", left-1)
			}
		}
	}
	extend("", length)
}

// checkSameExactly tests with all of the given texts that two have the same canonical text exactly if they have the same tree.
func checkSameExactly(t *testing.T, least int, parse parsing, write func(string, api.Node) string, each func(func(string))) {
	t.Helper()
	trees, texts := map[string]string{}, map[string]string{}
	each(func(src string) {
		n, _, e := parse(src)
		if e != api.OK {
			return
		}
		tree, text := show(n), write(src, n)
		if known, found := texts[tree]; found && known != text {
			t.Errorf("%s has the texts %s and %s", tree, short(known), short(text))
		}
		if known, found := trees[text]; found && known != tree {
			t.Errorf("%s is the text of %s and %s", short(text), known, tree)
		}
		trees[text], texts[tree] = tree, text
	})
	if len(texts) < least || len(trees) != len(texts) {
		t.Errorf("%d trees have %d texts; want at least %d", len(texts), len(trees), least)
	}
}

func TestAllShortExprs(t *testing.T) { // P9.2, P9.3, P9.4
	for _, x := range []struct {
		tokens        string
		length, least int
	}{{"a - not await ( ) < + *", 6, 600}, {"a - ( ) . [ ]", 8, 1000}, {"f go ( ) , and or", 9, 300}} {
		checkSameExactly(t, x.least, syntax.Expr, func(src string, n api.Node) string {
			checkExpr(t, n, modelExpr(n))
			s, _ := source.Expr(n)
			return s
		}, func(visit func(src string)) { eachSequence(strings.Fields(x.tokens), x.length, visit) })
	}
}

// Programs that differ in one token may have the same tree or not.
func TestChangedPrograms(t *testing.T) { // P9.3, P9.4
	checkSameExactly(t, 3000, syntax.Parse, func(src string, n api.Node) string {
		s, at, e := source.Format(src)
		if at != 0 || e != api.OK || s != modelProgram(n) {
			t.Errorf("Format(%s) = %s, %d, %d", short(src), short(s), at, e)
		}
		return s
	}, func(visit func(src string)) {
		d := newDeriver(4)
		for range 300 {
			d.plain, d.full = nil, nil
			d.symbol("program", 12)
			tokens := d.plain
			if len(tokens) > 200 {
				continue
			}
			visit(d.join(d.full))
			for i := range tokens {
				for _, other := range strings.Fields("a - ( ) ; , not if else 0") {
					visit(d.join(append(append(append([]string{}, tokens[:i]...), other), tokens[i+1:]...)))
				}
				visit(d.join(append(append([]string{}, tokens[:i]...), tokens[i+1:]...)))
			}
		}
	})
}
