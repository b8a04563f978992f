package syntax_test

import (
	"math/rand"
	"strconv"
	"strings"
	"testing"

	"workflow/api"
	"workflow/syntax"
	"workflow/token"
)

// maker makes random trees of the form that chapter 8 describes.
type maker struct {
	r *rand.Rand
}

// some returns up to most trees.
func (m maker) some(most int, one func() api.Node) []api.Node {
	var out []api.Node
	for range m.r.Intn(most + 1) {
		out = append(out, one())
	}
	return out
}

func (m maker) name() string {
	return []string{"a", "b", "main", "_", "x1", "len", "If", strings.Repeat("n", api.MaxName)}[m.r.Intn(8)]
}

func (m maker) text() string {
	return []string{"", "s", "if", "(", "\"\\\n\t\x00\xff", "};"}[m.r.Intn(6)]
}

func (m maker) number() api.Node {
	return number([]int{0, 1, 7, 42, greatest}[m.r.Intn(5)])
}

func (m maker) leaf() api.Node {
	switch m.r.Intn(7) {
	case 0:
		return node(api.XNull)
	case 1:
		return node(api.XTrue)
	case 2:
		return node(api.XFalse)
	case 3:
		return m.number()
	case 4:
		return text(m.text())
	}
	return variable(m.name())
}

// expr returns an expression of at most the given depth.
func (m maker) expr(depth int) api.Node {
	if depth <= 2 || m.r.Intn(5) == 0 {
		return m.leaf()
	}
	kid := func() api.Node { return m.expr(depth - 1) }
	switch m.r.Intn(9) {
	case 0:
		return node(api.XList, m.some(3, kid)...)
	case 1:
		return node(api.XMap, m.some(3, func() api.Node { return pair(m.text(), m.expr(depth-2)) })...)
	case 2:
		return named(api.XCall, m.name(), m.some(3, kid)...)
	case 3:
		return named(api.XGo, m.name(), m.some(3, kid)...)
	case 4:
		return node(api.XAwait+m.r.Intn(3), kid())
	case 5:
		return node(api.XIndex, kid(), kid())
	case 6:
		return named(api.XField, m.name(), kid())
	}
	return node(api.XMul+m.r.Intn(13), kid(), kid())
}

func (m maker) block(depth int) api.Node {
	if depth <= 3 {
		return block()
	}
	return block(m.some(3, func() api.Node { return m.statement(depth - 1) })...)
}

// statement returns a statement of at most the given depth, which is at least 3.
func (m maker) statement(depth int) api.Node {
	e := func() api.Node { return m.expr(min(depth-1, 6)) }
	b := func() api.Node { return m.block(depth - 1) }
	switch m.r.Intn(11) {
	case 0:
		return named(api.SLet, m.name(), e())
	case 1:
		return named(api.SSet, m.name(), e())
	case 2:
		return m.condition(depth)
	case 3:
		return node(api.SWhile, e(), b())
	case 4:
		return node(api.SReturn, m.some(1, e)...)
	case 5:
		return node(api.SThrow, e())
	case 6:
		return named(api.STry, m.name(), b(), b())
	case 7:
		return node(api.SSaga, b())
	case 8:
		return named(api.SUndo, m.name(), m.some(3, e)...)
	case 9:
		return m.choice(depth)
	}
	return node(api.SExpr, e())
}

func (m maker) condition(depth int) api.Node {
	n := node(api.SIf, m.expr(min(depth-1, 5)), m.block(depth-1))
	switch m.r.Intn(3) {
	case 0:
		n.Kids = append(n.Kids, m.block(depth-1))
	case 1:
		if depth > 4 {
			n.Kids = append(n.Kids, m.condition(depth-1))
		}
	}
	return n
}

func (m maker) choice(depth int) api.Node {
	n := node(api.SSelect, m.some(3, func() api.Node {
		one := node(api.SCase, m.expr(min(depth-2, 4)), m.block(depth-2))
		if m.r.Intn(2) == 0 {
			one.Name = m.name()
		}
		return one
	})...)
	if len(n.Kids) == 0 || m.r.Intn(2) == 0 {
		n.Kids = append(n.Kids, node(api.SElse, m.block(depth-2)))
	}
	return n
}

func (m maker) declaration(depth int) api.Node {
	b := func() api.Node { return m.block(depth - 1) }
	switch m.r.Intn(5) {
	case 0:
		x := m.leaf()
		if x.Op == api.XName {
			x = node(api.XNeg, m.number())
		}
		return named(api.DVar, m.name(), x)
	case 1:
		return named(api.DFunc, m.name(), append(m.some(3, func() api.Node { return variable(m.name()) }), b())...)
	case 2:
		n := named(api.DUpdate, m.name(), append(m.some(1, b), b())...)
		n.Text = m.name()
		return n
	}
	return api.Node{Op: api.DSignal + m.r.Intn(2), Name: m.name(), Text: m.name(), Kids: []api.Node{b()}}
}

func (m maker) program(depth int) api.Node {
	return node(api.DProgram, m.some(4, func() api.Node { return m.declaration(depth - 1) })...)
}

// writer writes trees as tokens, with parentheses where the grammar needs them and at random.
type writer struct {
	r      *rand.Rand
	tokens []string
	plain  bool // no parentheses at random
}

func (w *writer) put(tokens ...string) {
	w.tokens = append(w.tokens, tokens...)
}

// level returns the level of an operator, as chapter 9 numbers them.
func level(op int) int {
	switch op {
	case api.XOr:
		return 1
	case api.XAnd:
		return 2
	case api.XNot:
		return 3
	case api.XLt, api.XLe, api.XGt, api.XGe, api.XEq, api.XNe:
		return 4
	case api.XAdd, api.XSub:
		return 5
	case api.XMul, api.XDiv, api.XMod:
		return 6
	case api.XNeg, api.XAwait, api.XGo:
		return 7
	}
	return 8
}

// expr writes an expression where one of the given level is needed.
func (w *writer) expr(n api.Node, needed int) {
	if level(n.Op) < needed || !w.plain && w.r.Intn(12) == 0 {
		w.put("(")
		w.expr(n, 1)
		w.put(")")
		return
	}
	switch n.Op {
	case api.XNull, api.XTrue, api.XFalse:
		w.put(strings.Fields("null true false")[n.Op-api.XNull])
	case api.XInt:
		w.put(strconv.Itoa(n.Int))
	case api.XText:
		w.put(token.Quote(n.Text))
	case api.XName:
		w.put(n.Name)
	case api.XList:
		w.exprs("[", n.Kids, "]")
	case api.XMap:
		w.put("{")
		w.commas(n.Kids, func(pair api.Node) {
			w.put(token.Quote(pair.Text), ":")
			w.expr(pair.Kids[0], 1)
		})
		w.put("}")
	case api.XCall:
		w.put(n.Name)
		w.exprs("(", n.Kids, ")")
	case api.XGo:
		w.put("go", n.Name)
		w.exprs("(", n.Kids, ")")
	case api.XAwait, api.XNot, api.XNeg:
		w.put(strings.Fields("await not -")[n.Op-api.XAwait])
		w.expr(n.Kids[0], level(n.Op))
	case api.XIndex:
		w.expr(n.Kids[0], 8)
		w.exprs("[", n.Kids[1:], "]")
	case api.XField:
		w.expr(n.Kids[0], 8)
		w.put(".", n.Name)
	default:
		w.binary(n)
	}
}

func (w *writer) binary(n api.Node) {
	left, right := level(n.Op), level(n.Op)+1
	if left == 4 {
		left = 5
	}
	w.expr(n.Kids[0], left)
	w.put(strings.Fields("* / % + - < <= > >= == != and or")[n.Op-api.XMul])
	w.expr(n.Kids[1], right)
}

func (w *writer) commas(l []api.Node, one func(api.Node)) {
	for i, n := range l {
		if i > 0 {
			w.put(",")
		}
		one(n)
	}
}

func (w *writer) exprs(first string, l []api.Node, last string) {
	w.put(first)
	w.commas(l, func(n api.Node) { w.expr(n, 1) })
	w.put(last)
}

func (w *writer) block(n api.Node) {
	w.put("{")
	for _, kid := range n.Kids {
		w.statement(kid)
	}
	w.put("}")
}

// statement writes a statement, or a branch of one.
func (w *writer) statement(n api.Node) {
	switch n.Op {
	case api.SLet:
		w.put("let", n.Name, "=")
	case api.SSet:
		w.put(n.Name, "=")
	case api.SCase:
		if w.put("case"); n.Name != "" {
			w.put(n.Name, "=")
		}
	case api.STry:
		w.put("try")
		w.block(n.Kids[0])
		w.put("catch", n.Name)
		w.block(n.Kids[1])
		return
	case api.SUndo:
		w.put("undo", n.Name)
		w.exprs("(", n.Kids, ")")
		w.put(";")
		return
	case api.SSelect:
		w.put("select")
		w.block(n)
		return
	case api.SExpr:
	default:
		w.put(map[int]string{api.SIf: "if", api.SWhile: "while", api.SReturn: "return", api.SThrow: "throw", api.SSaga: "saga", api.SElse: "else"}[n.Op])
	}
	w.parts(n.Kids)
}

// parts writes the expressions and blocks of a statement, and a semicolon unless a block has been the last one.
func (w *writer) parts(kids []api.Node) {
	for i, kid := range kids {
		if i == 2 {
			w.put("else")
		}
		switch kid.Op {
		case api.SBlock:
			w.block(kid)
		case api.SIf:
			w.statement(kid)
		default:
			w.expr(kid, 1)
		}
	}
	if last := len(kids) - 1; last < 0 || kids[last].Op != api.SBlock && kids[last].Op != api.SIf {
		w.put(";")
	}
}

func (w *writer) declaration(n api.Node) {
	switch n.Op {
	case api.DVar:
		x := n.Kids[0]
		if w.put("var", n.Name, "="); x.Op == api.XNeg {
			w.put("-")
			x = x.Kids[0]
		}
		w.plain = true
		w.expr(x, 1)
		w.plain = false
		w.put(";")
		return
	case api.DFunc:
		last := len(n.Kids) - 1
		w.put("func", n.Name, "(")
		w.commas(n.Kids[:last], func(p api.Node) { w.put(p.Name) })
		w.put(")")
		w.block(n.Kids[last])
		return
	}
	w.put("on", strings.Fields("signal query update")[n.Op-api.DSignal], n.Name, "(", n.Text, ")")
	if len(n.Kids) == 2 {
		w.put("check")
		w.block(n.Kids[0])
	}
	w.block(n.Kids[len(n.Kids)-1])
}

// join writes the tokens with random blanks between them, at least one where two words would become one.
func (w *writer) join() string {
	var b strings.Builder
	for i, t := range w.tokens {
		gap := []string{"", " ", "\n", "\t \n"}[w.r.Intn(4)]
		if gap == "" && i > 0 && mustPart(w.tokens[i-1], t) {
			gap = " "
		}
		b.WriteString(gap + t)
	}
	return b.String()
}

// mustPart reports whether the tokens a and b are not the same without a blank between them.
func mustPart(a, b string) bool {
	l, _, e := token.Scan(a + b)
	return e != api.OK || len(l) != 3 || l[1].At != len(a)
}

func (w *writer) source(n api.Node) string {
	w.tokens = nil
	if n.Op != api.DProgram {
		w.expr(n, 1)
		return w.join()
	}
	for _, kid := range n.Kids {
		w.declaration(kid)
	}
	return w.join()
}

// tooLarge reports whether a tree or its text is beyond a limit.
func tooLarge(n api.Node, src string) bool {
	size, depth := count(n)
	return len(src) > api.MaxSource || size > api.MaxTree || depth > api.MaxNesting
}

// eachProgram calls visit with random programs and their texts.
func eachProgram(seed int64, number int, visit func(n api.Node, src string)) {
	r := rand.New(rand.NewSource(seed))
	for i := range number {
		n := maker{r}.program(5 + i%10)
		if src := (&writer{r: r}).source(n); !tooLarge(n, src) {
			visit(n, src)
		}
	}
}

// eachExpr calls visit with random expressions and their texts.
func eachExpr(seed int64, number int, visit func(n api.Node, src string)) {
	r := rand.New(rand.NewSource(seed))
	for i := range number {
		n := maker{r}.expr(1 + i%10)
		if src := (&writer{r: r}).source(n); !tooLarge(n, src) {
			visit(n, src)
		}
	}
}

func TestParseOfWrittenTrees(t *testing.T) { // P8.1, P8.5
	seen := map[int]int{}
	eachProgram(1, 3000, func(n api.Node, src string) {
		checkParse(t, src, n)
		countOps(n, seen)
	})
	for op := api.XNull; op <= api.DUpdate; op++ {
		if seen[op] < 100 && (op <= api.XField || op >= api.SLet && op <= api.SBlock || op >= api.DProgram) {
			t.Errorf("%s has been seen %d times", opName(op), seen[op])
		}
	}
}

func countOps(n api.Node, seen map[int]int) {
	seen[n.Op]++
	for _, kid := range n.Kids {
		countOps(kid, seen)
	}
}

func TestExprOfWrittenTrees(t *testing.T) { // P8.2, P8.5
	eachExpr(2, 6000, func(n api.Node, src string) {
		checkExpr(t, src, n)
	})
}

func TestParseOfTwoPrograms(t *testing.T) { // P8.6
	before, beforeSrc := node(api.DProgram), ""
	joined, refused := 0, 0
	eachProgram(3, 3000, func(n api.Node, src string) {
		both, bothSrc := node(api.DProgram, append(clone(before).Kids, n.Kids...)...), beforeSrc+" "+src
		before, beforeSrc = n, src
		if tooLarge(both, bothSrc) {
			checkFault(t, syntax.Parse, bothSrc, 0, api.ErrSize)
			refused++
			return
		}
		checkParse(t, bothSrc, both)
		joined++
	})
	if joined < 1000 {
		t.Errorf("%d programs joined, %d refused", joined, refused)
	}
	blanks := strings.Repeat(" ", api.MaxSource/2)
	checkParse(t, blanks, node(api.DProgram))
	checkFault(t, syntax.Parse, blanks+" "+blanks, 0, api.ErrSize)
	// Each declaration has two nodes, and one more is the program.
	half := strings.Repeat("var x=1;", api.MaxTree/4)
	n, _, e := syntax.Parse(half)
	if size, _ := count(n); size != api.MaxTree/2+1 || e != api.OK {
		t.Fatalf("a program of %d nodes, %d", size, e)
	}
	checkFault(t, syntax.Parse, half+" "+half, 0, api.ErrSize)
	less := strings.TrimSuffix(half, "var x=1;")
	checkParse(t, half+" "+less, node(api.DProgram, append(clone(n).Kids, n.Kids[1:]...)...))
}

func TestExprInParentheses(t *testing.T) { // P8.6
	eachExpr(4, 3000, func(n api.Node, src string) {
		if len(src)+2 <= api.MaxSource {
			checkExpr(t, "("+src+")", n)
		}
	})
	// Parentheses count neither as nodes nor as depth.
	deep := strings.Repeat("-", api.MaxNesting-1) + "1"
	n, _, _ := syntax.Expr(deep)
	checkExpr(t, strings.Repeat("(", 1000)+deep+strings.Repeat(")", 1000), n)
	wide := "[" + strings.Repeat("1,", api.MaxTree-2) + "1]"
	n, _, _ = syntax.Expr(wide)
	checkExpr(t, "(("+wide+"))", n)
	full := "a" + strings.Repeat(" ", api.MaxSource-3)
	checkExpr(t, "("+full+")", variable("a"))
	checkExpr(t, full+" ", variable("a"))
	checkFault(t, syntax.Expr, "("+full+" )", 0, api.ErrSize)
	most := strings.Repeat("(", api.MaxSource/2-1) + "ab" + strings.Repeat(")", api.MaxSource/2-1)
	checkExpr(t, most, variable("ab"))
}
