package syntax_test

import (
	"math/rand"
	"regexp"
	"slices"
	"strings"
	"testing"

	"workflow/api"
	"workflow/syntax"
)

// form is a row of the tables of chapter 8: the letter of an Op, its fields (n: Name, o: Name or "", p: Name and Text are names,
// i: Int, t: Text), and its kids as letters. In kids, E stands for any expression and S for any statement.
type form struct {
	letter byte
	fields string
	kids   string
}

// forms returns the tables. The letters are k for constants, i for XInt, v for XName, m for XNeg (M if it is that of an XInt), e for
// the other expressions, r for XPair, s for statements, f for SIf, c for SCase, o for SElse, b for SBlock, d for declarations and P
// for DProgram.
func forms() map[int]form {
	out := map[int]form{
		api.XNull: {'k', "", ""}, api.XTrue: {'k', "", ""}, api.XFalse: {'k', "", ""}, api.XInt: {'i', "i", ""}, api.XText: {'k', "t", ""}, api.XName: {'v', "n", ""},
		api.XList: {'e', "", "E*"}, api.XMap: {'e', "", "r*"}, api.XPair: {'r', "t", "E"}, api.XCall: {'e', "n", "E*"}, api.XGo: {'e', "n", "E*"},
		api.XAwait: {'e', "", "E"}, api.XNot: {'e', "", "E"}, api.XNeg: {'m', "", "E"}, api.XIndex: {'e', "", "EE"}, api.XField: {'e', "n", "E"},
		api.SLet: {'s', "n", "E"}, api.SSet: {'s', "n", "E"}, api.SIf: {'f', "", "Eb[bf]?"}, api.SWhile: {'s', "", "Eb"}, api.SReturn: {'s', "", "E?"},
		api.SThrow: {'s', "", "E"}, api.SExpr: {'s', "", "E"}, api.STry: {'s', "n", "bb"}, api.SSaga: {'s', "", "b"}, api.SUndo: {'s', "n", "E*"},
		api.SSelect: {'s', "", "(c{1,16}o?|o)"}, api.SCase: {'c', "o", "Eb"}, api.SElse: {'o', "", "b"}, api.SBlock: {'b', "", "S*"},
		api.DVar: {'d', "n", "[kiM]"}, api.DFunc: {'d', "n", "v*b"}, api.DSignal: {'d', "p", "b"}, api.DQuery: {'d', "p", "b"}, api.DUpdate: {'d', "p", "bb?"},
		api.DProgram: {'P', "", "d*"},
	}
	for op := api.XMul; op <= api.XOr; op++ {
		out[op] = form{'e', "", "EE"}
	}
	for op, f := range out {
		f.kids = "^" + strings.NewReplacer("E", "[kivmMe]", "S", "[sf]").Replace(f.kids) + "$"
		out[op] = f
	}
	return out
}

// judge says what Right and RightExpr are to say.
type judge struct {
	forms map[int]form
	kids  map[string]*regexp.Regexp
	name  *regexp.Regexp
}

func newJudge() judge {
	j := judge{forms(), map[string]*regexp.Regexp{}, regexp.MustCompile(`\A[A-Za-z_][A-Za-z0-9_]{0,63}\z`)}
	for _, f := range j.forms {
		j.kids[f.kids] = regexp.MustCompile(f.kids)
	}
	return j
}

func (j judge) isName(s string) bool {
	return j.name.MatchString(s) && !slices.Contains(strings.Fields(keywords), s)
}

func (j judge) letter(n api.Node) byte {
	f, found := j.forms[n.Op]
	switch {
	case !found:
		return '?'
	case f.letter == 'm' && len(n.Kids) == 1 && n.Kids[0].Op == api.XInt:
		return 'M'
	}
	return f.letter
}

// node judges a node and all below it.
func (j judge) node(n api.Node) bool {
	var letters []byte
	for _, kid := range n.Kids {
		if !j.node(kid) {
			return false
		}
		letters = append(letters, j.letter(kid))
	}
	f, found := j.forms[n.Op]
	if !found || !j.kids[f.kids].Match(letters) {
		return false
	}
	name, number, text := n.Name == "", n.Int == 0, n.Text == ""
	switch f.fields {
	case "n":
		name = j.isName(n.Name)
	case "o":
		name = name || j.isName(n.Name)
	case "p":
		name, text = j.isName(n.Name), j.isName(n.Text)
	case "i":
		number = n.Int >= 0
	case "t":
		text = len(n.Text) <= 4096
	}
	return name && number && text
}

func (j judge) right(n api.Node) bool {
	size, depth := count(n)
	return j.letter(n) == 'P' && size <= 4000 && depth <= 40 && j.node(n)
}

func (j judge) rightExpr(n api.Node) bool {
	size, depth := count(n)
	return strings.IndexByte("kivmMe", j.letter(n)) >= 0 && size <= 4000 && depth <= 40 && j.node(n)
}

// check compares Right and RightExpr with the judge.
func (j judge) check(t *testing.T, n api.Node) {
	t.Helper()
	if got, want := syntax.Right(n), j.right(n); got != want {
		t.Errorf("Right(%.500s) = %t", show(n), got)
	}
	if got, want := syntax.RightExpr(n), j.rightExpr(n); got != want {
		t.Errorf("RightExpr(%.500s) = %t", show(n), got)
	}
}

// checkInPlace checks a node as a part of a program in which it is right if it is right anywhere.
func (j judge) checkInPlace(t *testing.T, n api.Node) {
	t.Helper()
	j.check(t, n)
	var program api.Node
	switch letter := j.letter(n); letter {
	case 'd':
		program = node(api.DProgram, n)
	case 's', 'f':
		program = inBody(n)
	case 'r':
		program = inBody(node(api.SExpr, node(api.XMap, n)))
	case 'c', 'o':
		program = inBody(node(api.SSelect, n))
	case 'b':
		program = inBody(node(api.SSaga, n))
	default:
		program = inBody(node(api.SExpr, n))
		j.check(t, node(api.XList, n))
		j.check(t, node(api.DProgram, n))
		j.check(t, inBody(n))
	}
	j.check(t, program)
}

// samples returns a right node of each Op.
func samples() map[int]api.Node {
	e, b := number(1), block()
	out := map[int]api.Node{
		api.XNull: node(api.XNull), api.XTrue: node(api.XTrue), api.XFalse: node(api.XFalse), api.XInt: e, api.XText: text("s"), api.XName: variable("a"),
		api.XList: node(api.XList, e), api.XMap: node(api.XMap, pair("k", e)), api.XPair: pair("k", e), api.XCall: named(api.XCall, "f", e), api.XGo: named(api.XGo, "f", e),
		api.XAwait: node(api.XAwait, e), api.XNot: node(api.XNot, e), api.XNeg: node(api.XNeg, e), api.XIndex: node(api.XIndex, e, e), api.XField: named(api.XField, "a", e),
		api.SLet: named(api.SLet, "a", e), api.SSet: named(api.SSet, "a", e), api.SIf: node(api.SIf, e, b, b), api.SWhile: node(api.SWhile, e, b), api.SReturn: node(api.SReturn, e),
		api.SThrow: node(api.SThrow, e), api.SExpr: node(api.SExpr, e), api.STry: named(api.STry, "a", b, b), api.SSaga: node(api.SSaga, b), api.SUndo: named(api.SUndo, "f", e),
		api.SSelect: node(api.SSelect, node(api.SElse, b)), api.SCase: named(api.SCase, "a", e, b), api.SElse: node(api.SElse, b), api.SBlock: block(node(api.SReturn)),
		api.DVar: named(api.DVar, "v", e), api.DFunc: named(api.DFunc, "f", variable("a"), b), api.DProgram: node(api.DProgram, named(api.DVar, "v", e)),
	}
	for op := api.XMul; op <= api.XOr; op++ {
		out[op] = node(op, e, e)
	}
	for op := api.DSignal; op <= api.DUpdate; op++ {
		out[op] = api.Node{Op: op, Name: "h", Text: "a", Kids: []api.Node{b}}
	}
	return out
}

// ops returns all codes of nodes, and others.
func ops() []int {
	out := []int{least, -1, 300, greatest, api.XNull + 256, api.DProgram - 1<<32}
	for op := range 80 {
		out = append(out, op)
	}
	return out
}

func TestSamplesAreRight(t *testing.T) { // P8.3
	j := newJudge()
	if len(samples()) != len(forms()) {
		t.Fatal("an Op without a sample")
	}
	for op, n := range samples() {
		if !j.node(n) {
			t.Errorf("the sample of %s is wrong", opName(op))
		}
		j.checkInPlace(t, n)
		isExpr := op <= api.XField && op != api.XPair
		if syntax.RightExpr(n) != isExpr || syntax.Right(n) != (op == api.DProgram) {
			t.Errorf("%s is taken for something else", opName(op))
		}
	}
	if !syntax.Right(node(api.DProgram)) || syntax.Right(api.Node{}) || syntax.RightExpr(api.Node{}) {
		t.Error("the empty program or the zero node")
	}
}

func TestRightOps(t *testing.T) { // P8.3
	j := newJudge()
	for _, n := range samples() {
		for _, op := range ops() {
			n.Op = op
			j.checkInPlace(t, n)
		}
	}
}

func TestRightFields(t *testing.T) { // P8.3
	j := newJudge()
	name := strings.Repeat("n", api.MaxName)
	texts := append(strings.Fields(keywords), "", "a", "_", "Z9", name, name+"n", "1", "1a", "a b", " a", "a ", "a\n", "\ta", "a.b", "a-1", "é", "aé", "\xff", "a\x00", "-", "(", `"a"`, `"`, "a;",
		"main", "len", "And", "ands", strings.Repeat("a", api.MaxText), strings.Repeat("a", api.MaxText+1), strings.Repeat(" ", api.MaxText), strings.Repeat("\x00", api.MaxSource+1))
	for _, n := range samples() {
		for _, s := range texts {
			x := n
			x.Name = s
			j.checkInPlace(t, x)
			x = n
			x.Text = s
			j.checkInPlace(t, x)
			x.Name = s
			j.checkInPlace(t, x)
		}
		for _, i := range []int{least, -1, 0, 1, 2, greatest} {
			x := n
			x.Int = i
			j.checkInPlace(t, x)
		}
	}
}

func TestRightKids(t *testing.T) { // P8.3
	j := newJudge()
	all := samples()
	all[0] = api.Node{}
	all[99] = node(api.XNeg, node(api.XNull)) // not the negation of an integer
	all[100] = node(api.XNeg, node(api.XNeg, number(1)))
	all[101] = api.Node{Op: api.XNeg}
	var few []api.Node
	for _, op := range []int{0, api.XNull, api.XInt, api.XName, api.XPair, api.SBlock, api.SIf, api.SCase, api.SElse, api.SLet, api.DVar, api.DProgram} {
		few = append(few, all[op])
	}
	for op, n := range all {
		if op == 0 || op > api.DUpdate {
			continue
		}
		n.Kids = nil
		j.checkInPlace(t, n)
		for _, first := range all {
			n.Kids = []api.Node{first}
			j.checkInPlace(t, n)
			for _, second := range all {
				n.Kids = []api.Node{first, second}
				j.checkInPlace(t, n)
			}
		}
		for _, first := range few {
			for _, second := range few {
				for _, third := range few {
					n.Kids = []api.Node{first, second, third}
					j.checkInPlace(t, n)
				}
			}
		}
	}
}

func TestRightSelect(t *testing.T) { // P8.3
	j := newJudge()
	one, other := node(api.SCase, number(1), block()), node(api.SElse, block())
	for cases := range 20 {
		var kids []api.Node
		for range cases {
			kids = append(kids, one)
		}
		j.checkInPlace(t, node(api.SSelect, kids...))
		j.checkInPlace(t, node(api.SSelect, append(slices.Clone(kids), other)...))
		j.checkInPlace(t, node(api.SSelect, append(slices.Clone(kids), other, other)...))
		j.checkInPlace(t, node(api.SSelect, append(slices.Clone(kids), other, one)...))
		j.checkInPlace(t, node(api.SSelect, append([]api.Node{other}, kids...)...))
	}
	// The places where a tree is wrong are found at any depth.
	wrong := node(api.SSelect)
	for range 12 {
		wrong = node(api.SWhile, number(1), block(node(api.SReturn), wrong, node(api.SReturn)))
		j.checkInPlace(t, wrong)
	}
}

// change changes one thing in a random node of a tree.
func change(r *rand.Rand, n api.Node) api.Node {
	n = clone(n)
	at := &n
	for len(at.Kids) > 0 && r.Intn(4) > 0 {
		at = &at.Kids[r.Intn(len(at.Kids))]
	}
	names := []string{"", "a", "if", "9", "a b", strings.Repeat("n", api.MaxName+1)}
	switch r.Intn(7) {
	case 0:
		at.Op = r.Intn(70)
	case 1:
		at.Name = names[r.Intn(len(names))]
	case 2:
		at.Text = names[r.Intn(len(names))]
	case 3:
		at.Int = r.Intn(3) - 1
	case 4:
		at.Kids = append(at.Kids, node(r.Intn(70)))
	case 5:
		if last := len(at.Kids) - 1; last >= 0 {
			at.Kids = at.Kids[:last]
		}
	case 6:
		slices.Reverse(at.Kids)
	}
	return n
}

func TestRightOfChangedTrees(t *testing.T) { // P8.3
	j := newJudge()
	r := rand.New(rand.NewSource(5))
	right, wrong := 0, 0
	visit := func(n api.Node, _ string) {
		j.check(t, n)
		for range 20 {
			x := change(r, n)
			j.check(t, x)
			if j.right(x) || j.rightExpr(x) {
				right++
			} else {
				wrong++
			}
		}
	}
	eachProgram(6, 500, visit)
	eachExpr(7, 500, visit)
	if right < 2000 || wrong < 5000 {
		t.Errorf("%d changed trees are right and %d wrong", right, wrong)
	}
}

// chainOf returns a tree of the given depth, which has as many nodes: negations of 1.
func chainOf(depth int) api.Node {
	n := number(1)
	for range depth - 1 {
		n = node(api.XNeg, n)
	}
	return n
}

// listOf returns a list with the given number of nodes in all.
func listOf(size int) api.Node {
	n := node(api.XList)
	for range size - 1 {
		n.Kids = append(n.Kids, number(1))
	}
	return n
}

func TestRightLimits(t *testing.T) { // P8.3
	for depth := api.MaxNesting - 2; depth <= api.MaxNesting+2; depth++ {
		if got := syntax.RightExpr(chainOf(depth)); got != (depth <= api.MaxNesting) {
			t.Errorf("an expression of the depth %d: %t", depth, got)
		}
		// The program, the function, the block and the statement are above the expression.
		if got := syntax.Right(inBody(node(api.SExpr, chainOf(depth-4)))); got != (depth <= api.MaxNesting) {
			t.Errorf("a program of the depth %d: %t", depth, got)
		}
		if got := syntax.RightExpr(node(api.XList, number(1), chainOf(depth-1), number(1))); got != (depth <= api.MaxNesting) {
			t.Errorf("a list of the depth %d: %t", depth, got)
		}
	}
	for size := api.MaxTree - 5; size <= api.MaxTree+5; size++ {
		if got := syntax.RightExpr(listOf(size)); got != (size <= api.MaxTree) {
			t.Errorf("an expression of %d nodes: %t", size, got)
		}
		if got := syntax.Right(inBody(node(api.SExpr, listOf(size-4)))); got != (size <= api.MaxTree) {
			t.Errorf("a program of %d nodes: %t", size, got)
		}
		half := listOf(api.MaxTree / 2)
		if got := syntax.RightExpr(node(api.XList, half, listOf(size-1-api.MaxTree/2))); got != (size <= api.MaxTree) {
			t.Errorf("two lists in one of %d nodes: %t", size, got)
		}
	}
	for _, n := range []api.Node{chainOf(1 << 16), listOf(1 << 20), inBody(node(api.SExpr, chainOf(1<<16)))} {
		if syntax.Right(n) || syntax.RightExpr(n) {
			t.Error("a tree far beyond a limit is right")
		}
	}
	// A tree whose list of kids contains itself has no end.
	kids := make([]api.Node, 3)
	for i := range kids {
		kids[i] = node(api.XList, kids...)
	}
	if syntax.RightExpr(kids[0]) || syntax.Right(node(api.DProgram, kids...)) {
		t.Error("a tree without end is right")
	}
}

func TestRightMemory(t *testing.T) { // P8.3
	for _, n := range samples() {
		program := inBody(n, node(api.SExpr, n))
		before := show(program)
		// What stands behind the length of a list does not matter.
		program.Kids = append(program.Kids, api.Node{Op: -1})[:1]
		right := syntax.Right(program)
		if syntax.RightExpr(program) || right != newJudge().right(program) || show(program) != before {
			t.Errorf("%s, changed to %s", before, show(program))
		}
	}
}
