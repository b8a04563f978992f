package syntax_test

import (
	"math/rand"
	"slices"
	"testing"

	"workflow/api"
	"workflow/syntax"
)

// checkMeasures tests Size and Depth.
func checkMeasures(t *testing.T, n api.Node, size, depth int) {
	t.Helper()
	if got := syntax.Size(n); got != size {
		t.Errorf("Size(%.300s) = %d, want %d", show(n), got, size)
	}
	if got := syntax.Depth(n); got != depth {
		t.Errorf("Depth(%.300s) = %d, want %d", show(n), got, depth)
	}
}

func TestSizeAndDepth(t *testing.T) { // P8.4
	leaf := node(api.XNull)
	checkMeasures(t, leaf, 1, 1)
	checkMeasures(t, api.Node{}, 1, 1)
	checkMeasures(t, api.Node{Op: -5, Name: "x", Int: 9, Text: "y", Kids: []api.Node{}}, 1, 1)
	checkMeasures(t, node(api.XList, leaf), 2, 2)
	checkMeasures(t, node(api.XList, leaf, leaf, leaf), 4, 2)
	checkMeasures(t, node(api.XList, node(api.XList, leaf), leaf), 4, 3)
	checkMeasures(t, node(api.XList, leaf, node(api.XList, leaf)), 4, 3)
	checkMeasures(t, node(api.XList, node(api.XList), node(api.XList, node(api.XList, leaf)), node(api.XList, leaf)), 7, 4)
	// Any tree has them, also one that is not right or beyond the limits.
	checkMeasures(t, node(-1, node(1000, api.Node{}, api.Node{})), 4, 3)
	checkMeasures(t, named(api.XInt, "if", leaf, leaf), 3, 2)
	checkMeasures(t, chainOf(1<<16), 1<<16, 1<<16)
	checkMeasures(t, listOf(1<<20), 1<<20, 2)
	hidden := []api.Node{leaf, node(api.XList, leaf)}
	checkMeasures(t, node(api.XList, hidden[:1]...), 2, 2)
	checkMeasures(t, node(api.XList, hidden[:0]...), 1, 1)
	for _, x := range []struct {
		src         string
		size, depth int
	}{
		{"a", 1, 1}, {"((a))", 1, 1}, {"a + b * 2", 5, 3}, {"f()", 1, 1}, {"f(1, 2)", 3, 2}, {`{"a": 1}`, 3, 3}, {"a.b.c", 3, 3}, {"not -a", 3, 3},
	} {
		n, _, _ := syntax.Expr(x.src)
		checkMeasures(t, n, x.size, x.depth)
	}
	n, _, _ := syntax.Parse("func f(x) { return x; } var v = -1; on update u(x) check { } { }")
	checkMeasures(t, n, 12, 5)
}

func TestMeasuresOfRandomTrees(t *testing.T) { // P8.4
	visit := func(n api.Node, _ string) {
		size, depth := count(n)
		checkMeasures(t, n, size, depth)
		if !syntax.Same(n, clone(n)) {
			t.Errorf("%s is not the same as itself", show(n))
		}
	}
	eachProgram(8, 1000, visit)
	eachExpr(9, 1000, visit)
}

func TestSame(t *testing.T) { // P8.4
	l := []api.Node{
		{}, {Op: 1}, {Op: -1}, {Op: least}, {Name: "a"}, {Name: "b"}, {Name: "a "}, {Int: 1}, {Int: -1}, {Int: greatest}, {Text: "a"}, {Text: "b"}, {Name: "a", Text: "a"}, {Op: 1, Int: 1},
		node(1, api.Node{}), node(1, node(1)), node(1, node(2)), node(1, named(1, "a")), node(1, api.Node{Op: 1, Int: 1}), node(1, api.Node{Op: 1, Text: "a"}), node(1, node(1), node(1)),
		node(1, node(1), node(2)), node(1, node(2), node(1)), node(1, node(1, node(1))), node(1, node(1), node(1, node(1))), node(1, node(1, node(1)), node(1)), node(1, node(1, node(1, node(1)))),
		node(1, node(1), node(1), node(1)), chainOf(100), chainOf(101), chainOf(1 << 16), listOf(1 << 16), node(api.XNeg, chainOf(1<<16)),
	}
	for i, a := range l {
		for k, b := range l {
			b = clone(b)
			if got := syntax.Same(a, b); got != (i == k) {
				t.Errorf("Same(%.200s, %.200s) = %t", show(a), show(b), got)
			}
		}
	}
	if !syntax.Same(api.Node{Op: 1, Kids: []api.Node{}}, api.Node{Op: 1}) || !syntax.Same(node(2, node(1)), node(2, api.Node{Op: 1, Kids: []api.Node{}})) {
		t.Error("nil and empty lists differ")
	}
	kids := []api.Node{node(1), node(2), node(3)}
	if !syntax.Same(node(1, kids[:2]...), node(1, node(1), node(2))) {
		t.Error("what stands behind a list matters")
	}
}

func TestSameOfChangedTrees(t *testing.T) { // P8.4
	r := rand.New(rand.NewSource(10))
	same, differ := 0, 0
	visit := func(n api.Node, _ string) {
		for range 10 {
			x := change(r, n)
			want := show(x) == show(n)
			if syntax.Same(n, x) != want || syntax.Same(x, n) != want {
				t.Errorf("Same(%s, %s) is not %t", show(n), show(x), want)
			}
			if want {
				same++
			} else {
				differ++
			}
		}
	}
	eachProgram(11, 300, visit)
	eachExpr(12, 300, visit)
	if same < 100 || differ < 1000 {
		t.Errorf("%d are the same and %d differ", same, differ)
	}
}

func TestMeasuresChangeNothing(t *testing.T) { // P8.4
	n, _, _ := syntax.Parse(`func f(a, b) { if a { return [a, {"k": b}]; } else { select { case x = a { } else { } } } }`)
	x := clone(n)
	before := show(n)
	kids := slices.Clone(n.Kids)
	if syntax.Size(n) == 0 || syntax.Depth(n) == 0 || !syntax.Same(n, x) || !syntax.Right(n) || show(n) != before || show(x) != before || len(kids) != len(n.Kids) {
		t.Errorf("%s has become %s", before, show(n))
	}
}
