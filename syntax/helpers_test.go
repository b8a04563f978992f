package syntax_test

import (
	"fmt"
	"strconv"
	"strings"
	"testing"

	"workflow/api"
	"workflow/syntax"
)

const (
	least    = -1 << 63
	greatest = 1<<63 - 1
	keywords = "and await case catch check else false func go if let not null on or query return saga select signal throw true try undo update var while"
)

func node(op int, kids ...api.Node) api.Node {
	return api.Node{Op: op, Kids: kids}
}

func named(op int, name string, kids ...api.Node) api.Node {
	return api.Node{Op: op, Name: name, Kids: kids}
}

func variable(name string) api.Node {
	return api.Node{Op: api.XName, Name: name}
}

func number(n int) api.Node {
	return api.Node{Op: api.XInt, Int: n}
}

func text(s string) api.Node {
	return api.Node{Op: api.XText, Text: s}
}

func pair(key string, x api.Node) api.Node {
	return api.Node{Op: api.XPair, Text: key, Kids: []api.Node{x}}
}

func block(kids ...api.Node) api.Node {
	return api.Node{Op: api.SBlock, Kids: kids}
}

// inBody returns a program with one function, f, whose body has the given statements.
func inBody(statements ...api.Node) api.Node {
	return node(api.DProgram, named(api.DFunc, "f", block(statements...)))
}

// show writes a tree with its codes, and with the fields that are not zero.
func show(n api.Node) string {
	var b strings.Builder
	b.WriteString("(" + strconv.Itoa(n.Op))
	if n.Name != "" {
		b.WriteString(" n" + strconv.Quote(n.Name))
	}
	if n.Int != 0 {
		b.WriteString(" " + strconv.Itoa(n.Int))
	}
	if n.Text != "" {
		b.WriteString(" t" + strconv.Quote(n.Text))
	}
	for _, kid := range n.Kids {
		b.WriteString(" " + show(kid))
	}
	return b.String() + ")"
}

// short returns a literal of s, or of its ends if it is long.
func short(s string) string {
	if len(s) > 300 {
		s = s[:150] + " .. " + s[len(s)-150:]
	}
	return strconv.Quote(s)
}

// clone returns a tree of the same fields in new memory.
func clone(n api.Node) api.Node {
	var kids []api.Node
	for _, kid := range n.Kids {
		kids = append(kids, clone(kid))
	}
	n.Kids = kids
	return n
}

// count returns the number of the nodes of a tree and its depth.
func count(n api.Node) (size, depth int) {
	size = 1
	for _, kid := range n.Kids {
		s, d := count(kid)
		size += s
		depth = max(depth, d)
	}
	return size, depth + 1
}

// checkParse tests that src is a program with the tree want, and what follows from that.
func checkParse(t *testing.T, src string, want api.Node) {
	t.Helper()
	n, at, e := syntax.Parse(src)
	if show(n) != show(want) || at != 0 || e != api.OK {
		t.Errorf("Parse(%s) = %s, %d, %d; want %s", short(src), show(n), at, e, show(want))
		return
	}
	if !syntax.Right(n) {
		t.Errorf("Parse(%s) is not right", short(src))
	}
}

// checkExpr tests that src is an expression with the tree want, and what follows from that.
func checkExpr(t *testing.T, src string, want api.Node) {
	t.Helper()
	n, at, e := syntax.Expr(src)
	if show(n) != show(want) || at != 0 || e != api.OK {
		t.Errorf("Expr(%s) = %s, %d, %d; want %s", short(src), show(n), at, e, show(want))
		return
	}
	if !syntax.RightExpr(n) {
		t.Errorf("Expr(%s) is not right", short(src))
	}
}

// checkBody tests that src, as the body of a function, consists of the given statements.
func checkBody(t *testing.T, src string, want ...api.Node) {
	t.Helper()
	checkParse(t, "func f() {"+src+"}", inBody(want...))
}

// checkFault tests that parse finds the error e in src at the offset at, and returns nothing else.
func checkFault(t *testing.T, parse func(string) (api.Node, int, api.Errno), src string, at int, e api.Errno) {
	t.Helper()
	n, gotAt, got := parse(src)
	if show(n) != "(0)" || gotAt != at || got != e {
		t.Errorf("%s: %.300s, %d, %d; want none, %d, %d", short(src), show(n), gotAt, got, at, e)
	}
}

// checkMarked tests that a text has a syntax error at the mark ^, which is not a part of it.
func checkMarked(t *testing.T, parse func(string) (api.Node, int, api.Errno), marked string) {
	t.Helper()
	before, after, found := strings.Cut(marked, "^")
	if !found || strings.Contains(after, "^") {
		t.Fatalf("not one mark in %s", marked)
	}
	checkFault(t, parse, before+after, len(before), api.ErrSyntax)
}

// checkMemory tests that no two lists of kids in the trees share an element, not even one behind the length of a list.
func checkMemory(t *testing.T, trees ...api.Node) {
	t.Helper()
	seen := map[*api.Node]bool{}
	var visit func(n api.Node)
	visit = func(n api.Node) {
		kids := n.Kids[:cap(n.Kids)]
		for i := range kids {
			if seen[&kids[i]] {
				t.Errorf("shared memory in %.300s", show(n))
			}
			seen[&kids[i]] = true
		}
		for _, kid := range n.Kids {
			visit(kid)
		}
	}
	for _, n := range trees {
		visit(n)
	}
}

// opName names an Op in messages.
func opName(op int) string {
	return fmt.Sprintf("Op %d", op)
}
