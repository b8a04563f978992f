package scope_test

import (
	"slices"
	"strconv"
	"testing"

	"workflow/api"
	"workflow/scope"
	"workflow/syntax"
)

func node(op int, kids ...api.Node) api.Node {
	return api.Node{Op: op, Kids: kids}
}

func named(op int, name string, kids ...api.Node) api.Node {
	return api.Node{Op: op, Name: name, Kids: kids}
}

func variable(name string) api.Node {
	return api.Node{Op: api.XName, Name: name}
}

func handler(op int, name, parameter string, blocks ...api.Node) api.Node {
	return api.Node{Op: op, Name: name, Text: parameter, Kids: blocks}
}

func block(kids ...api.Node) api.Node {
	return api.Node{Op: api.SBlock, Kids: kids}
}

func program(kids ...api.Node) api.Node {
	return api.Node{Op: api.DProgram, Kids: kids}
}

// tree returns the tree of a program.
func tree(t *testing.T, src string) api.Node {
	t.Helper()
	n, at, e := syntax.Parse(src)
	if e != api.OK {
		t.Fatalf("Parse(%s): %d at %d", short(src), e, at)
	}
	return n
}

// short returns a literal of s, or of its ends if it is long.
func short(s string) string {
	if len(s) > 600 {
		s = s[:300] + " .. " + s[len(s)-300:]
	}
	return strconv.Quote(s)
}

// checkError tests that Check returns an error, or OK, for a program.
func checkError(t *testing.T, src string, want api.Errno) {
	t.Helper()
	n := tree(t, src)
	before := show(n)
	if got := scope.Check(n); got != want {
		t.Errorf("Check(%s) = %d, want %d", short(src), got, want)
	}
	if show(n) != before {
		t.Errorf("Check has changed %s", short(before))
	}
}

// checkCalls tests what a body of a program calls, and whether it is pure.
func checkCalls(t *testing.T, src, label string, pure bool, want ...string) {
	t.Helper()
	n := tree(t, src)
	before := show(n)
	if got := scope.Calls(n, label); !slices.Equal(got, want) {
		t.Errorf("Calls(%s, %s) = %q, want %q", short(src), short(label), got, want)
	}
	if got := scope.Pure(n, label); got != pure {
		t.Errorf("Pure(%s, %s) = %t", short(src), short(label), got)
	}
	if show(n) != before {
		t.Errorf("Calls or Pure has changed %s", short(before))
	}
}

// checkLocals tests the number of variables of a declaration.
func checkLocals(t *testing.T, src string, want int) {
	t.Helper()
	n := tree(t, src).Kids[0]
	before := show(n)
	if got := scope.Locals(n); got != want {
		t.Errorf("Locals(%s) = %d, want %d", short(src), got, want)
	}
	if show(n) != before {
		t.Errorf("Locals has changed %s", short(before))
	}
}

// show writes a tree with its codes, and with the fields that are not zero.
func show(n api.Node) string {
	return string(appendNode(nil, n))
}

func appendNode(b []byte, n api.Node) []byte {
	b = strconv.AppendInt(append(b, '('), int64(n.Op), 10)
	if n.Name != "" {
		b = strconv.AppendQuote(append(b, " n"...), n.Name)
	}
	if n.Int != 0 {
		b = strconv.AppendInt(append(b, ' '), int64(n.Int), 10)
	}
	if n.Text != "" {
		b = strconv.AppendQuote(append(b, " t"...), n.Text)
	}
	for _, kid := range n.Kids {
		b = appendNode(append(b, ' '), kid)
	}
	return append(b, ')')
}
