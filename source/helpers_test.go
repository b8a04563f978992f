package source_test

import (
	"strconv"
	"testing"

	"workflow/api"
	"workflow/source"
	"workflow/syntax"
)

const greatest = 1<<63 - 1

func node(op int, kids ...api.Node) api.Node {
	return api.Node{Op: op, Kids: kids}
}

func named(op int, name string, kids ...api.Node) api.Node {
	return api.Node{Op: op, Name: name, Kids: kids}
}

func variable(name string) api.Node {
	return api.Node{Op: api.XName, Name: name}
}

func number(n int) api.Node {
	return api.Node{Op: api.XInt, Int: n}
}

func text(s string) api.Node {
	return api.Node{Op: api.XText, Text: s}
}

func handler(op int, name, parameter string, blocks ...api.Node) api.Node {
	return api.Node{Op: op, Name: name, Text: parameter, Kids: blocks}
}

func block(kids ...api.Node) api.Node {
	return api.Node{Op: api.SBlock, Kids: kids}
}

func program(kids ...api.Node) api.Node {
	return api.Node{Op: api.DProgram, Kids: kids}
}

// inBody returns a program with one function, f, whose body has the given statements.
func inBody(statements ...api.Node) api.Node {
	return program(named(api.DFunc, "f", block(statements...)))
}

// show writes a tree with its codes, and with the fields that are not zero.
func show(n api.Node) string {
	return string(appendNode(nil, n))
}

func appendNode(b []byte, n api.Node) []byte {
	b = strconv.AppendInt(append(b, '('), int64(n.Op), 10)
	if n.Name != "" {
		b = strconv.AppendQuote(append(b, " n"...), n.Name)
	}
	if n.Int != 0 {
		b = strconv.AppendInt(append(b, ' '), int64(n.Int), 10)
	}
	if n.Text != "" {
		b = strconv.AppendQuote(append(b, " t"...), n.Text)
	}
	for _, kid := range n.Kids {
		b = appendNode(append(b, ' '), kid)
	}
	return append(b, ')')
}

// short returns a literal of s, or of its ends if it is long.
func short(s string) string {
	if len(s) > 600 {
		s = s[:300] + " .. " + s[len(s)-300:]
	}
	return strconv.Quote(s)
}

// Functions of packages source and syntax.
type (
	writing func(api.Node) (string, api.Errno)
	parsing func(string) (api.Node, int, api.Errno)
)

// checkBack tests that s is the text that write returns for the tree n, and that parse takes it back.
func checkBack(t *testing.T, write writing, parse parsing, n api.Node, s string) {
	t.Helper()
	before := show(n)
	got, e := write(n)
	if got != s || e != api.OK {
		t.Errorf("the text of %s is %s, %d; want %s", short(before), short(got), e, short(s))
		return
	}
	if show(n) != before {
		t.Errorf("%s has become %s", short(before), short(show(n)))
	}
	back, at, e := parse(s)
	if show(back) != before || at != 0 || e != api.OK {
		t.Errorf("the tree of %s is %s, %d, %d; want %s", short(s), short(show(back)), at, e, short(before))
	}
}

// checkProgram tests that s is the canonical text of the program tree n, and what follows from that.
func checkProgram(t *testing.T, n api.Node, s string) {
	t.Helper()
	checkBack(t, source.Print, syntax.Parse, n, s)
	checkFormat(t, s, s)
}

// checkExpr tests that s is the canonical text of the expression tree n, and what follows from that.
func checkExpr(t *testing.T, n api.Node, s string) {
	t.Helper()
	checkBack(t, source.Expr, syntax.Expr, n, s)
}

// checkFormat tests that the program src has the canonical text want.
func checkFormat(t *testing.T, src, want string) {
	t.Helper()
	if got, at, e := source.Format(src); got != want || at != 0 || e != api.OK {
		t.Errorf("Format(%s) = %s, %d, %d; want %s", short(src), short(got), at, e, short(want))
	}
}

// checkFormatFault tests that Format returns an error and its offset for src, and nothing else.
func checkFormatFault(t *testing.T, src string, at int, e api.Errno) {
	t.Helper()
	if s, gotAt, got := source.Format(src); s != "" || gotAt != at || got != e {
		t.Errorf("Format(%s) = %s, %d, %d; want none, %d, %d", short(src), short(s), gotAt, got, at, e)
	}
}

// checkFault tests that a function returns an error for a tree, and nothing else.
func checkFault(t *testing.T, write writing, n api.Node, e api.Errno) {
	t.Helper()
	if s, got := write(n); s != "" || got != e {
		t.Errorf("Op %d: %s, %d; want none, %d", n.Op, short(s), got, e)
	}
}
