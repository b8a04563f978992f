package syntax_test

import (
	"math/rand"
	"strings"
	"testing"

	"workflow/api"
	"workflow/syntax"
)

// explorer compares a parser with a model.
type explorer struct {
	t        *testing.T
	parse    func(string) (api.Node, int, api.Errno)
	right    func(api.Node) bool
	chart    *chart
	all      []string // terminals
	text     strings.Builder
	accepted int
	refused  int
}

func newExplorer(t *testing.T, g *grammar, start string) *explorer {
	x := &explorer{t: t, parse: syntax.Parse, right: syntax.Right, chart: newChart(g, start), all: g.terminals()}
	if start == "whole-expr" {
		x.parse, x.right = syntax.Expr, syntax.RightExpr
	}
	return x
}

// spell returns a token for a terminal; the texts of some tokens are those of others.
func (x *explorer) spell(terminal string) string {
	n := len(x.chart.sets)
	switch terminal {
	case "name":
		return []string{"x", "main", "_if", "len"}[n%4]
	case "integer":
		return []string{"0", "7", "9223372036854775807"}[n%3]
	case "string":
		return []string{`"s"`, `"("`, `""`, `"="`, `"if"`, `"}"`, `";"`}[n%7]
	case "end":
		return ""
	}
	return strings.Trim(terminal, `"`)
}

// try tests what the parser says of the present text followed by a terminal that is allowed there or not.
func (x *explorer) try(terminal string, allowed bool) {
	before := x.text.String()
	src := before + x.spell(terminal)
	n, at, e := x.parse(src)
	switch {
	case !allowed:
		x.refused++
		if show(n) != "(0)" || at != len(before) || e != api.ErrSyntax {
			x.t.Errorf("%s: %s, %d, %d; want none, %d, %d", src, show(n), at, e, len(before), api.ErrSyntax)
		}
	case terminal == "end":
		x.accepted++
		if at != 0 || e != api.OK || !x.right(n) {
			x.t.Errorf("%s: %s, %d, %d", src, show(n), at, e)
		}
	}
}

// push appends a terminal to the present text, and returns how to take it back.
func (x *explorer) push(terminal string) (back func()) {
	before := x.text.String()
	x.text.WriteString(x.spell(terminal) + " ")
	x.chart.push(terminal)
	return func() {
		x.chart.pop()
		x.text.Reset()
		x.text.WriteString(before)
	}
}

// explore tries everything that follows the present text, with up to most terminals.
func (x *explorer) explore(terminals []string, most int) {
	allowed := x.chart.next()
	for _, terminal := range terminals {
		x.try(terminal, allowed[terminal])
		if allowed[terminal] && terminal != "end" && most > 1 {
			back := x.push(terminal)
			x.explore(terminals, most-1)
			back()
		}
	}
}

// start pushes the tokens of a text in which names, integers and strings are called so.
func (x *explorer) start(text string) {
	for _, w := range strings.Fields(text) {
		if w != "name" && w != "integer" && w != "string" {
			w = `"` + w + `"`
		}
		if !x.chart.next()[w] {
			x.t.Fatalf("the model refuses %s in %s", w, text)
		}
		x.push(w)
	}
}

// checkCounts tests that enough texts have been tried.
func (x *explorer) checkCounts(accepted, refused int) {
	if x.accepted < accepted || x.refused < refused {
		x.t.Errorf("only %d texts accepted and %d refused", x.accepted, x.refused)
	}
}

func TestExprAgainstModel(t *testing.T) { // P8.2
	g := readGrammar()
	x := newExplorer(t, g, "whole-expr")
	x.explore(x.all, 4)
	x.checkCounts(500, 80000)
	// One terminal of those that are used alike is enough for longer texts.
	y := newExplorer(t, g, "whole-expr")
	few := []string{"name", "string", `"or"`, `"not"`, `"<"`, `"-"`, `"."`, `"["`, `"]"`, `"("`, `")"`, `"{"`, `"}"`, `":"`, `","`, `"go"`, `"="`, "end"}
	y.explore(few, 6)
	y.checkCounts(600, 130000)
}

func TestParseAgainstModel(t *testing.T) { // P8.1
	g := readGrammar()
	body := "func name ( ) { "
	full := body + "select { " + strings.Repeat("case name { } ", api.MaxCases-1)
	for text, most := range map[string]int{
		"": 4, "func name (": 4, "func name ( name ,": 3, "var name =": 4, "on": 4, "on signal name ( name )": 3, "on query name (": 3, "on update name ( name": 4,
		"on update name ( name ) check {": 3, "on update name ( name ) check { }": 4, "on update name ( name ) check { } { }": 3, body: 3, body + "}": 3, "var name = integer ;": 3,
		body + "let": 3, body + "name =": 3, body + "name": 3, body + "if name {": 3, body + "if name { }": 3, body + "if name { } else": 4, body + "if name { } else if name { } else": 3,
		body + "while name": 3, body + "return": 3, body + "throw": 3, body + "try": 3, body + "try { }": 4, body + "try { } catch name": 3, body + "saga": 3, body + "undo": 4,
		body + "undo name ( name": 3, body + "undo name ( )": 3, body + "select": 4, body + "select { case": 3, body + "select { case name =": 3, body + "select { case name": 3,
		body + "select { case name { }": 4, body + "select { else": 3, body + "select { else { }": 4, body + "select { case name { } else": 3, body + "select { case name { } }": 3,
		full: 3, full + "case name { }": 3, full + "case name { } else": 4, full + "case name { } }": 3, full + "case name { select {": 3, body + "{ string : {": 3, body + "if { } {": 3,
	} {
		x := newExplorer(t, g, "whole-program")
		x.start(text)
		x.explore(x.all, most)
		x.checkCounts(0, 100)
	}
}

// walk appends random tokens, and tries random tokens behind each of them.
func (x *explorer) walk(r *rand.Rand, most int) {
	for range most {
		allowed := x.chart.next()
		x.try("end", allowed["end"])
		for range 6 {
			terminal := x.all[r.Intn(len(x.all))]
			x.try(terminal, allowed[terminal])
		}
		var next []string
		for _, terminal := range x.all {
			if allowed[terminal] && terminal != "end" {
				next = append(next, terminal)
			}
		}
		// Names and closing brackets are preferred, or nothing would come to an end.
		pick := next[r.Intn(len(next))]
		for _, terminal := range []string{`"}"`, `";"`, `"]"`, `")"`, "name"} {
			if allowed[terminal] && r.Intn(3) == 0 {
				pick = terminal
			}
		}
		x.push(pick)
	}
}

func TestParseAgainstModelAtRandom(t *testing.T) { // P8.1, P8.2
	g := readGrammar()
	r := rand.New(rand.NewSource(8))
	for _, start := range []string{"whole-program", "whole-expr"} {
		accepted, refused := 0, 0
		for range 200 {
			x := newExplorer(t, g, start)
			// Trees of this length are within the limits.
			x.walk(r, 38)
			accepted, refused = accepted+x.accepted, refused+x.refused
		}
		if accepted < 500 || refused < 20000 {
			t.Errorf("%s: only %d texts accepted and %d refused", start, accepted, refused)
		}
	}
}
