package syntax_test

import (
	"regexp"
	"slices"
	"strings"
	"testing"

	"workflow/api"
)

// grammarText is the grammar of DOC.md, but for two changes: if-statement has a rule of its own, and so have the cases of select,
// of which there is at least one if there is no else. The rule for MaxCases at most is added by readGrammar. The last two rules are
// those of whole texts.
const grammarText = `
program   = { "var" name "=" constant ";" | "func" name "(" [ name { "," name } ] ")" block
            | "on" "signal" name "(" name ")" block | "on" "query" name "(" name ")" block
            | "on" "update" name "(" name ")" [ "check" block ] block }
block     = "{" { statement } "}"
statement = "let" name "=" expr ";" | name "=" expr ";" | if-statement
            | "while" expr block | "return" [ expr ] ";" | "throw" expr ";" | "try" block "catch" name block
            | "saga" block | "undo" name "(" [ expr { "," expr } ] ")" ";"
            | "select" "{" ( cases [ "else" block ] | "else" block ) "}" | expr ";"
if-statement = "if" expr block [ "else" ( block | if-statement ) ]
case      = "case" [ name "=" ] expr block
expr      = and { "or" and }          and = not { "and" not }          not = "not" not | compare
compare   = sum [ ( "<" | "<=" | ">" | ">=" | "==" | "!=" ) sum ]
sum       = product { ( "+" | "-" ) product }     product = unary { ( "*" | "/" | "%" ) unary }
unary     = "-" unary | "await" unary | "go" name "(" [ expr { "," expr } ] ")" | postfix
postfix   = primary { "." name | "[" expr "]" }
primary   = integer | string | "true" | "false" | "null" | name | name "(" [ expr { "," expr } ] ")"
            | "[" [ expr { "," expr } ] "]" | "{" [ string ":" expr { "," string ":" expr } ] "}" | "(" expr ")"
constant  = integer | "-" integer | string | "true" | "false" | "null"
whole-program = program end
whole-expr = expr end
`

// rule is one alternative of the symbol head. Symbols that have no rules are terminals.
type rule struct {
	head int
	body []int
}

// grammar is a context-free grammar; symbols are numbered.
type grammar struct {
	names    []string
	numbers  map[string]int
	rules    []rule
	of       map[int][]int // the rules of a symbol
	nullable map[int]bool
}

func (g *grammar) symbol(name string) int {
	n, found := g.numbers[name]
	if !found {
		n = len(g.names)
		g.names = append(g.names, name)
		g.numbers[name] = n
	}
	return n
}

func (g *grammar) add(head int, bodies ...[]int) {
	for _, body := range bodies {
		g.of[head] = append(g.of[head], len(g.rules))
		g.rules = append(g.rules, rule{head, body})
	}
}

// readGrammar turns grammarText into rules.
func readGrammar() *grammar {
	g := &grammar{numbers: map[string]int{}, of: map[int][]int{}, nullable: map[int]bool{}}
	cases := "cases = " + strings.Repeat("case [ ", api.MaxCases-1) + "case" + strings.Repeat(" ]", api.MaxCases-1)
	words := strings.Fields(grammarText + cases)
	for len(words) > 0 {
		end := 2
		for end < len(words) && (end+1 == len(words) || words[end+1] != "=") {
			end++
		}
		r := ebnf{g, words[2:end]}
		g.add(g.symbol(words[0]), r.alternatives()...)
		if len(r.words) > 0 {
			panic("a bracket too many: " + r.words[0])
		}
		words = words[end:]
	}
	for changed := true; changed; {
		changed = false
		for _, r := range g.rules {
			if !g.nullable[r.head] && !slices.ContainsFunc(r.body, func(s int) bool { return !g.nullable[s] }) {
				g.nullable[r.head], changed = true, true
			}
		}
	}
	return g
}

// ebnf reads the right side of a rule.
type ebnf struct {
	g     *grammar
	words []string
}

func (r *ebnf) next() string {
	w := r.words[0]
	r.words = r.words[1:]
	return w
}

// alternatives reads alternatives up to a closing bracket or the end.
func (r *ebnf) alternatives() [][]int {
	out := [][]int{nil}
	for len(r.words) > 0 && !slices.Contains([]string{")", "]", "}"}, r.words[0]) {
		if r.words[0] == "|" {
			r.next()
			out = append(out, nil)
			continue
		}
		last := len(out) - 1
		out[last] = append(out[last], r.item())
	}
	return out
}

// item reads a symbol, or a bracket, for which it makes a symbol.
func (r *ebnf) item() int {
	w := r.next()
	if !strings.Contains("([{", w) {
		return r.g.symbol(w)
	}
	bodies := r.alternatives()
	r.next()
	n := r.g.symbol("#" + string(rune('a'+len(r.g.names))))
	if w == "{" {
		for i := range bodies {
			bodies[i] = append([]int{n}, bodies[i]...)
		}
	}
	r.g.add(n, bodies...)
	if w != "(" {
		r.g.add(n, nil)
	}
	return n
}

// state is a rule of which dot symbols have been found, beginning behind the token from.
type state struct {
	rule, dot, from int
}

// chart is Earley's algorithm: sets[i] are the states behind i tokens. So next knows exactly the terminals with which a text of
// the grammar goes on.
type chart struct {
	g    *grammar
	sets [][]state
}

func newChart(g *grammar, start string) *chart {
	c := &chart{g: g}
	c.close(c.predict(g.symbol(start)))
	return c
}

func (c *chart) predict(symbol int) []state {
	var out []state
	for _, r := range c.g.of[symbol] {
		out = append(out, state{r, 0, len(c.sets)})
	}
	return out
}

// after returns the symbol behind the dot, or -1.
func (c *chart) after(s state) int {
	if body := c.g.rules[s.rule].body; s.dot < len(body) {
		return body[s.dot]
	}
	return -1
}

// close appends the set of the given states and all that follow from them.
func (c *chart) close(states []state) {
	here := len(c.sets)
	c.sets = append(c.sets, nil)
	seen := map[state]bool{}
	add := func(states ...state) {
		for _, s := range states {
			if !seen[s] {
				seen[s] = true
				c.sets[here] = append(c.sets[here], s)
			}
		}
	}
	add(states...)
	for i := 0; i < len(c.sets[here]); i++ {
		s := c.sets[here][i]
		symbol := c.after(s)
		if symbol < 0 {
			for _, t := range c.sets[s.from] {
				if c.after(t) == c.g.rules[s.rule].head {
					add(state{t.rule, t.dot + 1, t.from})
				}
			}
			continue
		}
		for _, r := range c.g.of[symbol] {
			add(state{r, 0, here})
		}
		if c.g.nullable[symbol] {
			add(state{s.rule, s.dot + 1, s.from})
		}
	}
}

// next returns the terminals that can follow.
func (c *chart) next() map[string]bool {
	out := map[string]bool{}
	for _, s := range c.sets[len(c.sets)-1] {
		if symbol := c.after(s); symbol >= 0 && len(c.g.of[symbol]) == 0 {
			out[c.g.names[symbol]] = true
		}
	}
	return out
}

// push reads a terminal.
func (c *chart) push(terminal string) {
	symbol := c.g.symbol(terminal)
	var out []state
	for _, s := range c.sets[len(c.sets)-1] {
		if c.after(s) == symbol {
			out = append(out, state{s.rule, s.dot + 1, s.from})
		}
	}
	c.close(out)
}

// pop takes the last terminal back.
func (c *chart) pop() {
	c.sets = c.sets[:len(c.sets)-1]
}

// terminals returns all terminals of the grammar.
func (g *grammar) terminals() []string {
	var out []string
	for i, name := range g.names {
		if len(g.of[i]) == 0 {
			out = append(out, name)
		}
	}
	slices.Sort(out)
	return out
}

func TestGrammarText(t *testing.T) { // P8.1: the model of the next test has the terminals of DOC.md
	g := readGrammar()
	var want []string
	for _, w := range strings.Fields(keywords + " == != <= >= ( ) { } [ ] , ; . : = < > + - * / %") {
		want = append(want, `"`+w+`"`)
	}
	want = append(want, "name", "integer", "string", "end")
	slices.Sort(want)
	if got := g.terminals(); !slices.Equal(got, want) {
		t.Errorf("terminals %v, want %v", got, want)
	}
	sample := regexp.MustCompile(`^(name|integer|string)?$`)
	for _, x := range []struct{ start, text string }{
		{"whole-expr", `name + name * integer`}, {"whole-expr", `not not name or await - name`}, {"whole-program", `func name ( ) { select { else { } } }`},
		{"whole-program", ``}, {"whole-program", `on update name ( name ) check { } { undo name ( integer , name ) ; }`},
		{"whole-program", `func name ( ) { if name { } else if name { } else { } }`},
	} {
		c := newChart(g, x.start)
		for _, w := range strings.Fields(x.text) {
			if !sample.MatchString(w) {
				w = `"` + w + `"`
			}
			if !c.next()[w] {
				t.Errorf("the model refuses %s in %s", w, x.text)
			}
			c.push(w)
		}
		if !c.next()["end"] {
			t.Errorf("the model refuses %s", x.text)
		}
	}
}
