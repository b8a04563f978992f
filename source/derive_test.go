package source_test

import (
	"math/rand"
	"slices"
	"strconv"
	"strings"

	"workflow/api"
	"workflow/token"
)

// grammarText is the grammar of DOC.md, but for three changes: the first alternative of each rule leads soonest to an end,
// if-statement has a rule of its own, and a select statement is not empty.
const grammarText = `
program   = { declaration }
declaration = "var" name "=" constant ";" | "func" name "(" [ name { "," name } ] ")" block
            | "on" "signal" name "(" name ")" block | "on" "query" name "(" name ")" block
            | "on" "update" name "(" name ")" [ "check" block ] block
block     = "{" { statement } "}"
statement = "return" [ expr ] ";" | "let" name "=" expr ";" | name "=" expr ";" | if-statement
            | "while" expr block | "throw" expr ";" | "try" block "catch" name block
            | "saga" block | "undo" name "(" [ expr { "," expr } ] ")" ";"
            | "select" "{" ( case { case } [ "else" block ] | "else" block ) "}" | expr ";"
if-statement = "if" expr block [ "else" ( block | if-statement ) ]
case      = "case" [ name "=" ] expr block
expr      = and { "or" and }          and = not { "and" not }          not = compare | "not" not
compare   = sum [ ( "<" | "<=" | ">" | ">=" | "==" | "!=" ) sum ]
sum       = product { ( "+" | "-" ) product }     product = unary { ( "*" | "/" | "%" ) unary }
unary     = postfix | "-" unary | "await" unary | "go" name "(" [ expr { "," expr } ] ")"
postfix   = primary { "." name | "[" expr "]" }
primary   = integer | string | "true" | "false" | "null" | name | name "(" [ expr { "," expr } ] ")"
            | "[" [ expr { "," expr } ] "]" | "{" [ string ":" expr { "," string ":" expr } ] "}" | "(" expr ")"
constant  = integer | "-" integer | string | "true" | "false" | "null"
`

// item is a symbol or a terminal, if bracket is "", and otherwise what stands in brackets: alternatives of items.
type item struct {
	bracket string
	symbol  string
	choices [][]item
}

// readRules returns the rules of the grammar.
func readRules() map[string]item {
	rules := map[string]item{}
	words := strings.Fields(grammarText)
	for len(words) > 0 {
		end := 2
		for end < len(words) && (end+1 == len(words) || words[end+1] != "=") {
			end++
		}
		body := words[2:end]
		rules[words[0]] = readChoices("(", &body)
		words = words[end:]
	}
	return rules
}

// readChoices reads alternatives up to a closing bracket or the end.
func readChoices(bracket string, words *[]string) item {
	out := item{bracket: bracket, choices: [][]item{nil}}
	for len(*words) > 0 {
		w := (*words)[0]
		*words = (*words)[1:]
		last := len(out.choices) - 1
		switch w {
		case ")", "]", "}":
			return out
		case "|":
			out.choices = append(out.choices, nil)
		case "(", "[", "{":
			out.choices[last] = append(out.choices[last], readChoices(w, words))
		default:
			out.choices[last] = append(out.choices[last], item{symbol: w})
		}
	}
	return out
}

// deriver makes random texts by the grammar. Each one has two forms with the same tree: a plain one, and one with parentheses that
// change nothing and with other spellings of the strings.
type deriver struct {
	r           *rand.Rand
	rules       map[string]item
	plain, full []string // the tokens of the two forms
}

func newDeriver(seed int64) *deriver {
	return &deriver{r: rand.New(rand.NewSource(seed)), rules: readRules()}
}

// put adds a token to both forms.
func (d *deriver) put(token string) {
	d.plain = append(d.plain, token)
	d.full = append(d.full, token)
}

// symbol derives a symbol; below the depth 0 it takes the shortest way.
func (d *deriver) symbol(s string, depth int) {
	rule, found := d.rules[s]
	if !found {
		d.terminal(s)
		return
	}
	inner := slices.Contains(strings.Fields("expr and not compare sum product unary postfix primary"), s)
	if wrap := inner && d.r.Intn(15) == 0; wrap {
		d.full = append(d.full, "(")
		defer func() { d.full = append(d.full, ")") }()
	}
	d.item(rule, depth)
}

func (d *deriver) item(x item, depth int) {
	if x.bracket == "" {
		d.symbol(x.symbol, depth)
		return
	}
	times := 1
	if x.bracket == "[" {
		times = d.r.Intn(2)
	} else if x.bracket == "{" {
		times = []int{0, 0, 1, 1, 3}[d.r.Intn(5)]
	}
	if len(d.plain) > 1000 {
		depth = 0
	}
	if depth <= 0 && x.bracket != "(" {
		times = 0
	}
	for range times {
		choice := 0
		if depth > 0 {
			choice = d.r.Intn(len(x.choices))
		}
		for _, next := range x.choices[choice] {
			d.item(next, depth-1)
		}
	}
}

func (d *deriver) terminal(s string) {
	switch s {
	case "name":
		d.put([]string{"a", "b", "main", "_", "x1", "len", "If", strings.Repeat("n", api.MaxName)}[d.r.Intn(8)])
	case "integer":
		d.put([]string{"0", "1", "42", strconv.Itoa(greatest)}[d.r.Intn(4)])
	case "string":
		x := []string{"", "s", "(a)", "\"\\\n\t\x00\xff", "};  #"}[d.r.Intn(5)]
		d.plain = append(d.plain, token.Quote(x))
		d.full = append(d.full, escaped(x))
	default:
		d.put(strings.Trim(s, `"`))
	}
}

// escaped returns a string literal in which each byte has its number.
func escaped(s string) string {
	out := `"`
	for i := range len(s) {
		out += `\x` + string("0123456789abcdef"[s[i]/16]) + string("0123456789abcdef"[s[i]%16])
	}
	return out + `"`
}

// derive returns the two forms of a random text of a symbol.
func (d *deriver) derive(symbol string, depth int) (plain, full string) {
	d.plain, d.full = nil, nil
	d.symbol(symbol, depth)
	return d.join(d.plain), d.join(d.full)
}

// join writes tokens with random blanks between them, at least one where two would become one.
func (d *deriver) join(tokens []string) string {
	var b strings.Builder
	for i, t := range tokens {
		gap := []string{"", " ", "\n", "\t \n"}[d.r.Intn(4)]
		if gap == "" && i > 0 && mustPart(tokens[i-1], t) {
			gap = " "
		}
		b.WriteString(gap + t)
	}
	return b.String()
}

// mustPart reports whether the tokens a and b are not the same without a blank between them.
func mustPart(a, b string) bool {
	l, _, e := token.Scan(a + b)
	return e != api.OK || len(l) != 3 || l[1].At != len(a)
}

// eachProgram calls visit with both forms of random programs.
func eachProgram(seed int64, number int, visit func(plain, full string)) {
	d := newDeriver(seed)
	for i := range number {
		visit(d.derive("program", 5+i%25))
	}
}

// eachExpr calls visit with both forms of random expressions.
func eachExpr(seed int64, number int, visit func(plain, full string)) {
	d := newDeriver(seed)
	for i := range number {
		visit(d.derive("expr", 5+i%30))
	}
}
