package source_test

import (
	"strconv"
	"strings"

	"workflow/api"
	"workflow/token"
)

// operation is a row of the section 'The canonical text': how an expression is written (with # for each operand), its level, and
// the levels that the grammar requires of its operands.
type operation struct {
	form     string
	level    int
	required []int
}

var operations = map[int]operation{
	api.XOr:    {"# or #", 1, []int{1, 2}},
	api.XAnd:   {"# and #", 2, []int{2, 3}},
	api.XNot:   {"not #", 3, []int{3}},
	api.XLt:    {"# < #", 4, []int{5, 5}},
	api.XLe:    {"# <= #", 4, []int{5, 5}},
	api.XGt:    {"# > #", 4, []int{5, 5}},
	api.XGe:    {"# >= #", 4, []int{5, 5}},
	api.XEq:    {"# == #", 4, []int{5, 5}},
	api.XNe:    {"# != #", 4, []int{5, 5}},
	api.XAdd:   {"# + #", 5, []int{5, 6}},
	api.XSub:   {"# - #", 5, []int{5, 6}},
	api.XMul:   {"# * #", 6, []int{6, 7}},
	api.XDiv:   {"# / #", 6, []int{6, 7}},
	api.XMod:   {"# % #", 6, []int{6, 7}},
	api.XNeg:   {"-#", 7, []int{7}},
	api.XAwait: {"await #", 7, []int{7}},
	api.XIndex: {"#[#]", 8, []int{8, 1}},
	api.XField: {"#.", 8, []int{8}},
}

// modelExpr returns the text of an expression by the table of operations.
func modelExpr(n api.Node) string {
	var kids []string
	for _, kid := range n.Kids {
		kids = append(kids, modelExpr(kid))
	}
	list := strings.Join(kids, ", ")
	switch n.Op {
	case api.XNull, api.XTrue, api.XFalse:
		return []string{"null", "true", "false"}[n.Op-api.XNull]
	case api.XInt:
		return strconv.Itoa(n.Int)
	case api.XText:
		return token.Quote(n.Text)
	case api.XName:
		return n.Name
	case api.XList:
		return "[" + list + "]"
	case api.XMap:
		return "{" + list + "}"
	case api.XPair:
		return token.Quote(n.Text) + ": " + list
	case api.XCall:
		return n.Name + "(" + list + ")"
	case api.XGo:
		return "go " + n.Name + "(" + list + ")"
	}
	row := operations[n.Op]
	pieces := strings.Split(row.form, "#")
	out := pieces[0]
	for i, required := range row.required {
		if modelLevel(n.Kids[i].Op) < required {
			kids[i] = "(" + kids[i] + ")"
		}
		out += kids[i] + pieces[i+1]
	}
	return out + n.Name
}

func modelLevel(op int) int {
	if row, found := operations[op]; found {
		return row.level
	}
	if op == api.XGo {
		return 7
	}
	return 8
}

// lines are the lines of a text, without the blanks by which the whole text is indented.
type lines []string

// follow lets texts follow each other with one blank between the last line of one and the first line of the next.
func follow(texts ...lines) lines {
	out := texts[0]
	for _, text := range texts[1:] {
		last := len(out) - 1
		out = append(append(append(lines{}, out[:last]...), out[last]+" "+text[0]), text[1:]...)
	}
	return out
}

// braces returns texts on lines of their own within braces.
func braces(texts []lines) lines {
	out := lines{"{"}
	for _, text := range texts {
		for _, line := range text {
			out = append(out, "  "+line)
		}
	}
	return append(out, "}")
}

// modelText returns the lines of a block, a statement, a branch of select, or a declaration.
func modelText(n api.Node) lines {
	var kids []lines
	for _, kid := range n.Kids {
		if kid.Op <= api.XField {
			kids = append(kids, lines{modelExpr(kid)})
		} else {
			kids = append(kids, modelText(kid))
		}
	}
	begin := func(words ...string) lines { return lines{strings.Join(words, " ")} }
	closed := func(words ...string) lines { return lines{strings.Join(words, " ") + ";"} }
	switch n.Op {
	case api.SBlock:
		return braces(kids)
	case api.SLet:
		return closed("let", n.Name, "=", kids[0][0])
	case api.SSet:
		return closed(n.Name, "=", kids[0][0])
	case api.SReturn:
		if len(kids) == 0 {
			return lines{"return;"}
		}
		return closed("return", kids[0][0])
	case api.SThrow:
		return closed("throw", kids[0][0])
	case api.SExpr:
		return closed(kids[0][0])
	case api.SUndo:
		return closed("undo", modelExpr(named(api.XCall, n.Name, n.Kids...)))
	case api.SWhile:
		return follow(begin("while"), kids[0], kids[1])
	case api.SSaga:
		return follow(begin("saga"), kids[0])
	case api.STry:
		return follow(begin("try"), kids[0], begin("catch", n.Name), kids[1])
	case api.SIf:
		out := follow(begin("if"), kids[0], kids[1])
		if len(kids) == 3 {
			out = follow(out, begin("else"), kids[2])
		}
		return out
	case api.SSelect:
		return follow(begin("select"), braces(kids))
	case api.SCase:
		if n.Name != "" {
			return follow(begin("case", n.Name, "="), kids[0], kids[1])
		}
		return follow(begin("case"), kids[0], kids[1])
	case api.SElse:
		return follow(begin("else"), kids[0])
	}
	return modelDeclaration(n, kids)
}

func modelDeclaration(n api.Node, kids []lines) lines {
	last := len(kids) - 1
	switch n.Op {
	case api.DVar:
		return lines{"var " + n.Name + " = " + kids[0][0] + ";"}
	case api.DFunc:
		return follow(lines{"func " + modelExpr(named(api.XCall, n.Name, n.Kids[:last]...))}, kids[last])
	}
	head := lines{"on " + []string{"signal", "query", "update"}[n.Op-api.DSignal] + " " + n.Name + "(" + n.Text + ")"}
	if last == 1 {
		return follow(head, lines{"check"}, kids[0], kids[1])
	}
	return follow(head, kids[0])
}

// modelProgram returns the canonical text of a program tree, as the chapter describes it.
func modelProgram(n api.Node) string {
	var out strings.Builder
	for _, kid := range n.Kids {
		for _, line := range modelText(kid) {
			out.WriteString(line + "\n")
		}
	}
	return out.String()
}
