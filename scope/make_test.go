package scope_test

import (
	"maps"
	"math/rand"
	"slices"
	"strconv"

	"workflow/api"
)

// signature is what a maker knows of a function before it makes it. A calm function shall be harmless.
type signature struct {
	name   string
	params int
	calm   bool
}

// maker makes random programs. Most choices lead to a program without errors; one in slips choices, if slips is not 0, is made
// without regard to the rules.
type maker struct {
	r       *rand.Rand
	slips   int
	funcs   []signature
	globals []string
	visible []string
	calm    bool // the present body shall be harmless
}

func (m *maker) slip() bool {
	return m.slips > 0 && m.r.Intn(m.slips) == 0
}

func pick[T any](r *rand.Rand, list ...T) T {
	return list[r.Intn(len(list))]
}

func (m *maker) anyName() string {
	return pick(m.r, "a", "b", "c", "d", "e", "x", "y", "g0", "g1", "f0", "f1", "f2", "main", "len", "timer", "now", "h")
}

// newName returns the name of a variable that is not visible, if there is one.
func (m *maker) newName() string {
	name := m.anyName()
	for range 20 {
		if m.slip() || !slices.Contains(m.visible, name) {
			break
		}
		name = m.anyName()
	}
	return name
}

// oldName returns the name of a variable that can be used, or "".
func (m *maker) oldName(globals bool) string {
	if m.slip() {
		return m.anyName()
	}
	list := slices.Clone(m.visible)
	if globals {
		list = append(list, m.globals...)
	}
	if len(list) == 0 {
		return ""
	}
	return pick(m.r, list...)
}

func (m *maker) exprs(n, depth int) []api.Node {
	var list []api.Node
	for range n {
		list = append(list, m.expr(depth))
	}
	return list
}

func (m *maker) expr(depth int) api.Node {
	if depth <= 0 || m.r.Intn(3) == 0 {
		if name := m.oldName(true); name != "" && m.r.Intn(4) > 0 {
			return variable(name)
		}
		return pick(m.r, node(api.XNull), node(api.XTrue), api.Node{Op: api.XInt, Int: 7}, api.Node{Op: api.XText, Text: "s"})
	}
	switch m.r.Intn(12) {
	case 0:
		return node(api.XList, m.exprs(m.r.Intn(3), depth-1)...)
	case 1, 2:
		return m.mapExpr(depth - 1)
	case 3:
		return node(pick(m.r, api.XNot, api.XNeg), m.expr(depth-1))
	case 4:
		return node(pick(m.r, api.XMul, api.XSub, api.XLt, api.XNe, api.XAnd, api.XOr, api.XIndex), m.exprs(2, depth-1)...)
	case 5:
		return named(api.XField, m.anyName(), m.expr(depth-1))
	case 6:
		if !m.calm || m.slip() {
			return node(api.XAwait, m.expr(depth-1))
		}
	case 7:
		if !m.calm || m.slip() {
			return m.call(api.XGo, depth-1)
		}
	case 8, 9:
		return m.builtin(depth - 1)
	}
	return m.call(api.XCall, depth-1)
}

func (m *maker) mapExpr(depth int) api.Node {
	n := node(api.XMap)
	for i := range m.r.Intn(4) {
		key := strconv.Itoa(i)
		if m.slip() {
			key = "0"
		}
		n.Kids = append(n.Kids, api.Node{Op: api.XPair, Text: key, Kids: m.exprs(1, depth)})
	}
	return n
}

// arguments returns between least and most arguments.
func (m *maker) arguments(least, most, depth int) []api.Node {
	number := least + m.r.Intn(most-least+1)
	if m.slip() {
		number = m.r.Intn(4)
	}
	return m.exprs(number, depth)
}

func (m *maker) builtin(depth int) api.Node {
	name := pick(m.r, slices.Sorted(maps.Keys(builtins))...)
	for range 20 {
		if !m.calm || m.slip() || builtins[name][2] == 1 {
			break
		}
		name = pick(m.r, "len", "str", "put")
	}
	return named(api.XCall, name, m.arguments(builtins[name][0], builtins[name][1], depth)...)
}

// call returns a node that calls a function of the program.
func (m *maker) call(op, depth int) api.Node {
	f := pick(m.r, m.funcs...)
	for range 20 {
		if !m.calm || m.slip() || f.calm {
			break
		}
		f = pick(m.r, m.funcs...)
	}
	name := f.name
	if m.slip() {
		name = m.anyName()
	}
	return named(op, name, m.arguments(f.params, f.params, depth)...)
}

// block returns a block in which further variables are visible.
func (m *maker) block(depth int, variables ...string) api.Node {
	outside := len(m.visible)
	m.visible = append(m.visible, variables...)
	n := block()
	for range m.r.Intn(4) {
		n.Kids = append(n.Kids, m.statement(depth))
	}
	m.visible = m.visible[:outside]
	return n
}

func (m *maker) statement(depth int) api.Node {
	switch m.r.Intn(14) {
	case 0, 1, 2:
		n := named(api.SLet, m.newName(), m.expr(2))
		m.visible = append(m.visible, n.Name)
		return n
	case 3, 4:
		if name := m.oldName(!m.calm); name != "" {
			return named(api.SSet, name, m.expr(2))
		}
	case 5:
		return node(pick(m.r, api.SReturn, api.SThrow), m.expr(2))
	case 6:
		if !m.calm || m.slip() {
			return m.call(api.SUndo, 1)
		}
	case 7, 8, 9, 10, 11:
		if depth > 0 {
			return m.compound(depth - 1)
		}
	}
	return node(api.SExpr, m.expr(3))
}

func (m *maker) compound(depth int) api.Node {
	switch m.r.Intn(6) {
	case 0:
		n := node(api.SIf, m.expr(1), m.block(depth))
		if m.r.Intn(2) == 0 {
			n.Kids = append(n.Kids, m.block(depth))
		} else if m.r.Intn(2) == 0 {
			n.Kids = append(n.Kids, node(api.SIf, m.expr(1), m.block(depth)))
		}
		return n
	case 1:
		return node(api.SWhile, m.expr(1), m.block(depth))
	case 2:
		if !m.calm || m.slip() {
			return node(api.SSaga, m.block(depth))
		}
	case 3:
		if !m.calm || m.slip() {
			return m.selection(depth)
		}
	}
	first := m.block(depth)
	name := m.newName()
	return named(api.STry, name, first, m.block(depth, name))
}

func (m *maker) selection(depth int) api.Node {
	n := node(api.SSelect)
	for range 1 + m.r.Intn(2) {
		kid := node(api.SCase, m.expr(1))
		if m.r.Intn(2) == 0 {
			kid.Kids = append(kid.Kids, m.block(depth))
		} else {
			kid.Name = m.newName()
			kid.Kids = append(kid.Kids, m.block(depth, kid.Name))
		}
		n.Kids = append(n.Kids, kid)
	}
	if m.r.Intn(2) == 0 {
		n.Kids = append(n.Kids, node(api.SElse, m.block(depth)))
	}
	return n
}

// body returns the block of a function or handler.
func (m *maker) body(calm bool, params ...string) api.Node {
	m.calm, m.visible = calm, nil
	return m.block(3, params...)
}

func (m *maker) function(f signature) api.Node {
	n := named(api.DFunc, f.name)
	var params []string
	for i := range f.params {
		params = append(params, []string{"a", "b", "x"}[i])
		if m.slip() {
			params[i] = m.anyName()
		}
		n.Kids = append(n.Kids, variable(params[i]))
	}
	n.Kids = append(n.Kids, m.body(f.calm, params...))
	return n
}

func (m *maker) handler() api.Node {
	op := pick(m.r, api.DSignal, api.DQuery, api.DUpdate)
	n := handler(op, m.anyName(), pick(m.r, "a", "y"))
	if op == api.DUpdate && m.r.Intn(2) == 0 {
		n.Kids = append(n.Kids, m.body(true, n.Text))
	}
	n.Kids = append(n.Kids, m.body(op == api.DQuery, n.Text))
	return n
}

// program returns a random program.
func (m *maker) program() api.Node {
	m.funcs = []signature{{"main", m.r.Intn(2), m.r.Intn(2) == 0}}
	for _, name := range []string{"f0", "f1", "f2", "f3"}[:m.r.Intn(5)] {
		m.funcs = append(m.funcs, signature{name, m.r.Intn(4), m.r.Intn(2) == 0})
	}
	m.globals = []string{"g0", "g1"}[:m.r.Intn(3)]
	var list []api.Node
	for _, f := range m.funcs {
		if m.slip() {
			f.name = m.anyName()
		}
		list = append(list, m.function(f))
	}
	for _, name := range m.globals {
		list = append(list, named(api.DVar, name, node(api.XNull)))
	}
	for range m.r.Intn(4) {
		list = append(list, m.handler())
	}
	m.r.Shuffle(len(list), func(i, j int) { list[i], list[j] = list[j], list[i] })
	return program(list...)
}
