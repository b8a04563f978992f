package scope_test

import (
	"math"
	"slices"

	"workflow/api"
	"workflow/syntax"
)

// The model lays a body out in time. Each node is checked at a moment of its own, and a variable is visible between two moments.

type moment struct {
	at   int
	node api.Node
}

type lifetime struct {
	name     string
	from, to int
}

type timeline struct {
	now       int
	moments   []moment
	variables []*lifetime
}

func (l *timeline) tick() int {
	l.now++
	return l.now
}

func (l *timeline) check(n api.Node) int {
	at := l.tick()
	l.moments = append(l.moments, moment{at, n})
	return at
}

// declare adds a variable that is visible from a moment on.
func (l *timeline) declare(name string, from int) *lifetime {
	v := &lifetime{name, from, math.MaxInt}
	if name != "" {
		l.variables = append(l.variables, v)
	}
	return v
}

// lay adds a node; lets are the variables that end with the block that contains the node.
func (l *timeline) lay(n api.Node, lets *[]*lifetime) {
	switch n.Op {
	case api.SBlock:
		var own []*lifetime
		for _, kid := range n.Kids {
			l.lay(kid, &own)
		}
		end := l.tick()
		for _, v := range own {
			v.to = end
		}
	case api.STry, api.SCase:
		l.lay(n.Kids[0], lets)
		v := l.declare(n.Name, l.check(n))
		l.lay(n.Kids[1], lets)
		v.to = l.tick()
	default:
		for _, kid := range n.Kids {
			l.lay(kid, lets)
		}
		at := l.check(n)
		if n.Op == api.SLet {
			*lets = append(*lets, l.declare(n.Name, at))
		}
	}
}

// visibleAt returns the names of the variables that are visible at a moment.
func (l *timeline) visibleAt(at int) []string {
	var names []string
	for _, v := range l.variables {
		if v.from < at && at < v.to {
			names = append(names, v.name)
		}
	}
	return names
}

// most returns the greatest number of variables that are visible between two moments.
func (l *timeline) most() int {
	most := 0
	for at := range l.now + 1 {
		number := 0
		for _, v := range l.variables {
			if v.from <= at && at < v.to {
				number++
			}
		}
		most = max(most, number)
	}
	return most
}

// modelBody is a body with its label and the number of its parameters.
type modelBody struct {
	label     string
	function  bool
	guarded   bool
	params    int
	declared  int // the index of the declaration
	timeline  *timeline
	reachable []string // functions that it calls, directly or through others
}

func newModelBody(label string, declared int, d, block api.Node) *modelBody {
	b := &modelBody{label: label, declared: declared, function: d.Op == api.DFunc, timeline: &timeline{}}
	if b.function {
		b.params = len(d.Kids) - 1
		for _, kid := range d.Kids[:b.params] {
			b.timeline.declare(kid.Name, 0)
		}
	} else {
		b.params = 1
		b.timeline.declare(d.Text, 0)
	}
	b.timeline.lay(block, nil)
	return b
}

// model is what the chapter says of a program.
type model struct {
	tree   api.Node
	bodies []*modelBody
}

func newModel(n api.Node) *model {
	m := &model{tree: n}
	for i, d := range n.Kids {
		switch d.Op {
		case api.DFunc:
			m.bodies = append(m.bodies, newModelBody(d.Name, i, d, d.Kids[len(d.Kids)-1]))
		case api.DSignal:
			m.bodies = append(m.bodies, newModelBody("signal "+d.Name, i, d, d.Kids[0]))
		case api.DQuery:
			m.bodies = append(m.bodies, newModelBody("query "+d.Name, i, d, d.Kids[0]))
			m.bodies[len(m.bodies)-1].guarded = true
		case api.DUpdate:
			if len(d.Kids) == 2 {
				m.bodies = append(m.bodies, newModelBody("check "+d.Name, i, d, d.Kids[0]))
				m.bodies[len(m.bodies)-1].guarded = true
			}
			m.bodies = append(m.bodies, newModelBody("update "+d.Name, i, d, d.Kids[len(d.Kids)-1]))
		}
	}
	m.close()
	return m
}

// find returns the first body with a label, or nil.
func (m *model) find(label string) *modelBody {
	for _, b := range m.bodies {
		if b.label == label {
			return b
		}
	}
	return nil
}

// called returns the function of the program that a node calls, or nil.
func (m *model) called(n api.Node) *modelBody {
	_, builtin := builtins[n.Name]
	if n.Op != api.XCall && n.Op != api.XGo && n.Op != api.SUndo || builtin {
		return nil
	}
	return m.find(n.Name)
}

// close finds the functions that the bodies call, until there are no more.
func (m *model) close() {
	for changed := true; changed; {
		changed = false
		for _, b := range m.bodies {
			before := len(b.reachable)
			for _, x := range b.timeline.moments {
				if f := m.called(x.node); f != nil {
					list := slices.Concat(b.reachable, f.reachable, []string{f.label})
					slices.Sort(list)
					b.reachable = slices.Compact(list)
				}
			}
			changed = changed || len(b.reachable) > before
		}
	}
}

// calls returns the functions that a body calls in the order of the declarations.
func (m *model) calls(b *modelBody) []string {
	var names []string
	for _, f := range m.bodies {
		if f.function && slices.Contains(b.reachable, f.label) && !slices.Contains(names, f.label) {
			names = append(names, f.label)
		}
	}
	return names
}

// contains reports whether a body or a function that it calls contains a construct, which is told by a node and its visible variables.
func (m *model) contains(b *modelBody, test func(api.Node, []string) bool) bool {
	for _, x := range b.timeline.moments {
		if test(x.node, b.timeline.visibleAt(x.at)) {
			return true
		}
	}
	for _, name := range b.reachable {
		f := m.find(name)
		for _, x := range f.timeline.moments {
			if test(x.node, f.timeline.visibleAt(x.at)) {
				return true
			}
		}
	}
	return false
}

func modelAction(n api.Node, _ []string) bool {
	return n.Op == api.XCall && builtins[n.Name][2] >= 2
}

func modelImpure(n api.Node, visible []string) bool {
	constructs := []int{api.XAwait, api.XGo, api.SSelect, api.SSaga, api.SUndo}
	return slices.Contains(constructs, n.Op) || n.Op == api.SSet && !slices.Contains(visible, n.Name) || modelAction(n, visible)
}

// check returns what Check returns.
func (m *model) check() api.Errno {
	if !syntax.Right(m.tree) {
		return api.ErrSyntax
	}
	for i := range m.tree.Kids {
		if e := m.checkDeclaration(i); e != api.OK {
			return e
		}
	}
	main := m.find("main")
	if main == nil {
		return api.ErrNone
	}
	if main.params > 1 {
		return api.ErrArity
	}
	for _, b := range m.bodies {
		for _, x := range b.timeline.moments {
			visible := b.timeline.visibleAt(x.at)
			if e := m.checkNode(x.node, visible); e != api.OK {
				return e
			}
			if b.guarded && (modelImpure(x.node, visible) || x.node.Op == api.XCall && m.harmful(x.node)) {
				return api.ErrKind
			}
		}
	}
	return api.OK
}

func (m *model) harmful(call api.Node) bool {
	f := m.called(call)
	return f != nil && m.contains(f, modelImpure)
}

func (m *model) checkDeclaration(i int) api.Errno {
	d, earlier := m.tree.Kids[i], m.tree.Kids[:i]
	handler := d.Op != api.DVar && d.Op != api.DFunc
	globals, blocks := 0, 0
	for _, x := range earlier {
		same := !handler && (x.Op == api.DVar || x.Op == api.DFunc) || x.Op == d.Op
		if x.Name == d.Name && same {
			return api.ErrTwice
		}
		if x.Op == api.DVar {
			globals++
		} else {
			blocks++
		}
	}
	if _, builtin := builtins[d.Name]; builtin && !handler {
		return api.ErrTwice
	}
	if d.Op == api.DVar {
		if globals >= api.MaxGlobals {
			return api.ErrSize
		}
		return api.OK
	}
	for j, kid := range d.Kids {
		for _, other := range d.Kids[:j] {
			if d.Op == api.DFunc && kid.Op == api.XName && kid.Name == other.Name {
				return api.ErrTwice
			}
		}
	}
	if blocks >= api.MaxFuncs || d.Op == api.DFunc && len(d.Kids)-1 > api.MaxParams || m.locals(i) > api.MaxSlots {
		return api.ErrSize
	}
	return api.OK
}

// locals returns the number of variables of a declaration.
func (m *model) locals(i int) int {
	most := 0
	for _, b := range m.bodies {
		if b.declared == i {
			most = max(most, b.timeline.most())
		}
	}
	return most
}

func (m *model) checkNode(n api.Node, visible []string) api.Errno {
	arity, builtin := builtins[n.Name]
	switch n.Op {
	case api.XName, api.SSet:
		global := slices.ContainsFunc(m.tree.Kids, func(d api.Node) bool { return d.Op == api.DVar && d.Name == n.Name })
		if !global && !slices.Contains(visible, n.Name) {
			return api.ErrName
		}
	case api.SLet, api.STry, api.SCase:
		if slices.Contains(visible, n.Name) {
			return api.ErrTwice
		}
	case api.XMap:
		for i, pair := range n.Kids {
			if slices.ContainsFunc(n.Kids[:i], func(x api.Node) bool { return x.Text == pair.Text }) {
				return api.ErrTwice
			}
		}
	case api.XCall, api.XGo, api.SUndo:
		f := m.called(n)
		if !builtin && f == nil {
			return api.ErrName
		}
		if builtin && n.Op != api.XCall {
			return api.ErrKind
		}
		if f != nil {
			arity = [3]int{f.params, f.params}
		}
		if len(n.Kids) < arity[0] || len(n.Kids) > arity[1] {
			return api.ErrArity
		}
	}
	return api.OK
}
