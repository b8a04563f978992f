package scope

import "workflow/api"

// body is the block of a function or handler, or a check block.
type body struct {
	label   string
	params  []string
	block   api.Node
	guarded bool // it belongs to a query or is a check block: it may contain no impure construct
}

// label returns the label of the block of a function or handler, and the name of a global variable. A name contains no blank, so
// the label of a handler differs from all names.
func label(d api.Node) string {
	switch d.Op {
	case api.DSignal:
		return "signal " + d.Name
	case api.DQuery:
		return "query " + d.Name
	case api.DUpdate:
		return "update " + d.Name
	}
	return d.Name
}

// parameters returns the names of the parameters of a declaration.
func parameters(d api.Node) []string {
	var list []string
	switch d.Op {
	case api.DFunc:
		for _, kid := range d.Kids[:len(d.Kids)-1] {
			list = append(list, kid.Name)
		}
	case api.DSignal, api.DQuery, api.DUpdate:
		list = append(list, d.Text)
	}
	return list
}

// bodies returns the bodies of declarations in order.
func bodies(declarations ...api.Node) []body {
	var list []body
	for _, d := range declarations {
		if d.Op == api.DVar {
			continue
		}
		last := len(d.Kids) - 1
		if d.Op == api.DUpdate && last > 0 {
			list = append(list, body{"check " + d.Name, parameters(d), d.Kids[0], true})
		}
		list = append(list, body{label(d), parameters(d), d.Kids[last], d.Op == api.DQuery})
	}
	return list
}

// locals returns the greatest number of variables that are visible at the same point of the bodies of a declaration.
func locals(d api.Node) int {
	most := 0
	for _, b := range bodies(d) {
		for _, visible := range b.nodes() {
			most = max(most, len(visible))
		}
	}
	return most
}

// program holds the bodies of a program tree, the first one of each label.
type program struct {
	bodies []body
	first  map[string]body // by label
}

func newProgram(n api.Node) program {
	p := program{first: map[string]body{}}
	for _, b := range bodies(n.Kids...) {
		if _, found := p.first[b.label]; !found {
			p.bodies = append(p.bodies, b)
			p.first[b.label] = b
		}
	}
	return p
}

// callee returns the function of the program that a node calls.
func (p program) callee(n api.Node) (body, bool) {
	if !isCall(n) || isBuiltin(n.Name) {
		return body{}, false
	}
	f, found := p.first[n.Name]
	return f, found
}

// isCall reports whether the name of a node denotes a function.
func isCall(n api.Node) bool {
	return n.Op == api.XCall || n.Op == api.XGo || n.Op == api.SUndo
}

// reached returns the labels of a body and of the functions that it calls, directly or through others. The values tell whether
// a body is called: that is false at most for the given one.
func (p program) reached(start body) map[string]bool {
	reached := map[string]bool{start.label: false}
	waiting := []body{start}
	for len(waiting) > 0 {
		b := waiting[0]
		waiting = waiting[1:]
		for n := range b.nodes() {
			f, found := p.callee(n)
			if !found {
				continue
			}
			if _, known := reached[f.label]; !known {
				waiting = append(waiting, f)
			}
			reached[f.label] = true
		}
	}
	return reached
}

// isWithout reports whether neither a body nor any function that it calls contains a construct, which is told by a node and the
// variables that are visible there.
func (p program) isWithout(construct func(api.Node, []string) bool, start body) bool {
	for label := range p.reached(start) {
		for n, visible := range p.first[label].nodes() {
			if construct(n, visible) {
				return false
			}
		}
	}
	return true
}
