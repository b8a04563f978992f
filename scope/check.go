package scope

import (
	"slices"

	"workflow/api"
)

// checker checks the bodies of a program whose declarations are right.
type checker struct {
	program
	globals  map[string]bool
	harmless map[string]bool // whether bodies are harmless, by label
}

func newChecker(n api.Node) checker {
	c := checker{newProgram(n), map[string]bool{}, map[string]bool{}}
	for _, d := range n.Kids {
		if d.Op == api.DVar {
			c.globals[d.Name] = true
		}
	}
	for _, b := range c.bodies {
		c.harmless[b.label] = c.isWithout(isImpure, b)
	}
	return c
}

// isImpure reports whether a node is an impure construct where the given variables are visible.
func isImpure(n api.Node, visible []string) bool {
	switch n.Op {
	case api.XAwait, api.XGo, api.SSelect, api.SSaga, api.SUndo:
		return true
	case api.SSet:
		return !slices.Contains(visible, n.Name)
	}
	return isAction(n, visible)
}

// isAction reports whether a node is a call of a builtin function that is not pure.
func isAction(n api.Node, _ []string) bool {
	if n.Op != api.XCall {
		return false
	}
	_, _, class := Arity(n.Name)
	return class > classPure
}

func (c checker) checkMain() api.Errno {
	main, found := c.first["main"]
	if !found {
		return api.ErrNone
	}
	if len(main.params) > 1 {
		return api.ErrArity
	}
	return api.OK
}

func (c checker) checkBodies() api.Errno {
	for _, b := range c.bodies {
		for n, visible := range b.nodes() {
			if e := c.checkNode(n, visible); e != api.OK {
				return e
			}
			if b.guarded && c.isHarmful(n, visible) {
				return api.ErrKind
			}
		}
	}
	return api.OK
}

// checkNode returns the error that a node has in all bodies.
func (c checker) checkNode(n api.Node, visible []string) api.Errno {
	switch n.Op {
	case api.XName, api.SSet:
		if !c.globals[n.Name] && !slices.Contains(visible, n.Name) {
			return api.ErrName
		}
	case api.SLet, api.STry, api.SCase:
		if slices.Contains(visible, n.Name) {
			return api.ErrTwice
		}
	case api.XMap:
		if hasRepeats(keys(n.Kids...)) {
			return api.ErrTwice
		}
	case api.XCall, api.XGo, api.SUndo:
		return c.checkCall(n)
	}
	return api.OK
}

func keys(pairs ...api.Node) []string {
	var list []string
	for _, pair := range pairs {
		list = append(list, pair.Text)
	}
	return list
}

func (c checker) checkCall(n api.Node) api.Errno {
	least, most, class := Arity(n.Name)
	if class != classNone && n.Op != api.XCall {
		return api.ErrKind
	}
	if class == classNone {
		f, found := c.callee(n)
		if !found {
			return api.ErrName
		}
		least, most = len(f.params), len(f.params)
	}
	if len(n.Kids) < least || len(n.Kids) > most {
		return api.ErrArity
	}
	return api.OK
}

// isHarmful reports whether a node is not permitted in a query or a check block.
func (c checker) isHarmful(n api.Node, visible []string) bool {
	f, found := c.callee(n)
	return isImpure(n, visible) || found && !c.harmless[f.label]
}
