package scope

import (
	"iter"
	"slices"

	"workflow/api"
)

// nodes returns the nodes of a body in the order in which they are checked, each one with the variables that are visible where
// it is checked, the innermost ones last. A node that declares a variable is checked before the variable becomes visible, and a
// block where it ends.
func (b body) nodes() iter.Seq2[api.Node, []string] {
	return func(yield func(api.Node, []string) bool) {
		w := walk{slices.Clone(b.params), yield}
		w.each(b.block)
	}
}

// walk hands nodes to yield. Its methods return false as soon as yield does.
type walk struct {
	visible []string
	yield   func(api.Node, []string) bool
}

func (w *walk) each(nodes ...api.Node) bool {
	for _, n := range nodes {
		if !w.node(n) {
			return false
		}
	}
	return true
}

func (w *walk) node(n api.Node) bool {
	outside := len(w.visible)
	switch n.Op {
	case api.SLet:
		goOn := w.each(n.Kids...) && w.yield(n, w.visible)
		w.visible = append(w.visible, n.Name)
		return goOn
	case api.STry, api.SCase:
		goOn := w.node(n.Kids[0]) && w.yield(n, w.visible)
		if n.Name != "" {
			w.visible = append(w.visible, n.Name)
		}
		goOn = goOn && w.node(n.Kids[1])
		w.visible = w.visible[:outside]
		return goOn
	case api.SBlock:
		goOn := w.each(n.Kids...) && w.yield(n, w.visible)
		w.visible = w.visible[:outside]
		return goOn
	}
	return w.each(n.Kids...) && w.yield(n, w.visible)
}
