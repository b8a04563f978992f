package value

import (
	"slices"

	"workflow/api"
)

// Right reports whether v is a valid payload: no future, within MaxText, MaxDepth and MaxNodes.
func Right(v api.Value) bool {
	return withinLimits(v) && wellFormed(v) && !hasFuture(v)
}

// Same reports whether two values are equal.
func Same(a, b api.Value) bool {
	return a.Kind == b.Kind && a.Int == b.Int && a.Text == b.Text &&
		slices.Equal(a.Keys, b.Keys) && slices.EqualFunc(a.Items, b.Items, Same)
}

// Depth and Size return the nesting and the number of nodes.
func Depth(v api.Value) int {
	deepest := 0
	for _, item := range v.Items {
		deepest = max(deepest, Depth(item))
	}
	return deepest + 1
}

func Size(v api.Value) int {
	nodes := 1
	for _, item := range v.Items {
		nodes += Size(item)
	}
	return nodes
}

// wellFormed reports whether v and all values in it are what their kinds require.
func wellFormed(v api.Value) bool {
	if !fitsKind(v) {
		return false
	}
	for _, item := range v.Items {
		if !wellFormed(item) {
			return false
		}
	}
	return true
}

// fitsKind reports whether v is what its kind requires, apart from its items.
func fitsKind(v api.Value) bool {
	noInt, noText, noItems, noKeys := v.Int == 0, v.Text == "", len(v.Items) == 0, len(v.Keys) == 0
	switch v.Kind {
	case api.VNull:
		return noInt && noText && noItems && noKeys
	case api.VBool:
		return (noInt || v.Int == 1) && noText && noItems && noKeys
	case api.VInt:
		return noText && noItems && noKeys
	case api.VText:
		return noInt && noItems && noKeys
	case api.VList:
		return noInt && noText && noKeys
	case api.VMap:
		return noInt && noText && len(v.Items) == len(v.Keys) && ascending(v.Keys)
	case api.VFuture:
		return v.Int >= 0 && noText && noItems && noKeys
	}
	return false
}

func ascending(keys []string) bool {
	for i := 1; i < len(keys); i++ {
		if keys[i-1] >= keys[i] {
			return false
		}
	}
	return true
}

func hasFuture(v api.Value) bool {
	return v.Kind == api.VFuture || slices.ContainsFunc(v.Items, hasFuture)
}

// withinLimits reports whether v satisfies MaxText, MaxDepth and MaxNodes, whatever its kind.
func withinLimits(v api.Value) bool {
	nodes := api.MaxNodes
	return fits(v, api.MaxDepth, &nodes)
}

// fits reports whether v has at most the given depth, no string that is too long, and at most the given nodes, of which it
// takes those of v. It ends as soon as the answer is known, so its work does not depend on the size of v.
func fits(v api.Value, depth int, nodes *int) bool {
	if depth == 0 || *nodes == 0 || len(v.Text) > api.MaxText || slices.ContainsFunc(v.Keys, isLong) {
		return false
	}
	*nodes--
	for _, item := range v.Items {
		if !fits(item, depth-1, nodes) {
			return false
		}
	}
	return true
}

func isLong(s string) bool {
	return len(s) > api.MaxText
}
