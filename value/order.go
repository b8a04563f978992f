package value

import (
	"cmp"
	"slices"

	"workflow/api"
)

// Order compares two values: -1, 0 or 1.
func Order(a, b api.Value) int {
	if !wellFormed(a) || !wellFormed(b) {
		return 0
	}
	return compare(a, b)
}

// compare is Order for well-formed values.
func compare(a, b api.Value) int {
	if a.Kind != b.Kind {
		return cmp.Compare(a.Kind, b.Kind)
	}
	switch a.Kind {
	case api.VBool, api.VInt, api.VFuture:
		return cmp.Compare(a.Int, b.Int)
	case api.VText:
		return cmp.Compare(a.Text, b.Text)
	case api.VList:
		return slices.CompareFunc(a.Items, b.Items, compare)
	case api.VMap:
		return comparePairs(a, b)
	}
	return 0
}

func comparePairs(a, b api.Value) int {
	for i := range min(len(a.Keys), len(b.Keys)) {
		if c := cmp.Compare(a.Keys[i], b.Keys[i]); c != 0 {
			return c
		}
		if c := compare(a.Items[i], b.Items[i]); c != 0 {
			return c
		}
	}
	return cmp.Compare(len(a.Keys), len(b.Keys))
}
