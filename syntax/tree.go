package syntax

import (
	"slices"

	"workflow/api"
)

// Size, Depth and Same measure and compare trees.
func Size(n api.Node) int {
	size := 1
	for _, kid := range n.Kids {
		size += Size(kid)
	}
	return size
}

func Depth(n api.Node) int {
	depth := 0
	for _, kid := range n.Kids {
		depth = max(depth, Depth(kid))
	}
	return depth + 1
}

func Same(a, b api.Node) bool {
	return a.Op == b.Op && a.Name == b.Name && a.Int == b.Int && a.Text == b.Text && slices.EqualFunc(a.Kids, b.Kids, Same)
}
