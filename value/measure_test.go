package value_test

import (
	"testing"

	"workflow/api"
	"workflow/value"
)

func TestRight(t *testing.T) { // P2.3
	for _, v := range payloads() {
		if !value.Right(v) {
			t.Errorf("Right(%v) = false", v)
		}
	}
	for _, v := range append(malformed(), beyond()...) {
		if value.Right(v) {
			t.Errorf("Right(%v) = true", v)
		}
	}
	for _, v := range []api.Value{
		future(0), list(future(0)), list(null(), list(future(5))), dict(keys("a", "b"), null(), future(1)),
	} {
		if value.Right(v) {
			t.Errorf("Right(%v) = true", v)
		}
	}
	if v := dict(keys("a"), null()); !value.Right(roomy(v)) {
		t.Error("Right looks beyond the length of a slice")
	}
	empty := api.Value{Items: []api.Value{}, Keys: []string{}}
	if !value.Right(empty) {
		t.Error("Right of a null with empty lists")
	}
}

func TestRightEndsEarly(t *testing.T) { // P2.3: 2 to the 60 nodes
	v := null()
	for range 60 {
		v = list(v, v)
	}
	if value.Right(v) {
		t.Error("Right of a very large value")
	}
	if _, e := value.Map(keys("k"), []api.Value{v}); e != api.ErrSize {
		t.Errorf("Map with a very large value: %v", e)
	}
}

// variants returns v and values that differ from v in one field.
func variants(v api.Value) []api.Value {
	kind, number, text, items, names, more := v, v, v, v, v, v
	kind.Kind++
	number.Int++
	text.Text += "x"
	items.Items = append(append([]api.Value{}, v.Items...), null())
	names.Keys = append(append([]string{}, v.Keys...), "")
	more.Items = append([]api.Value{value.Int(4)}, v.Items...)
	return []api.Value{v, kind, number, text, items, names, more}
}

func TestSame(t *testing.T) { // P2.3
	inner := api.Value{Kind: api.VMap, Int: 3, Text: "t", Keys: keys("a"), Items: []api.Value{value.Int(1), null()}}
	for _, v := range []api.Value{null(), value.Int(1), inner, list(inner), dict(keys("k"), inner, inner), {Kind: 99, Items: []api.Value{{}}}} {
		all := variants(v)
		for _, deep := range variants(inner)[1:] {
			all = append(all, list(list(deep)), api.Value{Kind: api.VInt, Items: []api.Value{null(), deep}})
		}
		for i := range all {
			for k := range all {
				if got := value.Same(all[i], value.Copy(all[k])); got != (i == k) {
					t.Errorf("Same(%v, %v) = %v", all[i], all[k], got)
				}
			}
		}
	}
}

func TestSameLists(t *testing.T) { // P2.3, R6, R10
	bare, empty := null(), api.Value{Items: []api.Value{}, Keys: []string{}}
	if !value.Same(bare, empty) || !value.Same(empty, bare) || !value.Same(list(bare), list(empty)) {
		t.Error("Same tells nil lists from empty ones")
	}
	if !value.Same(twig(), roomy(twig())) {
		t.Error("Same looks beyond the length of a slice")
	}
	if value.Same(dict(keys("a", "b"), null(), null()), dict(keys("b", "a"), null(), null())) {
		t.Error("Same ignores the order of the keys")
	}
	if value.Same(list(value.Int(1), value.Int(2)), list(value.Int(2), value.Int(1))) {
		t.Error("Same ignores the order of the items")
	}
}

func TestDepthAndSize(t *testing.T) { // P2.3
	for _, x := range []struct {
		v           api.Value
		depth, size int
	}{
		{null(), 1, 1}, {value.Text("abc"), 1, 1}, {list(), 1, 1}, {dict(nil), 1, 1}, {future(2), 1, 1}, {api.Value{Kind: 99}, 1, 1},
		{list(null()), 2, 2}, {list(null(), null(), null()), 2, 4}, {dict(keys("a", "b"), null(), null()), 2, 3},
		{list(list(), list(list(null())), null()), 4, 6},
		{list(list(list(null())), list(), null()), 4, 6},
		{api.Value{Kind: api.VInt, Items: []api.Value{{Kind: 50, Items: []api.Value{{}, {}}}}}, 3, 4},
		{api.Value{Kind: -5, Items: []api.Value{{}}}, 2, 2},
		{api.Value{Kind: api.VNull, Keys: keys("a", "b")}, 1, 1}, {dict(keys("a", "b")), 1, 1},
		{nested(16), 16, 16}, {nested(17), 17, 17}, {nested(60000), 60000, 60000},
		{wide(1000), 2, 1000}, {wide(1001), 2, 1001}, {wide(200000), 2, 200000},
		{twig(), 6, 20}, {roomy(twig()), 6, 20},
	} {
		if got := value.Depth(x.v); got != x.depth {
			t.Errorf("Depth of a value with %d nodes = %d, want %d", x.size, got, x.depth)
		}
		if got := value.Size(x.v); got != x.size {
			t.Errorf("Size of a value of depth %d = %d, want %d", x.depth, got, x.size)
		}
	}
}
