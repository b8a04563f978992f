package value_test

import (
	"strings"
	"testing"

	"workflow/api"
	"workflow/value"
)

const (
	least    = -1 << 63
	greatest = 1<<63 - 1
)

func null() api.Value {
	return api.Value{}
}

func future(n int) api.Value {
	return api.Value{Kind: api.VFuture, Int: n}
}

func list(items ...api.Value) api.Value {
	return api.Value{Kind: api.VList, Items: items}
}

// dict returns a map without any check, so that it may be malformed.
func dict(keys []string, items ...api.Value) api.Value {
	return api.Value{Kind: api.VMap, Keys: keys, Items: items}
}

func keys(list ...string) []string {
	return list
}

// nested returns lists in lists, with a null in the innermost one; its depth is n.
func nested(n int) api.Value {
	v := null()
	for range n - 1 {
		v = list(v)
	}
	return v
}

// wide returns a list with n nodes.
func wide(n int) api.Value {
	return list(make([]api.Value, n-1)...)
}

func long(n int) string {
	return strings.Repeat("x", n)
}

// ordered returns well-formed values, each of which precedes the next one.
func ordered() []api.Value {
	one, two := value.Int(1), value.Int(2)
	return []api.Value{
		null(),
		value.Bool(false), value.Bool(true),
		value.Int(least), value.Int(-2), value.Int(-1), value.Int(0), value.Int(9), value.Int(10), value.Int(greatest),
		value.Text(""), value.Text("\x00"), value.Text("B"), value.Text("a"), value.Text("aa"), value.Text("b"),
		value.Text("\xc3\xa9"), value.Text("\xff"),
		list(), list(null()), list(null(), null()), list(one), list(one, null()), list(one, two), list(two), list(two, null()),
		list(value.Text("")), list(list()), list(list(null())), list(dict(nil)), list(future(0)),
		dict(nil),
		dict(keys(""), null()), dict(keys("", "z"), null(), null()), dict(keys(""), two),
		dict(keys("a"), one), dict(keys("a", "b"), one, one), dict(keys("a", "b"), one, two), dict(keys("a", "c"), one, null()),
		dict(keys("a"), two), dict(keys("a", "b"), two, null()), dict(keys("a"), dict(keys("a"), one)),
		dict(keys("b"), one), dict(keys("b"), list(one)),
		future(0), future(1), future(greatest),
	}
}

// malformedLeaves returns values that break one condition each.
func malformedLeaves() []api.Value {
	some := []api.Value{{}}
	return []api.Value{
		{Kind: -1}, {Kind: 7}, {Kind: least}, {Kind: greatest},
		{Int: 1}, {Text: "x"}, {Items: some}, {Keys: keys("k")}, {Items: some, Keys: keys("k")},
		{Kind: api.VBool, Int: 2}, {Kind: api.VBool, Int: -1}, {Kind: api.VBool, Int: 1, Text: "x"},
		{Kind: api.VBool, Items: some}, {Kind: api.VBool, Keys: keys("")},
		{Kind: api.VInt, Text: "x"}, {Kind: api.VInt, Int: 5, Items: some}, {Kind: api.VInt, Keys: keys("")},
		{Kind: api.VText, Text: "x", Int: 1}, {Kind: api.VText, Items: some}, {Kind: api.VText, Keys: keys("")},
		{Kind: api.VList, Int: 1}, {Kind: api.VList, Text: "x"}, {Kind: api.VList, Items: some, Keys: keys("k")},
		{Kind: api.VList, Keys: keys("k")},
		{Kind: api.VFuture, Int: -1}, {Kind: api.VFuture, Text: "x"}, {Kind: api.VFuture, Items: some},
		{Kind: api.VFuture, Keys: keys("")},
	}
}

// malformedMaps returns maps that break one condition each.
func malformedMaps() []api.Value {
	one := value.Int(1)
	return []api.Value{
		{Kind: api.VMap, Keys: keys("a"), Items: []api.Value{one}, Int: 1},
		{Kind: api.VMap, Keys: keys("a"), Items: []api.Value{one}, Text: "x"},
		dict(keys("a", "a"), one, one), dict(keys("b", "a"), one, one), dict(keys("a", "c", "b"), one, one, one),
		dict(keys("a", "b", "b"), one, one, one),
		dict(keys("a")), dict(keys("a", "b"), one), dict(nil, one), dict(keys("a"), one, one),
		dict(keys("a"), api.Value{Kind: 7}), dict(keys("a", "b"), one, list(one, api.Value{Kind: api.VBool, Int: 2})),
	}
}

// malformed returns values that are not well formed, alone and inside of lists and maps.
func malformed() []api.Value {
	out := append(malformedLeaves(), malformedMaps()...)
	for _, v := range out {
		out = append(out, list(v), list(null(), list(v)), dict(keys("k"), v))
	}
	return out
}

// payloads returns values that are valid payloads, those at the limits among them.
func payloads() []api.Value {
	out := []api.Value{
		nested(api.MaxDepth), wide(api.MaxNodes), value.Text(long(api.MaxText)),
		dict(keys(long(api.MaxText)), null()),
	}
	for _, v := range ordered() {
		if !containsFuture(v) {
			out = append(out, v)
		}
	}
	return out
}

func containsFuture(v api.Value) bool {
	for _, item := range v.Items {
		if containsFuture(item) {
			return true
		}
	}
	return v.Kind == api.VFuture
}

// beyond returns well-formed values that are not within the limits, each by one step.
func beyond() []api.Value {
	return []api.Value{
		nested(api.MaxDepth + 1), wide(api.MaxNodes + 1), value.Text(long(api.MaxText + 1)),
		dict(keys(long(api.MaxText+1)), null()),
		list(null(), value.Text(long(api.MaxText+1))),
		dict(keys("a", "b"), null(), dict(keys(long(api.MaxText+1)), null())),
		list(wide(api.MaxNodes-1), null()),
	}
}

// places returns the addresses of all elements of the slices in v, those between length and capacity among them.
func places(v api.Value) []any {
	var out []any
	for i := range v.Items[:cap(v.Items)] {
		out = append(out, &v.Items[:cap(v.Items)][i])
	}
	for i := range v.Keys[:cap(v.Keys)] {
		out = append(out, &v.Keys[:cap(v.Keys)][i])
	}
	for _, item := range v.Items {
		out = append(out, places(item)...)
	}
	return out
}

// checkFresh tests that no two slices of got share memory, and that none shares memory with an argument.
func checkFresh(t *testing.T, got api.Value, args ...api.Value) {
	t.Helper()
	taken := map[any]bool{}
	for _, arg := range args {
		for _, p := range places(arg) {
			taken[p] = true
		}
	}
	for _, p := range places(got) {
		if taken[p] {
			t.Errorf("the result %v shares memory", got)
			return
		}
		taken[p] = true
	}
}

// twig returns a value with slices on every level, some of which it contains twice.
func twig() api.Value {
	inner := list(value.Int(1), dict(keys("k"), list(value.Text("x"))))
	return dict(keys("a", "b", "c"), inner, inner, list(inner, inner.Items[1]))
}

// roomy returns v with other elements between the length and the capacity of its slices.
func roomy(v api.Value) api.Value {
	v.Items = append(append([]api.Value{}, v.Items...), value.Int(77), value.Int(78))[:len(v.Items)]
	v.Keys = append(append([]string{}, v.Keys...), "m", "n")[:len(v.Keys)]
	return v
}
