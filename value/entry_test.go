package value_test

import (
	"testing"

	"workflow/api"
	"workflow/value"
)

// notMaps returns values on which Get, Put and Drop have nothing to work.
func notMaps() []api.Value {
	out := append(malformed(), beyond()[:3]...)
	return append(out, null(), value.Bool(true), value.Int(1), value.Text("a"), list(), list(null()), future(0))
}

func letters() api.Value {
	return dict(keys("", "b", "bb", "d"), value.Int(1), list(value.Int(2)), null(), value.Text("x"))
}

func TestGet(t *testing.T) { // P2.5
	m := letters()
	for i, key := range m.Keys {
		if got, ok := value.Get(m, key); !ok || !value.Same(got, m.Items[i]) {
			t.Errorf("Get of %q: %v, %v", key, got, ok)
		}
	}
	for _, key := range []string{"a", "B", "b ", "bbb", "c", "e", "\x00", "data"} {
		if got, ok := value.Get(m, key); ok || !value.Same(got, null()) {
			t.Errorf("Get of %q: %v, %v", key, got, ok)
		}
	}
	if got, ok := value.Get(dict(nil), ""); ok || !value.Same(got, null()) {
		t.Errorf("Get on an empty map: %v, %v", got, ok)
	}
	for _, v := range notMaps() {
		for _, key := range []string{"", "a", "b", "c", "k"} {
			if got, ok := value.Get(v, key); ok || !value.Same(got, null()) {
				t.Errorf("Get of %q on %v: %v, %v", key, v, got, ok)
			}
		}
	}
}

func TestGetBeyondLimits(t *testing.T) { // P2.5: only the form of the map counts
	key, deep := long(api.MaxText+1), nested(api.MaxDepth+1)
	if got, ok := value.Get(dict(keys("a", key), null(), deep), key); !ok || !value.Same(got, deep) {
		t.Errorf("Get of a long key: %v, %v", got, ok)
	}
	if got, ok := value.Get(roomy(dict(keys("a"), null())), "m"); ok {
		t.Errorf("Get looks beyond the length of a slice: %v", got)
	}
}

func TestGetMemory(t *testing.T) { // P2.5, R5
	m := twig()
	a, _ := value.Get(m, "c")
	b, _ := value.Get(m, "c")
	checkFresh(t, a, m, b)
}

func TestPut(t *testing.T) { // P2.5
	x := list(value.Int(7))
	for _, at := range []struct {
		key  string
		want api.Value
	}{
		{"", dict(keys("", "b", "bb", "d"), x, list(value.Int(2)), null(), value.Text("x"))},
		{"bb", dict(keys("", "b", "bb", "d"), value.Int(1), list(value.Int(2)), x, value.Text("x"))},
		{"d", dict(keys("", "b", "bb", "d"), value.Int(1), list(value.Int(2)), null(), x)},
		{"a", dict(keys("", "a", "b", "bb", "d"), value.Int(1), x, list(value.Int(2)), null(), value.Text("x"))},
		{"ba", dict(keys("", "b", "ba", "bb", "d"), value.Int(1), list(value.Int(2)), x, null(), value.Text("x"))},
		{"e", dict(keys("", "b", "bb", "d", "e"), value.Int(1), list(value.Int(2)), null(), value.Text("x"), x)},
	} {
		if got, e := value.Put(letters(), at.key, x); e != api.OK || !value.Same(got, at.want) {
			t.Errorf("Put of %q: %v, %v, want %v", at.key, got, e, at.want)
		}
	}
	if got, e := value.Put(dict(keys("b"), null()), "", x); e != api.OK || !value.Same(got, dict(keys("", "b"), x, null())) {
		t.Errorf("Put of the first key: %v, %v", got, e)
	}
	if got, e := value.Put(dict(nil), "k", null()); e != api.OK || !value.Same(got, dict(keys("k"), null())) {
		t.Errorf("Put on an empty map: %v, %v", got, e)
	}
}

func TestPutErrors(t *testing.T) { // P2.5
	tooLong := long(api.MaxText + 1)
	for _, v := range notMaps() {
		for _, x := range []api.Value{null(), nested(api.MaxDepth)} {
			if got, e := value.Put(v, tooLong, x); e != api.ErrType || !value.Same(got, null()) {
				t.Errorf("Put on %v: %v, %v", v, got, e)
			}
		}
	}
	full, _ := value.Put(dict(keys("a"), wide(api.MaxNodes-2)), "b", null())
	for i, x := range []struct {
		v   api.Value
		key string
		x   api.Value
	}{
		{dict(nil), tooLong, null()},
		{dict(nil), "a", value.Text(tooLong)},
		{dict(nil), "a", dict(keys(tooLong), null())},
		{dict(nil), "a", nested(api.MaxDepth)},
		{dict(nil), "a", wide(api.MaxNodes)},
		{full, "c", null()},
		{full, "b", list(null())},
		{full, "b", api.Value{Kind: 7, Items: make([]api.Value, 1)}},
		{dict(keys("a"), nested(api.MaxDepth)), "b", null()},
		{dict(keys(tooLong), null()), "b", null()},
		{dict(keys(tooLong), null()), tooLong, null()},
	} {
		if got, e := value.Put(x.v, x.key, x.x); e != api.ErrSize || !value.Same(got, null()) {
			t.Errorf("case %d: %v", i, e)
		}
	}
}

func TestPutAtLimits(t *testing.T) { // P2.5: the result counts, not v
	for i, x := range []struct {
		v    api.Value
		key  string
		x    api.Value
		want api.Value
	}{
		{dict(nil), long(api.MaxText), null(), dict(keys(long(api.MaxText)), null())},
		{dict(nil), "a", nested(api.MaxDepth - 1), dict(keys("a"), nested(api.MaxDepth-1))},
		{dict(nil), "a", wide(api.MaxNodes - 1), dict(keys("a"), wide(api.MaxNodes-1))},
		{dict(keys("a"), wide(api.MaxNodes-2)), "b", null(), dict(keys("a", "b"), wide(api.MaxNodes-2), null())},
		{dict(keys("a"), wide(5000)), "a", null(), dict(keys("a"), null())},
		{dict(keys("a"), nested(50)), "a", value.Text(long(api.MaxText)), dict(keys("a"), value.Text(long(api.MaxText)))},
	} {
		if got, e := value.Put(x.v, x.key, x.x); e != api.OK || !value.Same(got, x.want) {
			t.Errorf("case %d: %v", i, e)
		}
	}
	for _, x := range append(malformed(), future(3)) { // nothing is required of x but the limits
		if got, e := value.Put(dict(keys("j"), null()), "k", x); e != api.OK || !value.Same(got, dict(keys("j", "k"), null(), x)) {
			t.Errorf("Put of %v: %v, %v", x, got, e)
		}
	}
}

func TestPutMemory(t *testing.T) { // P2.5, R5
	for _, key := range []string{"", "a", "b", "bb", "d"} {
		for _, m := range []api.Value{twig(), roomy(twig())} {
			x := twig()
			got, e := value.Put(m, key, x)
			if e != api.OK {
				t.Errorf("Put of %q: %v", key, e)
			}
			checkFresh(t, got, m, x)
			if !value.Same(m, twig()) || !value.Same(x, twig()) {
				t.Errorf("Put of %q changes its arguments", key)
			}
			if room := m.Items[:cap(m.Items)]; cap(m.Items) > 3 && (room[3].Int != 77 || m.Keys[:4][3] != "m") {
				t.Errorf("Put of %q writes beyond the length of a slice", key)
			}
		}
	}
	m := twig()
	got, _ := value.Put(m, "z", m)
	checkFresh(t, got, m)
}

func TestPutThenGet(t *testing.T) { // P2.10
	for _, m := range []api.Value{dict(nil), letters(), dict(keys("c"), null())} {
		for _, key := range []string{"", "a", "b", "ba", "bb", "c", "d", "e"} {
			for _, x := range []api.Value{null(), value.Int(8), twig()} {
				n, _ := value.Put(m, key, x)
				if got, ok := value.Get(n, key); !ok || !value.Same(got, x) {
					t.Errorf("Get after Put of %q: %v, %v", key, got, ok)
				}
				for _, other := range []string{"", "a", "b", "ba", "bb", "c", "d", "e"} {
					before, had := value.Get(m, other)
					after, has := value.Get(n, other)
					if other != key && (had != has || !value.Same(before, after)) {
						t.Errorf("Put of %q changes the item of %q: %v", key, other, after)
					}
				}
			}
		}
	}
}

func TestDrop(t *testing.T) { // P2.5
	for _, x := range []struct {
		key  string
		want api.Value
	}{
		{"", dict(keys("b", "bb", "d"), list(value.Int(2)), null(), value.Text("x"))},
		{"b", dict(keys("", "bb", "d"), value.Int(1), null(), value.Text("x"))},
		{"d", dict(keys("", "b", "bb"), value.Int(1), list(value.Int(2)), null())},
	} {
		if got, e := value.Drop(letters(), x.key); e != api.OK || !value.Same(got, x.want) {
			t.Errorf("Drop of %q: %v, %v, want %v", x.key, got, e, x.want)
		}
	}
	if got, e := value.Drop(dict(keys("a"), null()), "a"); e != api.OK || !value.Same(got, dict(nil)) {
		t.Errorf("Drop of the only key: %v, %v", got, e)
	}
	big := dict(keys("a", "b"), wide(5000), nested(30)) // Drop does not check the limits
	if got, e := value.Drop(big, "b"); e != api.OK || !value.Same(got, dict(keys("a"), wide(5000))) {
		t.Errorf("Drop from a map beyond the limits: %v", e)
	}
}

func TestDropErrors(t *testing.T) { // P2.5
	for _, v := range notMaps() {
		for _, key := range []string{"", "a", "b", "k", "none"} {
			if got, e := value.Drop(v, key); e != api.ErrType || !value.Same(got, null()) {
				t.Errorf("Drop of %q from %v: %v, %v", key, v, got, e)
			}
		}
	}
	for _, key := range []string{"a", "bbb", "c", "e", long(api.MaxText + 1)} {
		for _, m := range []api.Value{letters(), dict(nil), roomy(dict(keys("b"), null()))} {
			if got, e := value.Drop(m, key); e != api.ErrNone || !value.Same(got, null()) {
				t.Errorf("Drop of a missing key: %v, %v", got, e)
			}
		}
	}
}

func TestDropMemory(t *testing.T) { // P2.5, R5
	for _, key := range []string{"a", "b", "c"} {
		m := roomy(twig())
		got, e := value.Drop(m, key)
		if e != api.OK || !value.Same(m, twig()) {
			t.Errorf("Drop of %q changes its argument: %v, %v", key, m, e)
		}
		checkFresh(t, got, m)
	}
}
