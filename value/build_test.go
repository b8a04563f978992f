package value_test

import (
	"reflect"
	"testing"

	"workflow/api"
	"workflow/value"
)

func TestConstructors(t *testing.T) { // P2.1
	for i, x := range []struct{ got, want api.Value }{
		{value.Null(), api.Value{}},
		{value.Bool(false), api.Value{Kind: api.VBool}},
		{value.Bool(true), api.Value{Kind: api.VBool, Int: 1}},
		{value.Int(0), api.Value{Kind: api.VInt}},
		{value.Int(least), api.Value{Kind: api.VInt, Int: least}},
		{value.Int(greatest), api.Value{Kind: api.VInt, Int: greatest}},
		{value.Text(""), api.Value{Kind: api.VText}},
		{value.Text("a\x00\xff"), api.Value{Kind: api.VText, Text: "a\x00\xff"}},
	} {
		if !reflect.DeepEqual(x.got, x.want) {
			t.Errorf("case %d: %v, want %v", i, x.got, x.want)
		}
	}
}

func TestList(t *testing.T) { // P2.1
	for _, items := range [][]api.Value{nil, {}, {value.Int(2)}, {value.Text("b"), null(), value.Text("a")}, {twig(), twig()}} {
		got := value.List(items)
		if got.Kind != api.VList || got.Int != 0 || got.Text != "" || len(got.Keys) != 0 || len(got.Items) != len(items) {
			t.Fatalf("List of %v: %v", items, got)
		}
		for i, item := range items {
			if !value.Same(got.Items[i], item) {
				t.Errorf("item %d of List: %v, want %v", i, got.Items[i], item)
			}
		}
		checkFresh(t, got, list(items...))
	}
	inner := twig()
	checkFresh(t, value.List([]api.Value{inner, inner}), inner)
}

func TestConstructorsCheckNothing(t *testing.T) { // P2.1, P2.2
	if got := value.Text(long(api.MaxText + 1)); got.Text != long(api.MaxText+1) {
		t.Error("Text of a long string")
	}
	for _, v := range append(malformed(), beyond()...) {
		if got := value.List([]api.Value{v}); !value.Same(got, list(v)) {
			t.Errorf("List of %v: %v", v, got)
		}
		if got := value.Failure("t", v); !value.Same(got, dict(keys("data", "type"), v, value.Text("t"))) {
			t.Errorf("Failure of %v: %v", v, got)
		}
	}
	if got := value.List(make([]api.Value, api.MaxNodes)); len(got.Items) != api.MaxNodes {
		t.Error("List of many items")
	}
	if got := value.Failure(long(api.MaxText+1), null()); got.Items[1].Text != long(api.MaxText+1) {
		t.Error("Failure of a long kind")
	}
}

func TestFailure(t *testing.T) { // P2.2
	data := twig()
	got := value.Failure("zero", data)
	if want := dict(keys("data", "type"), data, value.Text("zero")); !value.Same(got, want) {
		t.Errorf("Failure: %v, want %v", got, want)
	}
	checkFresh(t, got, data)
	checkFresh(t, value.Failure("zero", null()), value.Failure("zero", null()))
}

func TestMapSorts(t *testing.T) { // P2.2
	one, two, three := value.Int(1), value.Int(2), value.Int(3)
	for _, x := range []struct {
		keys  []string
		items []api.Value
		want  api.Value
	}{
		{nil, nil, dict(nil)},
		{keys(), []api.Value{}, dict(nil)},
		{nil, []api.Value{}, dict(nil)},
		{keys(""), []api.Value{one}, dict(keys(""), one)},
		{keys("b", "a"), []api.Value{one, two}, dict(keys("a", "b"), two, one)},
		{keys("a", "b"), []api.Value{one, two}, dict(keys("a", "b"), one, two)},
		{keys("c", "a", "b"), []api.Value{three, one, two}, dict(keys("a", "b", "c"), one, two, three)},
		{keys("a", "\xff", "B", ""), []api.Value{one, two, three, null()}, dict(keys("", "B", "a", "\xff"), null(), three, one, two)},
		{keys("ab", "a"), []api.Value{one, two}, dict(keys("a", "ab"), two, one)},
	} {
		got, e := value.Map(x.keys, x.items)
		if e != api.OK || !value.Same(got, x.want) {
			t.Errorf("Map(%q, %v) = %v, %v, want %v", x.keys, x.items, got, e, x.want)
		}
	}
}

func TestMapOfManyKeys(t *testing.T) { // P2.2: every order of the keys
	var ks []string
	var items []api.Value
	for i := range api.MaxNodes - 1 {
		n := i * 700 % 999 // 700 and 999 have no common divisor
		ks = append(ks, string([]byte{byte(n / 256), byte(n % 256)}))
		items = append(items, value.Int(n))
	}
	got, e := value.Map(ks, items)
	if e != api.OK || len(got.Keys) != 999 || len(got.Items) != 999 {
		t.Fatalf("Map of 999 keys: %v", e)
	}
	for n := range 999 {
		if got.Keys[n] != string([]byte{byte(n / 256), byte(n % 256)}) || got.Items[n].Int != n {
			t.Errorf("entry %d: %q, %v", n, got.Keys[n], got.Items[n])
		}
	}
}

func TestMapErrors(t *testing.T) { // P2.2
	tooLong := long(api.MaxText + 1)
	for i, x := range []struct {
		keys  []string
		items []api.Value
		want  api.Errno
	}{
		{keys("a"), nil, api.ErrSize},
		{nil, []api.Value{null()}, api.ErrSize},
		{keys("a", "a"), []api.Value{null()}, api.ErrSize},
		{keys("a"), []api.Value{null(), null()}, api.ErrSize},
		{keys("a", "a"), make([]api.Value, 2), api.ErrTwice},
		{keys("b", "a", "b"), make([]api.Value, 3), api.ErrTwice},
		{keys("", "a", ""), make([]api.Value, 3), api.ErrTwice},
		{keys(tooLong, tooLong), make([]api.Value, 2), api.ErrTwice},
		{keys("a", "a", "b"), []api.Value{null(), null(), nested(api.MaxDepth)}, api.ErrTwice},
		{make([]string, 2000), make([]api.Value, 2000), api.ErrTwice},
		{keys(tooLong), make([]api.Value, 1), api.ErrSize},
		{keys("a"), []api.Value{value.Text(tooLong)}, api.ErrSize},
		{keys("a"), []api.Value{list(value.Text(tooLong))}, api.ErrSize},
		{keys("a"), []api.Value{dict(keys(tooLong), null())}, api.ErrSize},
		{keys("a"), []api.Value{{Kind: api.VInt, Text: tooLong}}, api.ErrSize},
		{keys("a"), []api.Value{{Kind: api.VInt, Keys: keys("", tooLong)}}, api.ErrSize},
		{keys("a"), []api.Value{nested(api.MaxDepth)}, api.ErrSize},
		{keys("a"), []api.Value{wide(api.MaxNodes)}, api.ErrSize},
		{keys("a", "b"), []api.Value{wide(api.MaxNodes - 2), list(null())}, api.ErrSize},
	} {
		if got, e := value.Map(x.keys, x.items); e != x.want || !value.Same(got, null()) {
			t.Errorf("case %d: %v, want %v", i, e, x.want)
		}
	}
}

func TestMapAtLimits(t *testing.T) { // P2.2
	for i, x := range []struct {
		keys  []string
		items []api.Value
	}{
		{keys(long(api.MaxText)), []api.Value{null()}},
		{keys("a"), []api.Value{value.Text(long(api.MaxText))}},
		{keys("a"), []api.Value{nested(api.MaxDepth - 1)}},
		{keys("a"), []api.Value{wide(api.MaxNodes - 1)}},
		{keys("a", "b"), []api.Value{wide(api.MaxNodes - 2), null()}},
	} {
		if got, e := value.Map(x.keys, x.items); e != api.OK || !value.Same(got, dict(x.keys, x.items...)) {
			t.Errorf("case %d: %v", i, e)
		}
	}
	for _, v := range append(malformed(), future(3)) { // only the limits count
		if got, e := value.Map(keys("k"), []api.Value{v}); e != api.OK || !value.Same(got, dict(keys("k"), v)) {
			t.Errorf("Map of %v: %v, %v", v, got, e)
		}
	}
}

func TestMapMemory(t *testing.T) { // P2.2, R5
	ks, items := keys("b", "a"), []api.Value{twig(), twig()}
	got, _ := value.Map(ks, items)
	checkFresh(t, got, dict(ks, items...))
	if ks[0] != "b" || ks[1] != "a" || !value.Same(items[0], twig()) {
		t.Error("Map changes its arguments")
	}
	room := roomy(dict(ks, items...))
	got, e := value.Map(room.Keys, room.Items)
	if e != api.OK || len(got.Keys) != 2 {
		t.Errorf("Map of slices with room: %v, %v", got, e)
	}
	checkFresh(t, got, room)
	inner := twig()
	got, _ = value.Map(ks, []api.Value{inner, inner})
	checkFresh(t, got, inner)
}

func TestCopy(t *testing.T) { // P2.6
	for _, v := range append(append(ordered(), malformed()...), append(beyond(), twig(), roomy(twig()))...) {
		got := value.Copy(v)
		if !value.Same(got, v) {
			t.Errorf("Copy of %v: %v", v, got)
		}
		checkFresh(t, got, v)
	}
}
