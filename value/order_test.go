package value_test

import (
	"slices"
	"testing"

	"workflow/api"
	"workflow/value"
)

func TestOrder(t *testing.T) { // P2.4, P2.10: all pairs of kinds
	all := ordered()
	for i := range all {
		for k := range all {
			want := 0
			if i < k {
				want = -1
			} else if i > k {
				want = 1
			}
			if got := value.Order(all[i], value.Copy(all[k])); got != want {
				t.Errorf("Order(%v, %v) = %d, want %d", all[i], all[k], got, want)
			}
		}
	}
}

func TestOrderOfMalformed(t *testing.T) { // P2.4
	for _, bad := range malformed() {
		for _, v := range []api.Value{null(), value.Int(5), value.Text("b"), list(), dict(keys("z"), null()), future(9)} {
			if a, b := value.Order(bad, v), value.Order(v, bad); a != 0 || b != 0 {
				t.Errorf("Order of %v and %v: %d and %d", bad, v, a, b)
			}
		}
		if got := value.Order(bad, list(bad)); got != 0 {
			t.Errorf("Order of %v and a list of it: %d", bad, got)
		}
	}
	// What differs first would decide if the whole were well formed.
	if got := value.Order(list(value.Int(1), api.Value{Kind: 7}), list(value.Int(2), null())); got != 0 {
		t.Errorf("Order of lists with a malformed item behind: %d", got)
	}
}

func TestOrderIgnoresLimits(t *testing.T) { // P2.4
	for _, v := range beyond() {
		if a, b := value.Order(null(), v), value.Order(v, null()); a != -1 || b != 1 {
			t.Errorf("Order of null and a value beyond the limits: %d and %d", a, b)
		}
	}
	if got := value.Order(nested(40), nested(41)); got != -1 {
		t.Errorf("Order of deep lists: %d", got)
	}
	if got := value.Order(wide(3000), wide(2999)); got != 1 {
		t.Errorf("Order of long lists: %d", got)
	}
}

func TestOrderIgnoresRoom(t *testing.T) { // P2.4, R5, R6
	v := dict(keys("a"), value.Int(1))
	if value.Order(roomy(v), v) != 0 || value.Order(v, roomy(v)) != 0 {
		t.Error("Order looks beyond the length of a slice")
	}
	if value.Order(null(), api.Value{Items: []api.Value{}, Keys: []string{}}) != 0 {
		t.Error("Order tells nil lists from empty ones")
	}
}

// small returns well-formed values that are built from few parts in every way.
func small() []api.Value {
	atoms := []api.Value{null(), value.Bool(true), value.Int(-1), value.Int(3), value.Text(""), value.Text("k"), future(0)}
	out := slices.Clone(atoms)
	for _, a := range atoms {
		out = append(out, list(a), dict(keys("j"), a), dict(keys("k"), a))
		for _, b := range atoms {
			out = append(out, list(a, b), dict(keys("j", "k"), a, b), list(list(a), b), list(dict(keys("k"), a), b))
		}
	}
	return append(out, list(), dict(nil), list(list()), list(dict(nil)))
}

func TestOrderIsTotal(t *testing.T) { // P2.10
	all := small()
	slices.SortFunc(all, value.Order)
	for i, a := range all {
		for k, b := range all {
			want := min(max(i-k, -1), 1)
			if got := value.Order(a, b); got != want {
				t.Fatalf("Order(%v, %v) = %d, but their places are %d and %d", a, b, got, i, k)
			}
			if value.Same(a, b) != (i == k) {
				t.Fatalf("Same(%v, %v) = %v", a, b, i != k)
			}
		}
	}
}
