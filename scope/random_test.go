package scope_test

import (
	"math/rand"
	"slices"
	"testing"

	"workflow/api"
	"workflow/scope"
	"workflow/source"
	"workflow/syntax"
)

// eachProgram calls visit with random programs, among them all kinds from those without errors to those with many.
func eachProgram(seed int64, number int, visit func(api.Node)) {
	m := maker{r: rand.New(rand.NewSource(seed))}
	for i := range number {
		m.slips = []int{0, 300, 100, 30, 10, 3}[i%6]
		visit(m.program())
	}
}

// text returns the text of a program, for messages.
func text(n api.Node) string {
	s, _ := source.Print(n)
	return s
}

// compareDeclarations compares Funcs and Locals with the model.
func compareDeclarations(t *testing.T, m *model) {
	t.Helper()
	var names []string
	for i, d := range m.tree.Kids {
		if d.Op == api.DFunc {
			names = append(names, d.Name)
		}
		if got, want := scope.Locals(d), m.locals(i); got != want {
			t.Fatalf("Locals of %s = %d, want %d, for\n%s", d.Name, got, want, text(m.tree))
		}
	}
	if got := scope.Funcs(m.tree); !slices.Equal(got, names) {
		t.Fatalf("Funcs = %q, want %q, for\n%s", got, names, text(m.tree))
	}
}

// compareBodies compares Calls and Pure with the model, and returns how many bodies are pure and how many functions they call.
func compareBodies(t *testing.T, m *model) (pure, calls int) {
	t.Helper()
	for _, b := range m.bodies {
		b = m.find(b.label)
		want := m.calls(b)
		calls += len(want)
		if got := scope.Calls(m.tree, b.label); !slices.Equal(got, want) {
			t.Fatalf("Calls of %s = %q, want %q, for\n%s", b.label, got, want, text(m.tree))
		}
		wantPure := !m.contains(b, modelAction)
		if wantPure {
			pure++
		}
		if got := scope.Pure(m.tree, b.label); got != wantPure {
			t.Fatalf("Pure of %s = %t, for\n%s", b.label, got, text(m.tree))
		}
	}
	for _, label := range []string{"f9", "query", "update z", "len"} {
		if m.find(label) == nil && (scope.Pure(m.tree, label) || len(scope.Calls(m.tree, label)) > 0) {
			t.Fatalf("there is no body %s in\n%s", label, text(m.tree))
		}
	}
	return pure, calls
}

func TestRandomPrograms(t *testing.T) { // P10.1 to P10.6
	met := map[api.Errno]int{}
	pure, calls := 0, 0
	eachProgram(1, 12000, func(n api.Node) {
		m := newModel(n)
		before := show(n)
		want := m.check()
		met[want]++
		if got := scope.Check(n); got != want {
			t.Fatalf("Check = %d, want %d, for\n%s", got, want, text(n))
		}
		compareDeclarations(t, m)
		morePure, moreCalls := compareBodies(t, m)
		pure, calls = pure+morePure, calls+moreCalls
		if show(n) != before {
			t.Fatalf("the tree has changed: %s", short(before))
		}
	})
	for _, e := range []api.Errno{api.OK, api.ErrTwice, api.ErrNone, api.ErrArity, api.ErrName, api.ErrKind} {
		if met[e] < 300 {
			t.Errorf("%d programs with the error %d", met[e], e)
		}
	}
	if pure < 10000 || calls < 10000 {
		t.Errorf("%d bodies are pure, %d functions are called", pure, calls)
	}
}

func TestConsequences(t *testing.T) { // P10.7, P10.8
	right := 0
	eachProgram(2, 6000, func(n api.Node) {
		if scope.Check(n) != api.OK {
			return
		}
		right++
		names := scope.Funcs(n)
		sorted := slices.Sorted(slices.Values(names))
		if !slices.Contains(names, "main") || len(slices.Compact(sorted)) != len(names) {
			t.Errorf("Funcs = %q", names)
		}
		for _, b := range newModel(n).bodies {
			calls := scope.Calls(n, b.label)
			for _, g := range calls {
				if !slices.Contains(names, g) {
					t.Errorf("%s is called in\n%s", g, text(n))
				}
				for _, h := range scope.Calls(n, g) {
					if !slices.Contains(calls, h) {
						t.Errorf("%s calls %s, which calls %s, in\n%s", b.label, g, h, text(n))
					}
				}
			}
		}
		more := program(append(slices.Clone(n.Kids), named(api.DFunc, "another", block()))...)
		if !syntax.Right(more) {
			t.Errorf("no program any more:\n%s", text(n))
		} else if e := scope.Check(more); e != api.OK {
			t.Errorf("Check = %d with a function more than in\n%s", e, text(n))
		}
	})
	if right < 2000 {
		t.Errorf("%d programs are right", right)
	}
}

func TestResultsAreRepeated(t *testing.T) { // P10.1, P10.4, P10.5
	eachProgram(3, 100, func(n api.Node) {
		for _, label := range append(scope.Funcs(n), "query h", "update h", "check h", "signal h") {
			calls, pure, e := scope.Calls(n, label), scope.Pure(n, label), scope.Check(n)
			for range 5 {
				if !slices.Equal(scope.Calls(n, label), calls) || scope.Pure(n, label) != pure || scope.Check(n) != e {
					t.Errorf("%s has other results when asked again, in\n%s", label, text(n))
				}
			}
		}
	})
}
