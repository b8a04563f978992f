package scope

import "workflow/api"

// declared is what has been declared so far.
type declared struct {
	labels  map[string]bool // of functions and handlers, and the names of global variables
	globals int
	blocks  int // functions and handlers
}

// checkDeclarations returns the first error of declarations, apart from what is in their blocks.
func checkDeclarations(declarations ...api.Node) api.Errno {
	before := declared{labels: map[string]bool{}}
	for _, d := range declarations {
		if before.hasTwice(d) {
			return api.ErrTwice
		}
		if before.isFull(d) {
			return api.ErrSize
		}
		before.add(d)
	}
	return api.OK
}

// hasTwice reports whether a declaration has the name of another one or of a builtin function, or two parameters have the same
// name.
func (before declared) hasTwice(d api.Node) bool {
	name := label(d)
	return before.labels[name] || isBuiltin(name) || hasRepeats(parameters(d))
}

func hasRepeats(names []string) bool {
	met := map[string]bool{}
	for _, name := range names {
		met[name] = true
	}
	return len(met) < len(names)
}

// isFull reports whether a declaration exceeds a limit.
func (before declared) isFull(d api.Node) bool {
	if d.Op == api.DVar {
		return before.globals >= api.MaxGlobals
	}
	return before.blocks >= api.MaxFuncs || len(parameters(d)) > api.MaxParams || locals(d) > api.MaxSlots
}

func (before *declared) add(d api.Node) {
	before.labels[label(d)] = true
	if d.Op == api.DVar {
		before.globals++
	} else {
		before.blocks++
	}
}
