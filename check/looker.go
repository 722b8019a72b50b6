package check

import (
	"slices"

	"sluiceway/api"
)

// looker is a program that is being looked at: its functions, the names that are there, with their kinds, block by block (the globals' comes first), and of the function that is looked at what it answers, how many names were let in it, and in how many loops the statement lies.
type looker struct {
	funcs  map[string]api.Func
	blocks []map[string]int
	kind   int
	lets   int
	loops  int
}

// block looks at what lies in a block: its names are there up to its end.
func (l *looker) block(inside func()) {
	l.blocks = append(l.blocks, map[string]int{})
	inside()
	l.blocks = l.blocks[:len(l.blocks)-1]
}

// here are the names of the innermost block.
func (l *looker) here() map[string]int {
	return l.blocks[len(l.blocks)-1]
}

// isNew throws, if the innermost block has such a name.
func (l *looker) isNew(name string, place int) {
	if _, found := l.here()[name]; found {
		fail(api.ErrTwice, place)
	}
}

// put has a name, of a kind, in the innermost block.
func (l *looker) put(name string, kind int) {
	l.here()[name] = kind
}

// let has a name, of a kind, in the innermost block, if it may be there: each counts, even where its block has ended.
func (l *looker) let(name string, kind, place int) {
	l.isNew(name, place)
	if l.lets >= api.MaxVars {
		fail(api.ErrLimit, place)
	}
	l.lets++
	l.put(name, kind)
}

// find is the kind of a name that must be there: the innermost block's hides those of the others.
func (l *looker) find(name string, place int) int {
	for _, names := range slices.Backward(l.blocks) {
		if kind, found := names[name]; found {
			return kind
		}
	}
	fail(api.ErrName, place)
	return api.None
}

// function looks at a function: its parameters are names of its block.
func (l *looker) function(f api.Func) {
	l.kind, l.lets = f.Kind, 0
	l.block(func() {
		for _, p := range f.Params {
			l.let(p.Name, p.Kind, p.At)
		}
		l.stmts(f.Body)
	})
}
