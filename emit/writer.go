package emit

import (
	"slices"

	"sluiceway/api"
)

// writer writes a function's instructions. It has the names that are there, with their locals, block by block, and the loops in which it is; the innermost ones come last.
type writer struct {
	heads
	fn     api.Fn
	blocks []map[string]int
	loops  []loop
}

// loop is a For that is being written: the instruction at which its value begins, and those that lead behind it.
type loop struct {
	again int
	ends  []int
}

// function writes a function.
func (w *writer) function(f api.Func) {
	w.fn.Params, w.fn.Kind = len(f.Params), f.Kind
	w.block(func() {
		for _, p := range f.Params {
			w.let(p.Name, p.Kind)
		}
		w.stmts(f.Body)
	})
	w.end()
}

// end writes a function's end: what it answers there, if it answers anything.
func (w *writer) end() {
	switch w.fn.Kind {
	case api.Int:
		w.add(api.IPush, 0)
	case api.Bool:
		w.add(api.IBool, 0)
	case api.Chan:
		w.add(api.INil, 0)
	}
	w.add(api.IRet, 0)
}

// block writes what lies in a block: its names are there up to its end.
func (w *writer) block(inside func()) {
	w.blocks = append(w.blocks, map[string]int{})
	inside()
	w.blocks = w.blocks[:len(w.blocks)-1]
}

// let has a new name in the innermost block, and tells its local: each name has one of its own, even where its block has ended.
func (w *writer) let(name string, kind int) int {
	local := len(w.fn.Locals)
	w.fn.Locals = append(w.fn.Locals, kind)
	w.blocks[len(w.blocks)-1][name] = local
	return local
}

// local is that of the name that was let last, if any is there; else it is a global's name.
func (w *writer) local(name string) (local int, found bool) {
	for _, names := range slices.Backward(w.blocks) {
		if local, found = names[name]; found {
			return local, true
		}
	}
	return 0, false
}

// next is the place of the instruction that is written next.
func (w *writer) next() int {
	return len(w.fn.Code)
}

// add writes an instruction, and tells its place.
func (w *writer) add(op, n int) int {
	at := w.next()
	w.fn.Code = append(w.fn.Code, api.Ins{Op: op, N: n})
	return at
}

// open writes an instruction of which it isn't known yet where it leads, and tells its place.
func (w *writer) open(op int) int {
	return w.add(op, 0)
}

// lead lets instructions lead to the one that is written next.
func (w *writer) lead(places ...int) {
	for _, at := range places {
		w.fn.Code[at].N = w.next()
	}
}
