package walk

import (
	"sluiceway/api"
	"sluiceway/check"
)

// maker makes steps of a program's trees.
type maker struct {
	funcs   []function     // by their numbers
	numbers map[string]int // of functions
	places  map[string]int // of globals
}

// functions are those of a program, by their numbers.
func functions(src api.Source) []function {
	numbered := check.Numbers(src)
	m := maker{funcs: make([]function, len(numbered)), numbers: map[string]int{}, places: map[string]int{}}
	for k, g := range src.Globals {
		m.places[g.Name] = k
	}
	for k, f := range numbered {
		m.numbers[f.Name] = k
		for _, p := range f.Params {
			m.funcs[k].params = append(m.funcs[k].params, p.Name)
		}
	}
	for k, f := range numbered {
		m.funcs[k].body = row(m.stmts(f.Body), func(t *task) { t.leave(0) })
	}
	return m.funcs
}

// row is steps that are done one behind the other.
func row(steps ...step) step {
	return func(t *task) { t.first(steps...) }
}

// value puts a number.
func value(n int) step {
	return func(t *task) { t.put(n) }
}

// asking asks for something of the number that was put last.
func asking(what int, told answered) step {
	return func(t *task) { t.asks(api.Ask{What: what, N: t.take()}, told) }
}

// keep puts the number that was told.
func keep(t *task, a api.Answer) {
	t.put(a.N)
}

// pass goes on, whatever was told.
func pass(*task, api.Answer) {}
