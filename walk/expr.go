package walk

import (
	"sluiceway/api"
	"sluiceway/arith"
)

// expr puts what an expression is, and nothing else.
func (m *maker) expr(x *api.Expr) step {
	switch x.Code {
	case api.Num, api.True:
		return value(x.N)
	case api.Name:
		return m.name(x.Name)
	case api.Bin:
		return m.bin(x)
	case api.Un:
		op := x.Op
		return row(m.expr(x.Left), func(t *task) { t.put(arith.Un(op, t.take())) })
	case api.Call:
		return m.call(x)
	case api.Make:
		return row(m.expr(x.Left), asking(api.AskMake, keep))
	case api.Len:
		return row(m.expr(x.Left), asking(api.AskLen, keep))
	case api.Recv:
		return row(m.expr(x.Left), receive)
	}
	return value(0)
}

// exprs puts what expressions are, one behind the other.
func (m *maker) exprs(l []*api.Expr) step {
	var steps []step
	for _, x := range l {
		steps = append(steps, m.expr(x))
	}
	return row(steps...)
}

// name puts what a name is: the one that was let last, or the global.
func (m *maker) name(name string) step {
	place := m.places[name]
	return func(t *task) {
		if names := t.names(name); names != nil {
			t.put(names[name])
			return
		}
		t.asks(api.Ask{What: api.AskLoad, N: place}, keep)
	}
}

// bin puts what an op makes of both its parts.
func (m *maker) bin(x *api.Expr) step {
	left, right, op := m.expr(x.Left), m.expr(x.Right), x.Op
	switch op {
	case api.AndAnd:
		return unless(0, left, right)
	case api.OrOr:
		return unless(1, left, right)
	}
	return row(left, right, func(t *task) {
		both := t.takeAll(2)
		n, way := arith.Bin(op, both[0], both[1])
		if way != api.Going {
			t.fault(way)
			return
		}
		t.put(n)
	})
}

// unless puts what the left part is, if that is n; else the right one is reckoned.
func unless(n int, left, right step) step {
	return row(left, func(t *task) {
		if is := t.take(); is == n {
			t.put(n)
			return
		}
		t.first(right)
	})
}

// fault asks for the end of all.
func (t *task) fault(way int) {
	t.asks(api.Ask{What: api.AskFault, N: way}, nil)
}

// call puts what a function answers.
func (m *maker) call(x *api.Expr) step {
	f, count := &m.funcs[m.numbers[x.Name]], len(x.Args)
	return row(m.exprs(x.Args), tick, func(t *task) {
		if len(t.calls) >= api.MaxCalls {
			t.fault(api.Deep)
			return
		}
		t.enter(f, t.takeAll(count))
	})
}

// receive puts the number that is received from the channel that was put last.
func receive(t *task) {
	t.asks(api.Ask{What: api.AskTalk, Cases: []api.Talk{{What: api.Recv, Chan: t.take()}}}, keep)
}
