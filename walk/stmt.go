package walk

import (
	"slices"

	"sluiceway/api"
)

// stmts does statements, one behind the other.
func (m *maker) stmts(l []api.Stmt) step {
	var steps []step
	for _, s := range l {
		steps = append(steps, m.stmt(s))
	}
	return row(steps...)
}

// block does statements that are a block.
func (m *maker) block(l []api.Stmt) step {
	return row(open, m.stmts(l), shut)
}

// stmt does a statement. At its beginning and at its end no value of its function waits.
func (m *maker) stmt(s api.Stmt) step {
	switch s.Code {
	case api.Let:
		return row(m.expr(s.Value), let(s.Name))
	case api.Set:
		return row(m.expr(s.Value), m.set(s.Name))
	case api.Send:
		return row(m.expr(s.To), m.expr(s.Value), send)
	case api.Close:
		return row(m.expr(s.Value), asking(api.AskClose, pass))
	case api.Print:
		return row(m.expr(s.Value), asking(api.AskPrint, pass))
	case api.Sleep:
		return row(m.expr(s.Value), asking(api.AskSleep, pass))
	case api.Go:
		return m.fork(s.Value)
	case api.Return:
		return m.giveBack(s.Value)
	case api.Break:
		return end
	case api.Continue:
		return goRound
	case api.Do:
		return row(m.expr(s.Value), drop)
	case api.If:
		return m.branch(s)
	case api.For:
		return m.loop(s)
	case api.Select:
		return m.choose(s.Cases)
	}
	return row()
}

// let has a new name in the innermost block, for the value that was put last.
func let(name string) step {
	return func(t *task) { t.let(name, t.take()) }
}

// drop drops the value that was put last.
func drop(t *task) {
	t.take()
}

// set has the name that was let last, or else the global, be the value that was put last.
func (m *maker) set(name string) step {
	place := m.places[name]
	return func(t *task) {
		n := t.take()
		if names := t.names(name); names != nil {
			names[name] = n
			return
		}
		t.asks(api.Ask{What: api.AskStore, N: place, Args: []int{n}}, pass)
	}
}

// send sends the number that was put last into the channel that was put ahead of it.
func send(t *task) {
	both := t.takeAll(2)
	t.asks(api.Ask{What: api.AskTalk, Cases: []api.Talk{{What: api.Send, Chan: both[0], N: both[1]}}}, pass)
}

// fork lets a task begin.
func (m *maker) fork(x *api.Expr) step {
	if x.Code != api.Call {
		// Parse never tells this; and nothing says of what is in it that it is there.
		return row()
	}
	fn, count := m.numbers[x.Name], len(x.Args)
	return row(m.exprs(x.Args), func(t *task) {
		t.asks(api.Ask{What: api.AskGo, N: fn, Args: t.takeAll(count)}, pass)
	})
}

// giveBack ends the function; x is what it answers, if there is any.
func (m *maker) giveBack(x *api.Expr) step {
	is := value(0)
	if x != nil {
		is = m.expr(x)
	}
	return row(is, func(t *task) { t.leave(t.take()) })
}

// branch does what its value tells.
func (m *maker) branch(s api.Stmt) step {
	then, other := m.block(s.Then), m.block(s.Else)
	return row(m.expr(s.Value), func(t *task) {
		if t.take() == 1 {
			t.first(then)
			return
		}
		t.first(other)
	})
}

// loop does what is in it as long as its value tells.
func (m *maker) loop(s api.Stmt) step {
	is, then := m.expr(s.Value), m.block(s.Then)
	var again step
	again = row(is, func(t *task) {
		if t.take() == 1 {
			t.first(then, tick, again)
			return
		}
		end(t)
	})
	return func(t *task) { t.begin(again) }
}

// choose does one of several cases.
func (m *maker) choose(cases []api.Case) step {
	var parts, bodies []step
	var codes []int
	for _, c := range cases {
		parts = append(parts, m.talk(c))
		bodies = append(bodies, m.body(c))
		codes = append(codes, c.Code)
	}
	done := func(t *task, a api.Answer) {
		// Whoever tells of a case that isn't there tells that none was done.
		if a.Case >= 0 && a.Case < len(bodies) {
			t.put(a.N)
			t.first(bodies[a.Case])
		}
	}
	return row(row(parts...), func(t *task) {
		t.asks(api.Ask{What: api.AskTalk, Cases: t.talks(codes)}, done)
	})
}

// talk puts what a case sends, or from where it receives.
func (m *maker) talk(c api.Case) step {
	switch c.Code {
	case api.Else:
		return row()
	case api.Send:
		return row(m.expr(c.To), m.expr(c.Value))
	}
	return m.expr(c.To)
}

// talks are cases of such codes, of the values that were put for them, case by case.
func (t *task) talks(codes []int) []api.Talk {
	l := make([]api.Talk, len(codes))
	for k, code := range slices.Backward(codes) {
		l[k].What = code
		if code == api.Send {
			l[k].N = t.take()
		}
		if code != api.Else {
			l[k].Chan = t.take()
		}
	}
	return l
}

// body does what is in a case that was done; the number that was put last is what it received.
func (m *maker) body(c api.Case) step {
	received := step(drop)
	if c.Name != "" {
		received = let(c.Name)
	}
	return row(open, received, m.stmts(c.Body), shut)
}
