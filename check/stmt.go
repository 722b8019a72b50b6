package check

import "sluiceway/api"

// inner looks at statements that are a block.
func (l *looker) inner(stmts []api.Stmt) {
	l.block(func() { l.stmts(stmts) })
}

// stmts looks at statements, one behind the other.
func (l *looker) stmts(stmts []api.Stmt) {
	for _, s := range stmts {
		l.stmt(s)
	}
}

// stmt looks at a statement.
func (l *looker) stmt(s api.Stmt) {
	switch s.Code {
	case api.Let:
		l.begin(s)
	case api.Set:
		l.want(l.find(s.Name, s.At), s.Value)
	case api.Send:
		l.want(api.Chan, s.To)
		l.want(api.Int, s.Value)
	case api.Close:
		l.want(api.Chan, s.Value)
	case api.Print, api.Sleep:
		l.want(api.Int, s.Value)
	case api.Go, api.Do:
		l.expr(s.Value)
	case api.Return:
		l.giveBack(s)
	case api.Break, api.Continue:
		if l.loops == 0 {
			fail(api.ErrState, s.At)
		}
	case api.If:
		l.want(api.Bool, s.Value)
		l.inner(s.Then)
		l.inner(s.Else)
	case api.For:
		l.want(api.Bool, s.Value)
		l.loops++
		l.inner(s.Then)
		l.loops--
	case api.Select:
		l.choose(s.Cases)
	}
}

// begin looks at a name that is there from then on; in its own value it isn't there yet.
func (l *looker) begin(s api.Stmt) {
	kind := l.expr(s.Value)
	if kind == api.None {
		fail(api.ErrFalse, s.Value.At)
	}
	l.let(s.Name, kind, s.At)
}

// giveBack looks at a return.
func (l *looker) giveBack(s api.Stmt) {
	if (s.Value != nil) != (l.kind != api.None) {
		fail(api.ErrFalse, s.At)
	}
	if s.Value != nil {
		l.want(l.kind, s.Value)
	}
}

// choose looks at a select, case by case.
func (l *looker) choose(cases []api.Case) {
	other := false
	for _, c := range cases {
		if c.Code == api.Else {
			if other {
				fail(api.ErrTwice, c.At)
			}
			other = true
		} else {
			l.talk(c)
		}
		l.block(func() {
			if c.Name != "" {
				l.let(c.Name, api.Int, c.At)
			}
			l.stmts(c.Body)
		})
	}
}

// talk looks at what a case sends or receives.
func (l *looker) talk(c api.Case) {
	l.want(api.Chan, c.To)
	if c.Code == api.Send {
		l.want(api.Int, c.Value)
	}
}
