package tree

import "sluiceway/api"

// stmt reads a statement, without its end.
func (r *reader) stmt() api.Stmt {
	s := api.Stmt{At: r.peek().At}
	switch r.peek().Text {
	case "close":
		r.skip()
		s.Code, s.Value = api.Close, r.bracketed(0)
	case "print":
		r.skip()
		s.Code, s.Value = api.Print, r.expr(0)
	case "sleep":
		r.skip()
		s.Code, s.Value = api.Sleep, r.expr(0)
	case "go":
		r.skip()
		s.Code, s.Value = api.Go, r.call(r.takeKind(api.Word), 0)
	case "return":
		r.giveBack(&s)
	case "break":
		r.skip()
		s.Code = api.Break
	case "continue":
		r.skip()
		s.Code = api.Continue
	case "if":
		r.choice(&s)
	case "for":
		r.skip()
		s.Code, s.Value = api.For, r.expr(0)
		s.Then = r.block()
	case "select":
		r.choose(&s)
	default:
		r.plain(&s)
	}
	return s
}

// giveBack reads return, and what is answered, if anything is.
func (r *reader) giveBack(s *api.Stmt) {
	r.take("return")
	s.Code = api.Return
	if r.peek().Kind != api.Line && !r.is("}") {
		s.Value = r.expr(0)
	}
}

// choice reads if, and else, if it is there.
func (r *reader) choice(s *api.Stmt) {
	r.take("if")
	s.Code, s.Value = api.If, r.expr(0)
	s.Then = r.block()
	if r.takeIf("else") {
		s.Else = r.block()
	}
}

// plain reads a statement that begins with no word of its own.
func (r *reader) plain(s *api.Stmt) {
	if r.peek().Kind == api.Word {
		switch r.ahead(1).Text {
		case ":=":
			r.put(s, api.Let)
			return
		case "=":
			r.put(s, api.Set)
			return
		}
	}
	x := r.one(0)
	switch {
	case r.takeIf("<-"):
		s.Code, s.To, s.Value = api.Send, x, r.expr(0)
	case x.Code == api.Call || x.Code == api.Recv:
		s.Code, s.Value = api.Do, x
	default:
		r.fail(api.ErrForm)
	}
}

// put reads NAME, a sign, and what the name is from then on.
func (r *reader) put(s *api.Stmt, code int) {
	s.Code, s.Name = code, r.takeKind(api.Word).Text
	r.skip()
	s.Value = r.expr(0)
}

// choose reads a select.
func (r *reader) choose(s *api.Stmt) {
	r.take("select")
	s.Code = api.Select
	r.within(func() {
		for !r.is("}") {
			// Behind a case nothing ends its statements but another one, and }: what comes next can't be of a wrong form, too.
			r.hasRoom(len(s.Cases), api.MaxCases)
			s.Cases = append(s.Cases, r.oneCase())
		}
	})
}

// oneCase reads a case, and what is done then.
func (r *reader) oneCase() api.Case {
	c := api.Case{At: r.peek().At}
	if r.takeIf("default") {
		c.Code = api.Else
	} else {
		r.take("case")
		r.talk(&c)
	}
	r.take(":")
	c.Body = r.stmts(func() bool { return r.is("}") || r.is("case") || r.is("default") })
	return c
}

// talk reads what a case sends or receives.
func (r *reader) talk(c *api.Case) {
	if r.peek().Kind == api.Word && r.ahead(1).Text == ":=" {
		c.Code, c.Name = api.Recv, r.takeKind(api.Word).Text
		r.skip()
		r.take("<-")
		c.To = r.one(0)
		return
	}
	x := r.one(0)
	switch {
	case r.takeIf("<-"):
		c.Code, c.To, c.Value = api.Send, x, r.expr(0)
	case x.Code == api.Recv:
		c.Code, c.To = api.Recv, x.Left
	default:
		r.fail(api.ErrForm)
	}
}
