package emit

import "sluiceway/api"

// inner writes statements that are a block.
func (w *writer) inner(stmts []api.Stmt) {
	w.block(func() { w.stmts(stmts) })
}

// stmts writes statements, one behind the other.
func (w *writer) stmts(stmts []api.Stmt) {
	for _, s := range stmts {
		w.stmt(s)
	}
}

// stmt writes a statement. Ahead of it and behind it nothing waits.
func (w *writer) stmt(s api.Stmt) {
	switch s.Code {
	case api.Let:
		// In its own value the name isn't there yet.
		kind := w.expr(s.Value)
		w.add(api.ISet, w.let(s.Name, kind))
	case api.Set:
		w.set(s)
	case api.Send:
		w.expr(s.To)
		w.of(s.Value, api.ISend)
	case api.Close:
		w.of(s.Value, api.IClose)
	case api.Print:
		w.of(s.Value, api.IPrint)
	case api.Sleep:
		w.of(s.Value, api.ISleep)
	case api.Go:
		w.fork(s.Value)
	case api.Return:
		w.giveBack(s.Value)
	case api.Break:
		w.breakOff()
	case api.Continue:
		w.add(api.IJump, w.inmost().again)
	case api.Do:
		w.drop(s.Value)
	case api.If:
		w.branch(s)
	case api.For:
		w.repeat(s)
	case api.Select:
		w.choose(s.Cases)
	}
}

// of writes a value, and an instruction that takes it.
func (w *writer) of(value *api.Expr, op int) {
	w.expr(value)
	w.add(op, 0)
}

// set writes that a name is something else from now on.
func (w *writer) set(s api.Stmt) {
	w.expr(s.Value)
	if local, found := w.local(s.Name); found {
		w.add(api.ISet, local)
		return
	}
	w.add(api.IStore, w.places[s.Name])
}

// fork writes that a task begins.
func (w *writer) fork(x *api.Expr) {
	if x.Code != api.Call {
		// Parse never tells this; and nothing says of what is in it that it is there.
		return
	}
	w.add(api.IGo, w.args(x))
}

// giveBack writes a return; x is what it answers, if there is any.
func (w *writer) giveBack(x *api.Expr) {
	if x != nil {
		w.expr(x)
	}
	w.add(api.IRet, 0)
}

// drop writes an expression of which nothing is left.
func (w *writer) drop(x *api.Expr) {
	if w.expr(x) != api.None {
		w.add(api.IPop, 0)
	}
}

// branch writes an if.
func (w *writer) branch(s api.Stmt) {
	w.expr(s.Value)
	isFalse := w.open(api.IFalse)
	w.inner(s.Then)
	if len(s.Else) == 0 {
		w.lead(isFalse)
		return
	}
	end := w.open(api.IJump)
	w.lead(isFalse)
	w.inner(s.Else)
	w.lead(end)
}

// repeat writes a loop.
func (w *writer) repeat(s api.Stmt) {
	again := w.next()
	w.expr(s.Value)
	isFalse := w.open(api.IFalse)
	w.loops = append(w.loops, loop{again: again, ends: []int{isFalse}})
	w.inner(s.Then)
	w.add(api.IJump, again)
	w.lead(w.inmost().ends...)
	w.loops = w.loops[:len(w.loops)-1]
}

// inmost is the innermost loop.
func (w *writer) inmost() *loop {
	return &w.loops[len(w.loops)-1]
}

// breakOff writes a break.
func (w *writer) breakOff() {
	end := w.open(api.IJump)
	l := w.inmost()
	l.ends = append(l.ends, end)
}

// choose writes a select: what its cases take, the cases, and what is done behind each.
func (w *writer) choose(cases []api.Case) {
	for _, c := range cases {
		w.takes(c)
	}
	w.add(api.ISelect, len(cases))
	first := w.next()
	for _, c := range cases {
		w.open(caseOp(c.Code))
	}
	var ends []int
	for k, c := range cases {
		w.lead(first + k)
		w.block(func() { w.body(c) })
		ends = append(ends, w.open(api.IJump))
	}
	w.lead(ends...)
}

// takes writes what a case sends, and where to, or from where it receives.
func (w *writer) takes(c api.Case) {
	if c.Code == api.Else {
		return
	}
	w.expr(c.To)
	if c.Code == api.Send {
		w.expr(c.Value)
	}
}

// caseOp is the instruction of a case.
func caseOp(code int) int {
	switch code {
	case api.Send:
		return api.ICaseSend
	case api.Else:
		return api.ICaseElse
	}
	return api.ICaseRecv
}

// body writes what is done behind a case; what was received waits ahead of it.
func (w *writer) body(c api.Case) {
	switch {
	case c.Name != "":
		w.add(api.ISet, w.let(c.Name, api.Int))
	case c.Code == api.Recv:
		w.add(api.IPop, 0)
	}
	w.stmts(c.Body)
}
