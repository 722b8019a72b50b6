package verify

import (
	"slices"

	"sluiceway/api"
	"sluiceway/arith"
)

// instruction looks at one: what it takes and puts, and what comes next.
func (l *looker) instruction(i api.Ins) {
	switch i.Op {
	case api.IJump:
		l.come(i.N)
	case api.IFalse:
		l.take(api.Bool)
		l.come(i.N)
		l.comeNext()
	case api.IRet:
		l.ret()
	case api.ISelect:
		l.choose(i.N)
	case api.ICaseSend, api.ICaseRecv, api.ICaseElse:
		l.fail(api.ErrState)
	default:
		l.change(i)
		l.comeNext()
	}
}

// change takes and puts what an instruction does behind which the next one comes.
func (l *looker) change(i api.Ins) {
	switch i.Op {
	case api.IPush:
		l.put(api.Int)
	case api.IBool:
		l.put(api.Bool)
	case api.INil:
		l.put(api.Chan)
	case api.IGet, api.ISet:
		l.local(i)
	case api.ILoad, api.IStore:
		l.global(i)
	case api.IBin, api.IUn:
		l.reckon(i)
	case api.IPop:
		l.takeAny()
	case api.ICall, api.IGo:
		l.call(i)
	default:
		l.ask(i.Op)
	}
}

// ask takes and puts what is asked of others.
func (l *looker) ask(op int) {
	switch op {
	case api.IMake:
		l.take(api.Int)
		l.put(api.Chan)
	case api.ISend:
		l.take(api.Chan, api.Int)
	case api.IRecv, api.ILen:
		l.take(api.Chan)
		l.put(api.Int)
	case api.IClose:
		l.take(api.Chan)
	case api.IPrint, api.ISleep:
		l.take(api.Int)
	}
}

// local puts a local's kind, or takes it.
func (l *looker) local(i api.Ins) {
	if !l.has(i.N, len(l.fn.Locals)) {
		return
	}
	kind := l.fn.Locals[i.N]
	if i.Op == api.IGet {
		l.put(kind)
	} else {
		l.take(kind)
	}
}

// global puts a global's kind, or takes it.
func (l *looker) global(i api.Ins) {
	if !l.has(i.N, l.program.Globals) {
		return
	}
	if i.Op == api.ILoad {
		l.put(api.Int)
	} else {
		l.take(api.Int)
	}
}

// reckon takes and puts the kinds of an op of two, or of one.
func (l *looker) reckon(i api.Ins) {
	takes, makes := arith.Kinds(i.N)
	if i.Op == api.IBin {
		l.take(takes, takes)
	} else {
		l.take(takes)
	}
	l.put(makes)
}

// call takes a function's arguments, and, if it is waited for, puts what it answers.
func (l *looker) call(i api.Ins) {
	if !l.has(i.N, len(l.program.Fns)) {
		return
	}
	f := l.program.Fns[i.N]
	l.take(f.Locals[:f.Params]...)
	if i.Op == api.ICall && f.Kind != api.None {
		l.put(f.Kind)
	}
}

// ret takes what the function answers, behind which nothing waits.
func (l *looker) ret() {
	if l.fn.Kind != api.None {
		l.take(l.fn.Kind)
	}
	if l.waits != "" {
		l.fail(api.ErrFalse)
	}
}

// choose looks at a select of n cases: all of them take what they do ahead of the first one that leads on.
func (l *looker) choose(n int) {
	behind := l.fn.Code[l.at+1:]
	switch {
	case n > api.MaxCases:
		l.fail(api.ErrLimit)
	case n > len(behind):
		l.fail(api.ErrForm)
	default:
		l.takeCases(behind[:n])
		l.lead(behind[:n])
	}
}

// takeCases takes what the cases of a select do, the last one first.
func (l *looker) takeCases(cases []api.Ins) {
	hasElse := false
	for _, c := range slices.Backward(cases) {
		switch c.Op {
		case api.ICaseSend:
			l.take(api.Chan, api.Int)
		case api.ICaseRecv:
			l.take(api.Chan)
		case api.ICaseElse:
			if hasElse {
				l.fail(api.ErrTwice)
			}
			hasElse = true
		default:
			l.fail(api.ErrForm)
		}
	}
}

// lead comes to where each case leads. What is received waits there, too: for the channel that was taken there is room.
func (l *looker) lead(cases []api.Ins) {
	rest := l.waits
	for _, c := range cases {
		l.waits = rest
		if c.Op == api.ICaseRecv {
			l.put(api.Int)
		}
		l.come(c.N)
	}
}
