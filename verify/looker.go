package verify

import (
	"slices"

	"sluiceway/api"
)

// looker goes once through a function's instructions, in their order. It stays at the first thing that is wrong.
type looker struct {
	program api.Program
	fn      api.Fn
	ahead   []stand // of each instruction
	at      int     // which one is looked at
	waits   string  // the kinds that wait, as far as this one has gone
	wrong   api.Errno
}

// function looks at all instructions that can be come to. Each one is looked at just once: those that are come to later, from behind, must be live by then, and nothing else may wait there.
func (l *looker) function() {
	if len(l.fn.Code) == 0 {
		l.fail(api.ErrMissing)
		return
	}
	l.ahead[0].live = true
	for at, i := range l.fn.Code {
		if !l.ahead[at].live {
			continue
		}
		l.at, l.waits = at, l.ahead[at].waits
		if l.instruction(i); l.wrong != api.OK {
			return
		}
	}
}

// fail tells what is wrong, if nothing was ahead of it.
func (l *looker) fail(e api.Errno) {
	if l.wrong == api.OK {
		l.wrong = e
	}
}

// has says whether there is the n-th of so many; if not, that is wrong.
func (l *looker) has(n, many int) bool {
	if n >= many {
		l.fail(api.ErrRange)
	}
	return n < many
}

// take takes kinds that were put in this order: the last one first.
func (l *looker) take(kinds ...int) {
	for _, kind := range slices.Backward(kinds) {
		if l.takeAny() != kind {
			l.fail(api.ErrFalse)
		}
	}
}

// takeAny takes the last kind, whichever it is.
func (l *looker) takeAny() int {
	last := len(l.waits) - 1
	if last < 0 {
		l.fail(api.ErrNone)
		return api.None
	}
	kind := l.waits[last]
	l.waits = l.waits[:last]
	return int(kind)
}

// put puts a kind.
func (l *looker) put(kind int) {
	if len(l.waits) == api.MaxStack {
		l.fail(api.ErrFull)
		return
	}
	l.waits += string([]byte{byte(kind)})
}

// come comes to an instruction, with what waits now. Behind what is wrong it comes nowhere.
func (l *looker) come(n int) {
	if l.wrong != api.OK || !l.has(n, len(l.fn.Code)) {
		return
	}
	was, now := l.ahead[n], stand{live: true, waits: l.waits}
	switch {
	case isCase(l.fn.Code[n].Op):
		l.fail(api.ErrState)
	case was.live && was != now, !was.live && n <= l.at:
		l.fail(api.ErrFalse)
	default:
		l.ahead[n] = now
	}
}

// comeNext comes to the next instruction.
func (l *looker) comeNext() {
	if l.at+1 == len(l.fn.Code) {
		l.fail(api.ErrMissing)
	}
	l.come(l.at + 1)
}

// isCase says whether an Op is one of a select's cases.
func isCase(op int) bool {
	return op == api.ICaseSend || op == api.ICaseRecv || op == api.ICaseElse
}
