package emit_test

import (
	"slices"

	"sluiceway/api"
	"sluiceway/arith"
)

// machine is a Doer of a program of instructions, as chapter 24 tells it.
type machine struct {
	p     api.Program
	tasks []*runner
}

// runner is one task of it: the function that goes on comes last.
type runner struct {
	p      api.Program
	frames []*api.Frame
	ticks  int
}

func (m *machine) Begin(fn int, args []int) {
	r := &runner{p: m.p}
	r.enter(fn, args)
	m.tasks = append(m.tasks, r)
}

func (m *machine) Next(task int) api.Ask {
	r := m.tasks[task]
	r.ticks = api.Ticks
	for {
		if a := r.step(); a.What != 0 {
			return a
		}
	}
}

func (m *machine) Give(task int, a api.Answer) {
	r := m.tasks[task]
	f := r.here()
	i := r.ins()
	switch i.Op {
	case api.IGo:
		r.takeAll(r.p.Fns[i.N].Params)
	case api.ISend:
		r.takeAll(2)
	case api.ISelect:
		r.talks(i.N)
		c := r.code()[f.Pc+1+a.Case]
		if c.Op == api.ICaseRecv {
			r.put(a.N)
		}
		f.Pc = c.N
		return
	case api.ILoad:
	default:
		r.take()
	}
	switch i.Op {
	case api.ILoad, api.IMake, api.ILen, api.IRecv:
		r.put(a.N)
	}
	f.Pc++
}

func (r *runner) enter(fn int, args []int) {
	locals := make([]int, len(r.p.Fns[fn].Locals))
	copy(locals, args)
	r.frames = append(r.frames, &api.Frame{Fn: fn, Locals: locals})
}

func (r *runner) here() *api.Frame { return r.frames[len(r.frames)-1] }

func (r *runner) code() []api.Ins { return r.p.Fns[r.here().Fn].Code }

func (r *runner) ins() api.Ins { return r.code()[r.here().Pc] }

func (r *runner) put(n int) { r.here().Stack = append(r.here().Stack, n) }

func (r *runner) take() int { return r.takeAll(1)[0] }

// takeAll takes the last ones, in the order in which they were put.
func (r *runner) takeAll(count int) []int {
	f := r.here()
	rest := len(f.Stack) - count
	l := slices.Clone(f.Stack[rest:])
	f.Stack = f.Stack[:rest]
	return l
}

// top are the last ones, which stay.
func (r *runner) top(count int) []int {
	stack := r.here().Stack
	return slices.Clone(stack[len(stack)-count:])
}

// step does one instruction, or tells what it asks for.
func (r *runner) step() api.Ask {
	f, i := r.here(), r.ins()
	switch i.Op {
	case api.IPush, api.IBool, api.INil:
		r.put(i.N)
	case api.IGet:
		r.put(f.Locals[i.N])
	case api.ISet:
		f.Locals[i.N] = r.take()
	case api.IBin:
		both := r.top(2)
		n, way := arith.Bin(i.N, both[0], both[1])
		if way != api.Going {
			return api.Ask{What: api.AskFault, N: way}
		}
		r.takeAll(2)
		r.put(n)
	case api.IUn:
		r.put(arith.Un(i.N, r.take()))
	case api.IPop:
		r.take()
	case api.IJump:
		return r.goTo(i.N, 0)
	case api.IFalse:
		if r.top(1)[0] == 0 {
			return r.goTo(i.N, 1)
		}
		return r.goTo(f.Pc+1, 1)
	case api.ICall:
		return r.call(i.N)
	case api.IRet:
		return r.ret()
	default:
		return r.asks(i)
	}
	f.Pc++
	return api.Ask{}
}

// tick says whether there is one more.
func (r *runner) tick() bool {
	if r.ticks == 0 {
		return false
	}
	r.ticks--
	return true
}

// goTo goes on at an instruction, and takes so many.
func (r *runner) goTo(to, count int) api.Ask {
	f := r.here()
	if to <= f.Pc && !r.tick() {
		return api.Ask{What: api.AskPause}
	}
	r.takeAll(count)
	f.Pc = to
	return api.Ask{}
}

func (r *runner) call(fn int) api.Ask {
	if !r.tick() {
		return api.Ask{What: api.AskPause}
	}
	if len(r.frames) >= api.MaxCalls {
		return api.Ask{What: api.AskFault, N: api.Deep}
	}
	args := r.takeAll(r.p.Fns[fn].Params)
	r.here().Pc++
	r.enter(fn, args)
	return api.Ask{}
}

func (r *runner) ret() api.Ask {
	has := r.p.Fns[r.here().Fn].Kind != api.None
	n := 0
	if has {
		n = r.take()
	}
	r.frames = r.frames[:len(r.frames)-1]
	if len(r.frames) == 0 {
		return api.Ask{What: api.AskEnd}
	}
	if has {
		r.put(n)
	}
	return api.Ask{}
}

// asks is what an instruction asks for; what it takes stays, up to the answer.
func (r *runner) asks(i api.Ins) api.Ask {
	what := map[int]int{
		api.ILoad: api.AskLoad, api.IStore: api.AskStore, api.IGo: api.AskGo, api.IMake: api.AskMake, api.IClose: api.AskClose,
		api.ILen: api.AskLen, api.IPrint: api.AskPrint, api.ISleep: api.AskSleep,
	}[i.Op]
	switch i.Op {
	case api.ILoad:
		return api.Ask{What: what, N: i.N}
	case api.IStore:
		return api.Ask{What: what, N: i.N, Args: r.top(1)}
	case api.IGo:
		return api.Ask{What: what, N: i.N, Args: r.top(r.p.Fns[i.N].Params)}
	case api.ISend:
		both := r.top(2)
		return api.Ask{What: api.AskTalk, Cases: []api.Talk{{What: api.Send, Chan: both[0], N: both[1]}}}
	case api.IRecv:
		return api.Ask{What: api.AskTalk, Cases: []api.Talk{{What: api.Recv, Chan: r.top(1)[0]}}}
	case api.ISelect:
		stack := slices.Clone(r.here().Stack)
		l := r.talks(i.N)
		r.here().Stack = stack
		return api.Ask{What: api.AskTalk, Cases: l}
	}
	return api.Ask{What: what, N: r.top(1)[0]}
}

// talks takes what a select's cases do.
func (r *runner) talks(n int) []api.Talk {
	first := r.here().Pc + 1
	l := make([]api.Talk, n)
	for k, c := range slices.Backward(r.code()[first : first+n]) {
		switch c.Op {
		case api.ICaseSend:
			both := r.takeAll(2)
			l[k] = api.Talk{What: api.Send, Chan: both[0], N: both[1]}
		case api.ICaseRecv:
			l[k] = api.Talk{What: api.Recv, Chan: r.take()}
		case api.ICaseElse:
			l[k] = api.Talk{What: api.Else}
		}
	}
	return l
}
