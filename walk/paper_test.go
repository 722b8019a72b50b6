package walk_test

import (
	"iter"
	"slices"

	"sluiceway/api"
	"sluiceway/arith"
	"sluiceway/check"
)

// paper is a Doer of a program, each of whose tasks goes through the trees in one go, and is held up wherever it asks for something. Names lie in one list, the last one first to be found; blocks are how long it was.
type paper struct {
	src    api.Source
	funcs  []api.Func
	sheets []*sheet
	stops  []func()
}

// sheet is one task of it.
type sheet struct {
	of     *paper
	next   func() (api.Ask, bool)
	yield  func(api.Ask) bool
	answer api.Answer
	ticks  int
	calls  int
	names  []named
}

type named struct {
	name string
	n    int
}

// stopped is thrown in a task that is to go on no more.
type stopped struct{}

func newPaper(src api.Source) *paper {
	return &paper{src: src, funcs: check.Numbers(src)}
}

// stop ends all tasks.
func (p *paper) stop() {
	for _, stop := range p.stops {
		stop()
	}
}

func (p *paper) Begin(fn int, args []int) {
	s := &sheet{of: p}
	next, stop := iter.Pull(func(yield func(api.Ask) bool) {
		defer func() {
			if thrown := recover(); thrown != nil && thrown != (stopped{}) {
				panic(thrown)
			}
		}()
		s.yield = yield
		s.function(fn, args)
		s.ask(api.Ask{What: api.AskEnd})
	})
	s.next = next
	p.sheets, p.stops = append(p.sheets, s), append(p.stops, stop)
}

func (p *paper) Next(task int) api.Ask {
	s := p.sheets[task]
	s.ticks = api.Ticks
	a, _ := s.next()
	return a
}

func (p *paper) Give(task int, a api.Answer) { p.sheets[task].answer = a }

// ask asks for something, and tells what came of it.
func (s *sheet) ask(a api.Ask) api.Answer {
	if !s.yield(a) {
		panic(stopped{})
	}
	return s.answer
}

// tell asks for something of a number, and tells the number that came of it.
func (s *sheet) tell(what, n int) int {
	return s.ask(api.Ask{What: what, N: n}).N
}

// end ends all.
func (s *sheet) end(way int) {
	s.tell(api.AskFault, way)
	panic("nothing comes behind the end of all")
}

func (s *sheet) tick() {
	if s.ticks == 0 {
		s.ask(api.Ask{What: api.AskPause})
	}
	s.ticks--
}

// function does one, and tells what it answers.
func (s *sheet) function(fn int, args []int) int {
	if s.calls == api.MaxCalls {
		s.end(api.Deep)
	}
	s.calls++
	others := s.names
	s.names = nil
	f := s.of.funcs[fn]
	for k, p := range f.Params {
		s.names = append(s.names, named{p.Name, args[k]})
	}
	_, n := s.stmts(f.Body)
	s.names = others
	s.calls--
	return n
}

func (s *sheet) find(name string) *named {
	for k := len(s.names) - 1; k >= 0; k-- {
		if s.names[k].name == name {
			return &s.names[k]
		}
	}
	return nil
}

func (s *sheet) global(name string) int {
	return slices.IndexFunc(s.of.src.Globals, func(g api.Global) bool { return g.Name == name })
}

func (s *sheet) number(name string) int {
	return slices.IndexFunc(s.of.funcs, func(f api.Func) bool { return f.Name == name })
}

func (s *sheet) args(x *api.Expr) []int {
	var l []int
	for _, arg := range x.Args {
		l = append(l, s.is(arg))
	}
	return l
}

// is tells what an expression is.
func (s *sheet) is(x *api.Expr) int {
	switch x.Code {
	case api.Nil:
		return 0
	case api.Name:
		if local := s.find(x.Name); local != nil {
			return local.n
		}
		return s.tell(api.AskLoad, s.global(x.Name))
	case api.Bin:
		return s.bin(x)
	case api.Un:
		return arith.Un(x.Op, s.is(x.Left))
	case api.Call:
		args := s.args(x)
		s.tick()
		return s.function(s.number(x.Name), args)
	case api.Make:
		return s.tell(api.AskMake, s.is(x.Left))
	case api.Len:
		return s.tell(api.AskLen, s.is(x.Left))
	case api.Recv:
		return s.ask(api.Ask{What: api.AskTalk, Cases: []api.Talk{{What: api.Recv, Chan: s.is(x.Left)}}}).N
	}
	return x.N
}

func (s *sheet) bin(x *api.Expr) int {
	left := s.is(x.Left)
	if x.Op == api.AndAnd && left == 0 || x.Op == api.OrOr && left == 1 {
		return left
	}
	right := s.is(x.Right)
	if x.Op == api.AndAnd || x.Op == api.OrOr {
		return right
	}
	n, way := arith.Bin(x.Op, left, right)
	if way != api.Going {
		s.end(way)
	}
	return n
}

// block does statements, whose names are there up to their end. It tells the Code of the statement that left them (0: none did), and of a Return the value.
func (s *sheet) block(l []api.Stmt) (int, int) {
	height := len(s.names)
	code, n := s.stmts(l)
	s.names = s.names[:height]
	return code, n
}

func (s *sheet) stmts(l []api.Stmt) (int, int) {
	for _, one := range l {
		if code, n := s.stmt(one); code != 0 {
			return code, n
		}
	}
	return 0, 0
}

func (s *sheet) stmt(x api.Stmt) (int, int) {
	switch x.Code {
	case api.Let:
		n := s.is(x.Value)
		s.names = append(s.names, named{x.Name, n})
	case api.Set:
		n := s.is(x.Value)
		if local := s.find(x.Name); local != nil {
			local.n = n
		} else {
			s.ask(api.Ask{What: api.AskStore, N: s.global(x.Name), Args: []int{n}})
		}
	case api.Send:
		to := s.is(x.To)
		s.ask(api.Ask{What: api.AskTalk, Cases: []api.Talk{{What: api.Send, Chan: to, N: s.is(x.Value)}}})
	case api.Close:
		s.tell(api.AskClose, s.is(x.Value))
	case api.Print:
		s.tell(api.AskPrint, s.is(x.Value))
	case api.Sleep:
		s.tell(api.AskSleep, s.is(x.Value))
	case api.Go:
		s.ask(api.Ask{What: api.AskGo, N: s.number(x.Value.Name), Args: s.args(x.Value)})
	case api.Do:
		s.is(x.Value)
	case api.Return:
		if x.Value == nil {
			return api.Return, 0
		}
		return api.Return, s.is(x.Value)
	case api.If:
		if s.is(x.Value) == 1 {
			return s.block(x.Then)
		}
		return s.block(x.Else)
	case api.For:
		return s.loop(x)
	case api.Select:
		return s.choose(x.Cases)
	default:
		return x.Code, 0
	}
	return 0, 0
}

func (s *sheet) loop(x api.Stmt) (int, int) {
	for s.is(x.Value) == 1 {
		code, n := s.block(x.Then)
		if code == api.Break {
			break
		}
		if code == api.Return {
			return code, n
		}
		s.tick()
	}
	return 0, 0
}

func (s *sheet) choose(cases []api.Case) (int, int) {
	var l []api.Talk
	for _, c := range cases {
		one := api.Talk{What: c.Code}
		if c.Code != api.Else {
			one.Chan = s.is(c.To)
		}
		if c.Code == api.Send {
			one.N = s.is(c.Value)
		}
		l = append(l, one)
	}
	a := s.ask(api.Ask{What: api.AskTalk, Cases: l})
	c := cases[a.Case]
	height := len(s.names)
	if c.Name != "" {
		s.names = append(s.names, named{c.Name, a.N})
	}
	code, n := s.stmts(c.Body)
	s.names = s.names[:height]
	return code, n
}
