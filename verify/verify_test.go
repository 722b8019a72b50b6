package verify_test

import (
	"math"
	"slices"
	"strings"
	"testing"

	"sluiceway/api"
	"sluiceway/asm"
	"sluiceway/plain"
	"sluiceway/verify"
)

// program reads a program whose lines are told with ; between.
func program(t *testing.T, text string) api.Program {
	t.Helper()
	p, err := asm.Read(strings.ReplaceAll(text, ";", "\n"))
	if err != nil {
		t.Fatalf("%q isn't read: %v", text, err)
	}
	return p
}

// alone is a program of 2 globals, of functions of which the first one has such a body, with a local of each kind, and others are there to be called.
func alone(body string) string {
	return "globals 2; fn none 0 int bool chan; " + body +
		"; fn none 0; ret; fn int 3 int bool chan int; push 1; ret; fn bool 1 bool; get 0; ret; fn chan 0; nil; ret; fn none 2 chan chan; ret"
}

// one is a program of one function, of these instructions.
func one(l ...api.Ins) api.Program {
	return api.Program{Fns: []api.Fn{{Code: l}}}
}

// wrong asks for a program's error, and its place (-1: it has none), and that no shapes are told.
func wrong(t *testing.T, what string, p api.Program, want api.Errno, place int) {
	t.Helper()
	l, err := verify.Shapes(p)
	if e, at := plain.Place(err); e != want || at != place || l != nil {
		t.Errorf("%.300s: Shapes = %v, %d at %d; want %d at %d", what, l, e, at, want, place)
	}
	if e, at := plain.Place(verify.Verify(p)); e != want || at != place {
		t.Errorf("%.300s: Verify = %d at %d; want %d at %d", what, e, at, want, place)
	}
}

// unfit asks for the error, and its place, of a first function of this body.
func unfit(t *testing.T, body string, want api.Errno, place int) {
	t.Helper()
	wrong(t, body, program(t, alone(body)), want, place)
}

// letters are kinds, a letter each.
func letters(kinds []int) string {
	s := ""
	for _, kind := range kinds {
		s += []string{"n", "i", "b", "c"}[kind]
	}
	return s
}

// picture is a function's shapes, a word each: - is not live, 0 is live and nothing waits, else the letters of what waits.
func picture(l []verify.Shape) string {
	var words []string
	for _, s := range l {
		switch {
		case !s.Live && s.Kinds == nil:
			words = append(words, "-")
		case s.Live && len(s.Kinds) == 0:
			words = append(words, "0")
		case s.Live:
			words = append(words, letters(s.Kinds))
		default:
			words = append(words, "?")
		}
	}
	return strings.Join(words, " ")
}

// fits asks that a program fits together, and for the shapes of its functions.
func fits(t *testing.T, text string, want ...string) {
	t.Helper()
	p := program(t, text)
	l, err := verify.Shapes(p)
	if err != nil || len(l) != len(p.Fns) {
		e, place := plain.Place(err)
		t.Errorf("%.300s: Shapes tells %d at %d", text, e, place)
		return
	}
	for k, s := range want {
		if got := picture(l[k]); got != s {
			t.Errorf("%.300s: function %d has the shapes %.300s; want %.300s", text, k, got, s)
		}
	}
	if err := verify.Verify(p); err != nil {
		t.Errorf("%.300s: Verify = %v", text, err)
	}
}

// fit asks for the shapes of a first function of this body.
func fit(t *testing.T, body, want string) {
	t.Helper()
	fits(t, alone(body), want)
}

// 16.1: what isn't right is told first, without a place.
func TestWhatIsNotRight(t *testing.T) {
	for _, l := range []struct {
		what string
		p    api.Program
		want api.Errno
	}{
		{"globals", api.Program{Globals: -1}, api.ErrRange},
		{"globals", api.Program{Globals: api.MaxGlobals + 1}, api.ErrRange},
		{"functions", api.Program{Fns: make([]api.Fn, api.MaxFuncs+1)}, api.ErrLimit},
		{"locals", api.Program{Fns: []api.Fn{{Kind: 1, Locals: make([]int, api.MaxVars+1)}}}, api.ErrLimit},
		{"instructions", api.Program{Fns: []api.Fn{{}, {Code: make([]api.Ins, api.MaxIns+1)}}}, api.ErrLimit},
		{"params", api.Program{Fns: []api.Fn{{Params: 1}}}, api.ErrRange},
		{"a kind", api.Program{Fns: []api.Fn{{Kind: 4}}}, api.ErrRange},
		{"a local's kind", api.Program{Fns: []api.Fn{{Params: 1, Locals: []int{0}}}}, api.ErrRange},
		{"an Op", api.Program{Fns: []api.Fn{{Kind: 1}, {Code: []api.Ins{{}}}}}, api.ErrArg},
		{"an Op", one(api.Ins{Op: 27}), api.ErrArg},
		{"an N", one(api.Ins{Op: api.IJump, N: -1}), api.ErrArg},
		{"an N", one(api.Ins{Op: api.ISelect, N: 1}, api.Ins{Op: api.ICaseElse, N: math.MinInt}), api.ErrArg},
		{"a later function", api.Program{Fns: []api.Fn{{}, {Params: -1}}}, api.ErrRange},
	} {
		wrong(t, l.what, l.p, l.want, -1)
	}
}

// 16.1: there is a first function, which takes nothing and answers nothing; others may.
func TestTheFirstFunction(t *testing.T) {
	ret := []api.Ins{{Op: api.IRet}}
	wrong(t, "the zero value", api.Program{}, api.ErrArg, -1)
	wrong(t, "no function", api.Program{Globals: 8, Fns: []api.Fn{}}, api.ErrArg, -1)
	for kind := api.Int; kind <= api.Chan; kind++ {
		wrong(t, "a parameter", api.Program{Fns: []api.Fn{{Params: 1, Locals: []int{kind}, Code: ret}}}, api.ErrArg, -1)
		wrong(t, "a kind", api.Program{Fns: []api.Fn{{Kind: kind, Code: ret}}}, api.ErrArg, -1)
		wrong(t, "a kind, ahead of what has a place", api.Program{Fns: []api.Fn{{Kind: kind}, {}}}, api.ErrArg, -1)
	}
	fits(t, "globals 0; fn none 0; ret", "0")
	fits(t, "globals 0; fn none 0 int chan; ret; fn int 2 chan bool int; get 2; ret", "0", "0 i")
}

// 16.1: a function has instructions, and doesn't begin with a case; that is told at its own place, and function by function.
func TestWhereAFunctionBegins(t *testing.T) {
	wrong(t, "no instructions", one(), api.ErrMissing, 0)
	ret := api.Fn{Code: []api.Ins{{Op: api.IRet}}}
	for k := range api.MaxFuncs {
		p := api.Program{Fns: slices.Repeat([]api.Fn{ret}, api.MaxFuncs)}
		p.Fns[k] = api.Fn{}
		wrong(t, "no instructions", p, api.ErrMissing, k*api.MaxIns)
		for _, op := range []int{api.ICaseSend, api.ICaseRecv, api.ICaseElse} {
			p.Fns[k].Code = []api.Ins{{Op: op, N: 1}, {Op: api.IRet}}
			wrong(t, "a case", p, api.ErrState, k*api.MaxIns)
			p.Fns[k].Code = []api.Ins{{Op: op}}
			wrong(t, "a case alone", p, api.ErrState, k*api.MaxIns)
			p.Fns[k].Code = []api.Ins{{Op: op, N: math.MaxInt}}
			wrong(t, "a case that leads nowhere", p, api.ErrState, k*api.MaxIns)
		}
		p.Fns[k].Code = []api.Ins{{Op: api.INil}, {Op: api.IPop}, {Op: api.IPop}, {Op: api.IRet}}
		wrong(t, "a later instruction", p, api.ErrNone, k*api.MaxIns+2)
	}
}

// 16.1: the first error is told: of a function ahead of the next one's, and of an instruction ahead of the next one's.
func TestTheFirstErrorIsTold(t *testing.T) {
	head := "globals 0; fn none 0; "
	wrong(t, "two functions", program(t, head+"nil; pop; jump 9; fn none 0; pop; ret"), api.ErrRange, 2)
	wrong(t, "two functions", program(t, head+"ret; fn none 0; nil; ret; fn none 0"), api.ErrFalse, api.MaxIns+1)
	wrong(t, "two instructions", program(t, head+"nil; print; pop; pop; jump 7"), api.ErrFalse, 1)
	wrong(t, "an end that is missing", program(t, head+"pop; nil"), api.ErrNone, 0)
	p := one(slices.Repeat([]api.Ins{{Op: api.IJump, N: 0}}, api.MaxIns)...)
	for k := range p.Fns[0].Code {
		p.Fns[0].Code[k].N = k + 1
	}
	wrong(t, "the last one", p, api.ErrRange, api.MaxIns-1)
	p.Fns = append([]api.Fn{{Code: []api.Ins{{Op: api.IRet}}}}, p.Fns...)
	wrong(t, "the last one of the second one", p, api.ErrRange, 2*api.MaxIns-1)
}

// 16.1: where nothing comes to is gone over, whatever stands there; it isn't live, and nothing waits.
func TestWhatIsNotLive(t *testing.T) {
	fit(t, "ret; ret", "0 -")
	fit(t, "ret; pop; get 9; set 77; load 2; store 2; call 99; go 6; jump 1000; select 9; casesend 0; caseelse 99; bin +; un !; push 1", "0 - - - - - - - - - - - - - -")
	fit(t, "jump 3; pop; jump 1; ret; pop", "0 - - 0 -")
	fit(t, "push 1; bool 1; jump 5; print; ret; pop; print; ret; print", "0 i ib - - ib i 0 -")
	fit(t, "select 1; caseelse 3; jump 1; ret", "0 - - 0")
}

// 16.1: what comes to an instruction comes to one that there is, and that is no case.
func TestComeToWhatIsThere(t *testing.T) {
	unfit(t, "jump 1", api.ErrRange, 0)
	unfit(t, "jump 2; ret", api.ErrRange, 0)
	unfit(t, "jump 9223372036854775807; ret", api.ErrRange, 0)
	unfit(t, "nil; pop; bool 0; false 5; ret", api.ErrRange, 3)
	for _, name := range []string{"casesend", "caserecv", "caseelse"} {
		unfit(t, "jump 2; ret; "+name+" 1", api.ErrState, 0)
		unfit(t, "nil; "+name+" 2; ret", api.ErrState, 0)
		unfit(t, "nil; pop; "+name+" 2; ret", api.ErrState, 1)
		unfit(t, "bool 1; false 3; ret; "+name+" 2", api.ErrState, 1)
		unfit(t, "bool 1; false 3; "+name+" 2; ret", api.ErrState, 1)
		unfit(t, "bool 1; select 1; caseelse 3; jump 2; ret", api.ErrState, 3)
		unfit(t, "jump 2; ret; "+name+" 77", api.ErrState, 0)
	}
}

// 16.1: where something is live the same must wait, of kinds that are the same, whoever comes.
func TestComeToWhatIsLive(t *testing.T) {
	fit(t, "jump 0", "0")
	fit(t, "nil; pop; jump 0", "0 c 0")
	fit(t, "push 1; jump 1", "0 i")
	fit(t, "push 1; bool 1; pop; jump 1", "0 i ib i")
	fit(t, "push 1; bool 1; false 1; jump 1", "0 i ib i")
	fit(t, "push 1; bool 1; false 3; print; ret", "0 i ib i 0")
	fit(t, "bool 1; false 4; nil; jump 5; nil; close; ret", "0 b 0 c 0 c 0")
	unfit(t, "push 1; jump 0", api.ErrFalse, 1)
	unfit(t, "push 1; bool 1; jump 1", api.ErrFalse, 2)
	unfit(t, "push 1; pop; bool 1; jump 1; ret", api.ErrFalse, 3)
	unfit(t, "bool 1; false 4; nil; jump 5; push 1; pop; ret", api.ErrFalse, 4)
	unfit(t, "nil; bool 1; false 0; close; ret", api.ErrFalse, 2)
	fit(t, "push 1; pop; push 1; jump 1; ret", "0 i 0 i -")
	unfit(t, "nil; push 1; jump 4; ret; pop; pop; push 1; nil; jump 4", api.ErrFalse, 8)
}

// 16.1: what isn't live yet isn't come to from behind, nor from itself: it was gone over.
func TestComeToWhatWasGoneOver(t *testing.T) {
	unfit(t, "jump 2; ret; jump 1", api.ErrFalse, 2)
	unfit(t, "jump 3; push 1; ret; nil; pop; jump 1", api.ErrFalse, 5)
	unfit(t, "jump 2; ret; bool 1; false 1; ret", api.ErrFalse, 3)
	unfit(t, "jump 2; ret; select 1; caseelse 1", api.ErrFalse, 2)
	fit(t, "jump 1; jump 2; jump 1", "0 0 0")
	fit(t, "bool 1; false 4; jump 5; ret; jump 2; ret", "0 b 0 - 0 0")
}
