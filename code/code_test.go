package code_test

import (
	"math"
	"slices"
	"testing"

	"sluiceway/api"
	"sluiceway/code"
)

// withN are the Ops that may have another N than 0, with the least and the greatest one.
var withN = map[int][2]int{
	api.IPush: {math.MinInt, math.MaxInt},
	api.IBool: {0, 1},
	api.IBin:  {1, 16},
	api.IUn:   {17, 19},
	api.IGet:  {0, math.MaxInt}, api.ISet: {0, math.MaxInt},
	api.ILoad: {0, math.MaxInt}, api.IStore: {0, math.MaxInt},
	api.IJump: {0, math.MaxInt}, api.IFalse: {0, math.MaxInt},
	api.ICall: {0, math.MaxInt}, api.IGo: {0, math.MaxInt},
	api.ISelect: {0, math.MaxInt}, api.ICaseSend: {0, math.MaxInt},
	api.ICaseRecv: {0, math.MaxInt}, api.ICaseElse: {0, math.MaxInt},
}

// ends are numbers about which something changes.
var ends = []int{
	math.MinInt, math.MinInt + 1, -1 << 40, -129, -65, -64, -20, -1, 0, 1, 2, 15, 16, 17, 18, 19, 20, 63, 64, 127, 128,
	8999, 9000, 1 << 40, math.MaxInt - 1, math.MaxInt,
}

// one is a program of one function, of these instructions.
func one(l ...api.Ins) api.Program {
	return api.Program{Fns: []api.Fn{{Code: l}}}
}

// fns is a program of so many functions, each as f.
func fns(n int, f api.Fn) api.Program {
	return api.Program{Fns: slices.Repeat([]api.Fn{f}, n)}
}

// right asks for what Right says of a program, and, where that is an error, that Encode says so, too.
func right(t *testing.T, what string, p api.Program, want api.Errno) {
	t.Helper()
	err := code.Right(p)
	if api.Tell(err) != want {
		t.Errorf("%s: Right tells %v, want %v", what, err, want)
	}
	if want == api.OK {
		return
	}
	if s, err := code.Encode(p); s != "" || api.Tell(err) != want {
		t.Errorf("%s: Encode tells %d bytes, %v, want %v", what, len(s), err, want)
	}
}

// 14.1: there may be from 0 to MaxGlobals globals.
func TestRightOfGlobals(t *testing.T) {
	for n := range api.MaxGlobals + 1 {
		right(t, "globals", api.Program{Globals: n}, api.OK)
	}
	for _, n := range []int{-1, math.MinInt, api.MaxGlobals + 1, 1 << 40, math.MaxInt} {
		right(t, "globals", api.Program{Globals: n}, api.ErrRange)
	}
}

// 14.1: the zero value is a program without functions, and right; so are MaxFuncs, and no more.
func TestRightOfFunctions(t *testing.T) {
	right(t, "the zero value", api.Program{}, api.OK)
	for n := range api.MaxFuncs + 1 {
		right(t, "functions", fns(n, api.Fn{}), api.OK)
	}
	for _, n := range []int{api.MaxFuncs + 1, 300, 100_000} {
		right(t, "functions", fns(n, api.Fn{}), api.ErrLimit)
	}
}

// 14.1: a function has at most MaxVars locals, and MaxIns instructions.
func TestRightOfLongFunctions(t *testing.T) {
	pop := api.Ins{Op: api.IPop}
	for n := range 3 * api.MaxVars {
		want := api.OK
		if n > api.MaxVars {
			want = api.ErrLimit
		}
		right(t, "locals", fns(2, api.Fn{Locals: slices.Repeat([]int{api.Int}, n)}), want)
	}
	right(t, "instructions", one(slices.Repeat([]api.Ins{pop}, api.MaxIns)...), api.OK)
	right(t, "instructions", one(slices.Repeat([]api.Ins{pop}, api.MaxIns+1)...), api.ErrLimit)
	right(t, "instructions", one(slices.Repeat([]api.Ins{pop}, 100_000)...), api.ErrLimit)
}

// 14.1: there may be as many parameters as locals, or fewer.
func TestRightOfParams(t *testing.T) {
	for locals := range api.MaxVars + 1 {
		l := slices.Repeat([]int{api.Chan}, locals)
		for params := -2; params < api.MaxVars+3; params++ {
			want := api.OK
			if params < 0 || params > locals {
				want = api.ErrRange
			}
			right(t, "params", api.Program{Fns: []api.Fn{{Params: params, Locals: l}}}, want)
		}
		right(t, "params", api.Program{Fns: []api.Fn{{Params: math.MinInt, Locals: l}}}, api.ErrRange)
		right(t, "params", api.Program{Fns: []api.Fn{{Params: math.MaxInt, Locals: l}}}, api.ErrRange)
	}
}

// 14.1: a function's kind may be None, a local's may not.
func TestRightOfKinds(t *testing.T) {
	for _, kind := range append([]int{-1, 3, 4, 5, 255, 256, 257}, ends...) {
		want := api.ErrRange
		if kind >= 0 && kind <= 3 {
			want = api.OK
		}
		right(t, "a kind", api.Program{Fns: []api.Fn{{}, {Kind: kind}}}, want)
		if kind == 0 {
			want = api.ErrRange
		}
		right(t, "the first local's kind", api.Program{Fns: []api.Fn{{}, {Locals: []int{kind, api.Int}}}}, want)
		right(t, "the last local's kind", api.Program{Fns: []api.Fn{{}, {Locals: []int{api.Int, kind}}}}, want)
	}
}

// 14.1: each Op, and none that is none, has just the numbers that it may have.
func TestRightOfInstructions(t *testing.T) {
	for _, op := range append([]int{-3, -2, 3, 4, 5, 6, 7, 8, 9, 10, 11, 12, 13, 14, 21, 22, 23, 24, 25, 26, 27, 28, 29, 30, 255, 256, 257}, ends...) {
		for _, n := range ends {
			span := withN[op]
			want := api.ErrArg
			if op >= 1 && op <= 26 && n >= span[0] && n <= span[1] {
				want = api.OK
			}
			i := api.Ins{Op: op, N: n}
			right(t, "an instruction", one(i), want)
			right(t, "a later one", api.Program{Fns: []api.Fn{{}, {Code: []api.Ins{{Op: api.IRet}, i, {Op: api.IRet}}}}}, want)
		}
	}
}

// 14.1: what may have another N than 0.
func TestHasN(t *testing.T) {
	for op := -300; op < 300; op++ {
		if _, want := withN[op]; code.HasN(op) != want {
			t.Errorf("HasN(%d) = %t", op, !want)
		}
	}
	for _, op := range []int{math.MinInt, math.MaxInt, 1 << 40, 1<<32 + 1, 1<<8 + 1} {
		if code.HasN(op) {
			t.Errorf("HasN(%d) is true", op)
		}
	}
}

// 14.1: of several things that are wrong the one told first is answered, and a function's ahead of the next one's.
func TestRightTellsTheFirst(t *testing.T) {
	long := api.Fn{Locals: make([]int, api.MaxVars+1), Params: -1, Kind: 9, Code: []api.Ins{{}}}
	many := api.Fn{Locals: []int{0}, Params: 2, Code: make([]api.Ins, api.MaxIns+1)}
	params := api.Fn{Params: 1, Code: []api.Ins{{}}}
	kind := api.Fn{Kind: -1, Code: []api.Ins{{}}}
	local := api.Fn{Locals: []int{4}, Code: []api.Ins{{}}}
	ins := api.Fn{Code: []api.Ins{{Op: api.INil, N: 1}}}
	globals := fns(api.MaxFuncs+1, long)
	globals.Globals = -1
	right(t, "globals ahead of all", globals, api.ErrRange)
	right(t, "functions ahead of what is in them", fns(api.MaxFuncs+1, params), api.ErrLimit)
	right(t, "locals ahead of the rest", fns(1, long), api.ErrLimit)
	right(t, "instructions ahead of the rest", fns(1, many), api.ErrLimit)
	for _, f := range []api.Fn{params, kind, local} {
		right(t, "kinds ahead of instructions", fns(1, f), api.ErrRange)
		right(t, "an instruction of a function ahead", api.Program{Fns: []api.Fn{ins, f}}, api.ErrArg)
		right(t, "a kind of a function ahead", api.Program{Fns: []api.Fn{f, ins, long}}, api.ErrRange)
	}
	right(t, "an instruction of a function ahead", api.Program{Fns: []api.Fn{{}, ins, long}}, api.ErrArg)
	right(t, "a long function ahead", api.Program{Fns: []api.Fn{{}, long, ins}}, api.ErrLimit)
}
