package asm_test

import (
	"math"
	"reflect"
	"slices"
	"strings"
	"testing"

	"sluiceway/api"
	"sluiceway/arith"
	"sluiceway/asm"
	"sluiceway/code"
	"sluiceway/plain"
)

// bare are the instructions without a number, and numbered those with one, in lines; signed are those with an op's sign.
const (
	bare     = "nil pop ret make send recv close len print sleep"
	numbered = "push bool get set load store jump false call go select casesend caserecv caseelse"
	signed   = "bin un"
	// all are the names, from IPush on.
	all = "push bool nil get set load store bin un pop jump false call ret go make send recv close len print sleep select casesend caserecv caseelse"
)

// opOf is the instruction of a name.
func opOf(name string) int {
	return 1 + slices.Index(strings.Fields(all), name)
}

// same says whether two programs are; a list that is empty may be nil.
func same(p, q api.Program) bool {
	if p.Globals != q.Globals || len(p.Fns) != len(q.Fns) {
		return false
	}
	for k, f := range p.Fns {
		g := q.Fns[k]
		if f.Params != g.Params || f.Kind != g.Kind || !slices.Equal(f.Locals, g.Locals) || !slices.Equal(f.Code, g.Code) {
			return false
		}
	}
	return true
}

// one is a program of one function, of these instructions.
func one(l ...api.Ins) api.Program {
	return api.Program{Fns: []api.Fn{{Code: l}}}
}

// written asks for a program's text, and that this is read.
func written(t *testing.T, p api.Program, want string) {
	t.Helper()
	s, err := asm.Write(p)
	if s != want || err != nil {
		t.Errorf("Write(%.200v) = %.200q, %v; want %.200q", p, s, err, want)
	}
	read(t, want, p)
}

// read asks for the program that a text is.
func read(t *testing.T, s string, want api.Program) {
	t.Helper()
	if p, err := asm.Read(s); !same(p, want) || err != nil {
		t.Errorf("Read(%.200q) = %.200v, %v; want %.200v", s, p, err, want)
	}
}

// unread asks for a text's error, its place (-1: it has none), and no program.
func unread(t *testing.T, s string, want api.Errno, line int) {
	t.Helper()
	p, err := asm.Read(s)
	if e, place := plain.Place(err); e != want || place != line || !reflect.DeepEqual(p, api.Program{}) {
		t.Errorf("Read(%.200q) = %.200v, %d at %d; want %d at %d", s, p, e, place, want, line)
	}
}

// 15.1: a text as it is to be written.
func TestWriteOfAProgram(t *testing.T) {
	written(t, api.Program{Globals: 2, Fns: []api.Fn{
		{Locals: []int{api.Int, api.Bool, api.Chan}, Code: []api.Ins{
			{Op: api.IPush, N: -2}, {Op: api.ISet}, {Op: api.IBool, N: 1}, {Op: api.IPop}, {Op: api.IPush, N: 300},
			{Op: api.IUn, N: api.Flip}, {Op: api.IGet}, {Op: api.IBin, N: api.Shl}, {Op: api.IStore, N: 1},
			{Op: api.INil}, {Op: api.ICall, N: 1}, {Op: api.IFalse, N: 4}, {Op: api.IRet},
		}},
		{Params: 1, Locals: []int{api.Chan}, Kind: api.Bool, Code: []api.Ins{{Op: api.IBool}, {Op: api.IRet}}},
		{},
	}}, `globals 2
fn none 0 int bool chan
  push -2
  set 0
  bool 1
  pop
  push 300
  un ^
  get 0
  bin <<
  store 1
  nil
  call 1
  false 4
  ret
fn bool 1 chan
  bool 0
  ret
fn none 0
`)
	written(t, api.Program{}, "globals 0\n")
	written(t, api.Program{Globals: 8}, "globals 8\n")
}

// 15.1, 15.2: each name, with a number, an op's sign, or neither.
func TestEachInstruction(t *testing.T) {
	if len(strings.Fields(bare+" "+numbered+" "+signed)) != len(strings.Fields(all)) {
		t.Fatal("names are missing")
	}
	head := "globals 0\nfn none 0\n"
	for _, name := range strings.Fields(bare) {
		written(t, one(api.Ins{Op: opOf(name)}), head+"  "+name+"\n")
		unread(t, head+"  "+name+" 0\n", api.ErrForm, 2)
		unread(t, head+"  "+name+" +\n", api.ErrForm, 2)
	}
	for _, name := range strings.Fields(numbered) {
		written(t, one(api.Ins{Op: opOf(name)}, api.Ins{Op: opOf(name), N: 1}), head+"  "+name+" 0\n  "+name+" 1\n")
		unread(t, head+"  "+name+"\n", api.ErrForm, 2)
		unread(t, head+"  "+name+" 0 0\n", api.ErrForm, 2)
		unread(t, head+"  "+name+" +\n", api.ErrForm, 2)
		unread(t, head+"  "+name+" none\n", api.ErrForm, 2)
		if name != "bool" {
			written(t, one(api.Ins{Op: opOf(name), N: math.MaxInt}), head+"  "+name+" 9223372036854775807\n")
		}
	}
	written(t, one(api.Ins{Op: api.IPush, N: math.MinInt}, api.Ins{Op: api.IPush, N: -1}), head+"  push -9223372036854775808\n  push -1\n")
}

// 15.1, 15.2: each op by its sign: that of two is another one than that of one.
func TestEachSign(t *testing.T) {
	head := "globals 0\nfn none 0\n  "
	for op := api.Add; op <= api.Bang; op++ {
		sign := arith.Sign(op)
		as := map[string]int{"bin": arith.Two(sign), "un": arith.One(sign)}
		for name, op := range as {
			if op == 0 {
				unread(t, head+name+" "+sign+"\n", api.ErrForm, 2)
				continue
			}
			written(t, one(api.Ins{Op: opOf(name), N: op}), head+name+" "+sign+"\n")
		}
	}
	for _, name := range []string{"bin", "un"} {
		for _, sign := range []string{"", " &&", " ||", " 1", " 17", " 0", " =", " + +", " ++", " add", " :=", " <-", " \"+\"", " \x00"} {
			unread(t, head+name+sign+"\n", api.ErrForm, 2)
		}
	}
}

// 15.1: Right's errors, and no text.
func TestWriteOfWhatIsNotRight(t *testing.T) {
	for _, p := range []api.Program{
		{Globals: -1}, {Globals: 9}, {Fns: make([]api.Fn, api.MaxFuncs+1)}, {Fns: []api.Fn{{Kind: 4}}}, {Fns: []api.Fn{{Kind: -1}}},
		{Fns: []api.Fn{{Params: 1}}}, {Fns: []api.Fn{{Locals: []int{0}}}}, {Fns: []api.Fn{{Locals: []int{4}}}},
		{Fns: []api.Fn{{Locals: make([]int, api.MaxVars+1)}}}, {Fns: []api.Fn{{Code: make([]api.Ins, api.MaxIns+1)}}},
		one(api.Ins{}), one(api.Ins{Op: 27}), one(api.Ins{Op: -1}), one(api.Ins{Op: math.MaxInt}), one(api.Ins{Op: api.IBin}),
		one(api.Ins{Op: api.IBin, N: 17}), one(api.Ins{Op: api.IUn, N: 16}), one(api.Ins{Op: api.IUn, N: 20}),
		one(api.Ins{Op: api.IBool, N: 2}), one(api.Ins{Op: api.IGet, N: -1}), one(api.Ins{Op: api.INil, N: 1}),
	} {
		want := code.Right(p)
		s, err := asm.Write(p)
		if s != "" || want == nil || !reflect.DeepEqual(err, want) {
			t.Errorf("Write(%.100v) = %.100q, %v; want %v", p, s, err, want)
		}
	}
}

// 15.1: a program at its bounds is written, though its text is longer than any that is read.
func TestWriteOfLongPrograms(t *testing.T) {
	f := api.Fn{Params: 12, Locals: slices.Repeat([]int{api.Chan}, api.MaxVars), Kind: api.Chan, Code: slices.Repeat([]api.Ins{{Op: api.IPush, N: math.MinInt}}, api.MaxIns)}
	s, err := asm.Write(api.Program{Globals: 8, Fns: slices.Repeat([]api.Fn{f}, api.MaxFuncs)})
	want := "globals 8\n" + strings.Repeat("fn chan 12"+strings.Repeat(" chan", 12)+"\n"+strings.Repeat("  push -9223372036854775808\n", api.MaxIns), api.MaxFuncs)
	if s != want || err != nil {
		t.Errorf("Write tells %d bytes, %v; want %d", len(s), err, len(want))
	}
	unread(t, s, api.ErrLimit, -1)
}

// 15.2: a text of MaxBody bytes is read, of one more it isn't, whatever is in it.
func TestReadOfLongTexts(t *testing.T) {
	text := "globals 1\nfn none 0\n" + strings.Repeat("  pop\n", api.MaxIns)
	text += strings.Repeat(" ", api.MaxBody-len(text))
	read(t, text, api.Program{Globals: 1, Fns: []api.Fn{{Code: slices.Repeat([]api.Ins{{Op: api.IPop}}, api.MaxIns)}}})
	unread(t, text+" ", api.ErrLimit, -1)
	unread(t, text+"\n", api.ErrLimit, -1)
	unread(t, strings.Repeat("x", api.MaxBody), api.ErrForm, 0)
	unread(t, strings.Repeat("x", api.MaxBody+1), api.ErrLimit, -1)
	unread(t, strings.Repeat("\n", api.MaxBody), api.ErrForm, api.MaxBody+1)
	unread(t, strings.Repeat("\n", api.MaxBody+1), api.ErrLimit, -1)
}

// 15.2: blanks, any many, and lines without words don't matter; no other sign is a blank.
func TestReadOfBlanks(t *testing.T) {
	want := api.Program{Globals: 1, Fns: []api.Fn{{Kind: api.Int, Params: 1, Locals: []int{api.Int}, Code: []api.Ins{{Op: api.IGet}, {Op: api.IRet}}}}}
	for _, text := range []string{
		"globals 1\nfn int 1 int\n  get 0\n  ret\n",
		"globals 1\nfn int 1 int\nget 0\nret",
		"   globals   1 \n  fn  int    1   int   \n      get     0    \n ret  ",
		"\n\n  \nglobals 1\n\nfn int 1 int\n  \n  get 0\n\n\n  ret\n\n \n",
	} {
		read(t, text, want)
	}
	for _, sign := range []string{"\t", "\r", "\v", "\f", "\x00", "\u00a0", "\u2003", "\u0085", "\xff", ",", ";"} {
		unread(t, "globals"+sign+"1\n", api.ErrForm, 0)
		unread(t, "globals 1"+sign+"\n", api.ErrForm, 0)
		unread(t, "globals 1\n"+sign+"\n", api.ErrForm, 1)
		unread(t, "globals 1\nfn int 1 int\nget"+sign+"0\n", api.ErrForm, 2)
		unread(t, "globals 1\nfn int 1 int\nret"+sign+"\n", api.ErrForm, 2)
	}
}

// 15.2: a text in which no line has words: how many lines there are.
func TestReadOfNoWords(t *testing.T) {
	for n, text := range []string{"", "\n", "\n\n", " \n  \n ", "    \n\n\n\n"} {
		unread(t, text, api.ErrForm, []int{1, 2, 3, 3, 5}[n])
	}
	unread(t, "     ", api.ErrForm, 1)
}

// 15.2: the first line with words.
func TestReadOfTheFirstLine(t *testing.T) {
	for _, line := range []string{
		"globals", "globals 1 1", "global 1", "Globals 1", "1", "1 globals", "globals1", "fn none 0", "ret", "push 1", "globals x",
		"globals 01", "globals +1", "globals -0", "globals 00", "globals 1.0", "globals 0x1", "globals 1_0", "globals -", "globals ٣",
		"globals 9223372036854775808", "globals -9223372036854775809", "globals 99999999999999999999999", "# globals 1",
	} {
		unread(t, line, api.ErrForm, 0)
		unread(t, "\n  \n"+line+"\nglobals 1\n", api.ErrForm, 2)
	}
	for _, n := range []string{"9", "-1", "9223372036854775807", "-9223372036854775808"} {
		unread(t, "globals "+n, api.ErrRange, -1)
	}
	unread(t, "globals 0\nglobals 0", api.ErrForm, 1)
	unread(t, "globals 0\nfn none 0\nglobals 0", api.ErrForm, 2)
}

// 15.2: a function's line; kinds and PARAMS.
func TestReadOfFunctions(t *testing.T) {
	kinds := []string{"none", "int", "bool", "chan"}
	for k, kind := range kinds {
		for l, local := range kinds[1:] {
			written(t, api.Program{Fns: []api.Fn{{Kind: k, Locals: []int{1 + l, 1}}}}, "globals 0\nfn "+kind+" 0 "+local+" int\n")
		}
	}
	for _, line := range []string{
		"fn", "fn none", "fn 0", "fn 0 none", "fn x 0", "fn 1 0", "fn none x", "fn none 00", "fn none -0", "fn none +1", "fn none 9223372036854775808",
		"fn none 0 none", "fn none 0 int none", "fn none 0 none int", "fn none 0 x", "fn none 0 1", "fn none 0 int int 0", "fn None 0", "fn none none",
		"func none 0", "Fn none 0", "fn none int 0", "fn  0 ", "fn none\x000",
	} {
		unread(t, "globals 0\n"+line, api.ErrForm, 1)
		unread(t, "globals 0\n\nfn none 0\n ret\n"+line+"\n ret", api.ErrForm, 4)
	}
	for _, n := range []string{"1", "-1", "13", "9223372036854775807", "-9223372036854775808"} {
		unread(t, "globals 0\nfn none "+n, api.ErrRange, -1)
	}
}

// 15.2: instructions stand in functions, and have a name.
func TestReadOfInstructions(t *testing.T) {
	for _, line := range []string{"ret", "push 1", "bin +", "select 0"} {
		unread(t, "globals 0\n"+line, api.ErrForm, 1)
		unread(t, "globals 0\n\n"+line+"\nfn none 0\n", api.ErrForm, 2)
	}
	for _, line := range []string{
		"x", "Ret", "ret ret", "RET", "re", "rets", "0", "14", "1 1", "push", "push 01", "push +1", "push -0", "push --1", "push 1 1", "push x", "push 1e3",
		"push 9223372036854775808", "push -9223372036854775809", "pop 1", "none", "int", "chan 1", "true", "case", "else", "jump -", "push 1;", "ret # done", "\x00",
	} {
		unread(t, "globals 0\nfn none 0\n  "+line+"\n", api.ErrForm, 2)
		unread(t, "globals 0\nfn none 0\n  ret\n\nfn int 0\n  ret\n"+line+"\nx\n", api.ErrForm, 6)
	}
}

// 15.2: Right's errors, which have no place, behind all that is ErrForm.
func TestReadOfWhatIsNotRight(t *testing.T) {
	fn := "fn none 0\n"
	for _, l := range []struct {
		text string
		want api.Errno
	}{
		{"globals 9\n" + fn, api.ErrRange},
		{"globals 0\n" + strings.Repeat(fn, api.MaxFuncs+1), api.ErrLimit},
		{"globals 0\nfn none 0" + strings.Repeat(" int", api.MaxVars+1) + "\n", api.ErrLimit},
		{"globals 0\n" + fn + strings.Repeat("ret\n", api.MaxIns+1), api.ErrLimit},
		{"globals 0\nfn none 2 int\n", api.ErrRange},
		{"globals 0\n" + fn + "bool 2\n", api.ErrArg},
		{"globals 0\n" + fn + "bool -1\n", api.ErrArg},
		{"globals 0\n" + fn + "get -1\n", api.ErrArg},
		{"globals 0\n" + fn + "caseelse -9223372036854775808\n", api.ErrArg},
		{"globals 9\n" + fn + "get -1\n", api.ErrRange},
		{"globals 0\n" + fn + "get -1\nfn none 2\n", api.ErrArg},
	} {
		unread(t, l.text, l.want, -1)
		unread(t, l.text+"x", api.ErrForm, strings.Count(l.text, "\n"))
	}
	read(t, "globals 8\n"+strings.Repeat(fn, api.MaxFuncs), api.Program{Globals: 8, Fns: make([]api.Fn, api.MaxFuncs)})
}
