package emit_test

import (
	"fmt"
	"reflect"
	"slices"
	"strings"
	"testing"

	"sluiceway/api"
	"sluiceway/asm"
	"sluiceway/check"
	"sluiceway/emit"
	"sluiceway/plain"
	"sluiceway/tree"
)

// parsed is a program of such a text.
func parsed(t *testing.T, text string) api.Source {
	t.Helper()
	src, err := tree.Parse(text)
	if err != nil {
		_, place := plain.Place(err)
		t.Fatalf("Parse(%q): %v at %d", text, err, place)
	}
	return src
}

// emitted is the program that is made of such a text.
func emitted(t *testing.T, text string) api.Program {
	t.Helper()
	p, err := emit.Emit(parsed(t, text))
	if err != nil {
		_, place := plain.Place(err)
		t.Fatalf("Emit(%q): %v at %d", text, err, place)
	}
	return p
}

// written is a program's text, a function a text: its head, and its instructions, with "; " between them.
func written(t *testing.T, p api.Program) []string {
	t.Helper()
	text, err := asm.Write(p)
	if err != nil {
		t.Fatalf("%v: %v", p, err)
	}
	fns := strings.Split(text, "\nfn ")[1:]
	for k, f := range fns {
		fns[k] = strings.ReplaceAll(strings.TrimSuffix(f, "\n"), "\n  ", "; ")
	}
	return fns
}

// is says what the functions of a text are.
func is(t *testing.T, text string, want ...string) {
	t.Helper()
	got := written(t, emitted(t, text))
	if len(got) != len(want) {
		t.Fatalf("%q: there are %d functions: %q; want %d", text, len(got), got, len(want))
	}
	for k := range want {
		if got[k] != want[k] {
			t.Errorf("%q: function %d is\n%s; want\n%s", text, k, got[k], want[k])
		}
	}
}

// fns are functions, of numbers from 1 on, and globals.
const fns = `
var g
var h
func one(a int) int { return a }
func no() bool { }
func never() chan { }
func none() { }
func wide(a int, b bool, c chan) { }
`

// main says what main is, of such statements: "none 0", its locals, and its instructions.
func main(t *testing.T, stmts, want string) {
	t.Helper()
	got := written(t, emitted(t, "func main() {\n"+stmts+"\n}"+fns))[0]
	if got != want {
		t.Errorf("%q: main is\n%s; want\n%s", stmts, got, want)
	}
}

// 17.1: Check's errors, with their places, and no program then.
func TestErrors(t *testing.T) {
	for text, want := range map[string]api.At{
		"":                            {Err: api.ErrMissing, Place: -1},
		"func f() {}":                 {Err: api.ErrMissing, Place: -1},
		"func main() int {}":          {Err: api.ErrFalse, Place: 5},
		"func main(a int) {}":         {Err: api.ErrFalse, Place: 5},
		"func main() { x = 1 }":       {Err: api.ErrName, Place: 14},
		"func main() { print x }":     {Err: api.ErrName, Place: 20},
		"func main() { x := x }":      {Err: api.ErrName, Place: 19},
		"func main() { print true }":  {Err: api.ErrFalse, Place: 20},
		"func main() { f() }":         {Err: api.ErrMissing, Place: 14},
		"func main() { main(1) }":     {Err: api.ErrArg, Place: 14},
		"func main() { break }":       {Err: api.ErrState, Place: 14},
		"func main() { continue }":    {Err: api.ErrState, Place: 14},
		"func main() { return 1 }":    {Err: api.ErrFalse, Place: 14},
		"func main() { x := main() }": {Err: api.ErrFalse, Place: 19},
		"func main() { select { default: x:=1; default: } }": {Err: api.ErrTwice, Place: 38},
		"var g; var g; func main() {}":                       {Err: api.ErrTwice, Place: 11},
		"var g; func g() {}; func main() {}":                 {Err: api.ErrTwice, Place: 12},
		"func main() {}; func main() {}":                     {Err: api.ErrTwice, Place: 21},
		"func main() {}; func f(a int) { g() }":              {Err: api.ErrMissing, Place: 32},
		"func main() { " + lets(13) + "}":                    {Err: api.ErrLimit, Place: 14 + len(lets(12))},
	} {
		src := parsed(t, text)
		p, err := emit.Emit(src)
		if e, place := plain.Place(err); e != want.Err || place != want.Place {
			t.Errorf("Emit(%q): %v at %d; want %v at %d", text, err, place, want.Err, want.Place)
		}
		if !reflect.DeepEqual(p, api.Program{}) {
			t.Errorf("Emit(%q) is %v beside an error", text, p)
		}
		e, place := plain.Place(check.Check(src))
		if e != want.Err || place != want.Place {
			t.Errorf("Check(%q) tells %v at %d; want %v at %d", text, e, place, want.Err, want.Place)
		}
	}
	if p, err := emit.Emit(api.Source{}); api.Tell(err) != api.ErrMissing || !reflect.DeepEqual(p, api.Program{}) {
		t.Errorf("of nothing: %v, %v", p, err)
	}
}

// lets are so many names that are let.
func lets(n int) string {
	s := ""
	for k := range n {
		s += fmt.Sprintf("v%c := 1; ", 'a'+k)
	}
	return s
}

// 17.1: the Program has as many Globals as there are.
func TestGlobals(t *testing.T) {
	for n := range api.MaxGlobals + 1 {
		text := "func main() {}; "
		for k := range n {
			text += fmt.Sprintf("var v%d; ", k)
		}
		if p := emitted(t, text); p.Globals != n {
			t.Errorf("of %d globals there are %d", n, p.Globals)
		}
	}
}

// 17.1: the functions by their NUMBERS: main first, wherever it stands; the others in their order.
func TestNumbers(t *testing.T) {
	is(t, "func main() { }", "none 0; ret")
	is(t, "func f() { print 1 }; func k() { main(); f(); k(); l() }; func main() { print 2; l(); k(); f() }; func l() { print 3; go main(); go f(); go k(); go l() }",
		"none 0; push 2; print; call 3; call 2; call 1; ret",
		"none 0; push 1; print; ret",
		"none 0; call 0; call 1; call 2; call 3; ret",
		"none 0; push 3; print; go 0; go 1; go 2; go 3; ret")
	text := ""
	want := []string{"none 0; ret"}
	for k := range api.MaxFuncs {
		if k == 7 {
			text += "func main() {}; "
			continue
		}
		text += fmt.Sprintf("func f%d() { print %d }; ", k, k)
		want = append(want, fmt.Sprintf("none 0; push %d; print; ret", k))
	}
	is(t, text, want...)
}

// 17.1: a function's Locals are its parameters, then, in the text's order, all names that are LET; Kind is its own.
func TestLocals(t *testing.T) {
	is(t, `func main() {}
func a() int { }
func b(x bool) bool { }
func c(x int, y chan, z bool) chan { }
func d(x chan, y chan) { }`,
		"none 0; ret", "int 0; push 0; ret", "bool 1 bool; bool 0; ret", "chan 3 int chan bool; nil; ret", "none 2 chan chan; ret")
	is(t, "func main() {}; func f(x chan, y bool) int { p := y; q := x; r := 1; return r }",
		"none 0; ret", "int 2 chan bool bool chan int; get 1; set 2; get 0; set 3; push 1; set 4; get 4; ret; push 0; ret")
	main(t, "a := 1; b := true; c := nil; d := make(2); e := a < 2; f := <-c; g := len(c); h := one(3); i := no(); j := never(); k := !e; l := -a",
		"none 0 int bool chan chan bool int int int bool chan bool int; push 1; set 0; bool 1; set 1; nil; set 2; push 2; make; set 3; "+
			"get 0; push 2; bin <; set 4; get 2; recv; set 5; get 2; len; set 6; push 3; call 1; set 7; call 2; set 8; call 3; set 9; get 4; un !; set 10; get 0; un -; set 11; ret")
	main(t, "a := true && false; b := true || false; c := 1 & 2", "none 0 bool bool int; bool 1; false 4; bool 0; jump 5; bool 0; set 0; bool 1; false 10; bool 1; jump 11; bool 0; set 1; push 1; push 2; bin &; set 2; ret")
}

// 17.1: each name that is LET is a local of its own, even if it is called as another one, and wherever its block has ended.
func TestEachNameItsOwn(t *testing.T) {
	main(t, "x := 1; if true { x := 2; print x; if true { x := true; b := x }; print x } else { x := 3; print x }; print x",
		"none 0 int int bool bool int; push 1; set 0; bool 1; false 17; push 2; set 1; get 1; print; bool 1; false 14; bool 1; set 2; get 2; set 3; "+
			"get 1; print; jump 21; push 3; set 4; get 4; print; get 0; print; ret")
	main(t, "for true { x := 1; print x }; for false { x := nil; close(x) }; x := 2; print x",
		"none 0 int chan int; bool 1; false 7; push 1; set 0; get 0; print; jump 0; bool 0; false 14; nil; set 1; get 1; close; jump 7; push 2; set 2; get 2; print; ret")
	main(t, "select { case x := <-nil: y := x; print y; case x := <-nil: print x; default: x := true; y := x }",
		"none 0 int int int bool bool; nil; nil; select 3; caserecv 6; caserecv 12; caseelse 16; "+
			"set 0; get 0; set 1; get 1; print; jump 21; set 2; get 2; print; jump 21; bool 1; set 3; get 3; set 4; jump 21; ret")
	is(t, "func main() {}; func f(x int) { if x == 1 { x := x; x = 5 }; x = 6 }",
		"none 0; ret", "none 1 int int; get 0; push 1; bin ==; false 8; get 0; set 1; push 5; set 1; push 6; set 0; ret")
}

// 17.1: as many names may be LET as there may be Locals.
func TestMostLocals(t *testing.T) {
	p := emitted(t, "func main() { "+lets(api.MaxVars)+" }")
	if l := p.Fns[0].Locals; !slices.Equal(l, slices.Repeat([]int{api.Int}, api.MaxVars)) {
		t.Errorf("the locals are %v", l)
	}
}

// 17.1 (9.2): a name that is LET hides others up to its block's end: globals, parameters, and those LET earlier.
func TestWhatHides(t *testing.T) {
	main(t, "print g; print h; if true { g := h; print g; h = g }; print g; h := 1; print h; h = 2",
		"none 0 int int; load 0; print; load 1; print; bool 1; false 12; load 1; set 0; get 0; print; get 0; store 1; load 0; print; push 1; set 1; get 1; print; push 2; set 1; ret")
	main(t, "one := 5; print one; print one(one)", "none 0 int; push 5; set 0; get 0; print; get 0; call 1; print; ret")
	is(t, "var main2; func f(main2 int) { main2 = main2 }; func main() { main2 = main2 }",
		"none 0; load 0; store 0; ret", "none 1 int; get 0; set 0; ret")
	is(t, "var a; var b; var c; func main() { c = a; print b }", "none 0; load 0; store 2; load 1; print; ret")
}

// P4: what comes out is the caller's, and the tree is as it was.
func TestMemory(t *testing.T) {
	const text = "var g; func main() { c := make(1); for g < 3 { g = g + 1; c <- g; if true { break } }; select { case x := <-c: print f(x, c); default: } }; func f(a int, c chan) int { return a }"
	src := parsed(t, text)
	p, err := emit.Emit(src)
	again, errAgain := emit.Emit(src)
	if err != nil || errAgain != nil || !reflect.DeepEqual(p, again) {
		t.Fatalf("%v, %v, and again %v, %v", p, err, again, errAgain)
	}
	if !reflect.DeepEqual(src, parsed(t, text)) {
		t.Errorf("the tree was written into: %v", src)
	}
	for k := range p.Fns {
		f := &p.Fns[k]
		clear(f.Code[:cap(f.Code)])
		clear(f.Locals[:cap(f.Locals)])
	}
	clear(p.Fns[:cap(p.Fns)])
	if third, err := emit.Emit(src); err != nil || !reflect.DeepEqual(third, again) || !reflect.DeepEqual(src, parsed(t, text)) {
		t.Errorf("behind what the caller wrote: %v, %v; want %v", third, err, again)
	}
}
