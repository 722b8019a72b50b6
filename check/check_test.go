package check_test

import (
	"reflect"
	"slices"
	"strconv"
	"strings"
	"testing"

	"sluiceway/api"
	"sluiceway/check"
	"sluiceway/lex"
	"sluiceway/plain"
	"sluiceway/tree"
)

// parsed is a text's tree, which it must have.
func parsed(t *testing.T, text string) api.Source {
	t.Helper()
	src, err := tree.Parse(text)
	if err != nil {
		e, place := plain.Place(err)
		t.Fatalf("Parse(%q): %d at %d", text, e, place)
	}
	return src
}

// good asks that nothing is wrong with a program.
func good(t *testing.T, text string) {
	t.Helper()
	wrongAt(t, text, api.OK, -1)
}

// wrong asks for a program's error; its place is that of the first token behind the @ in it, which is left out.
func wrong(t *testing.T, marked string, want api.Errno) {
	t.Helper()
	mark := strings.Index(marked, "@")
	if mark < 0 || strings.Count(marked, "@") > 1 {
		t.Fatalf("%q tells no place", marked)
	}
	text := marked[:mark] + marked[mark+1:]
	tokens, err := lex.Lex(text)
	if err != nil {
		t.Fatalf("Lex(%q): %v", text, err)
	}
	place := -1
	for _, token := range slices.Backward(tokens) {
		if token.At >= mark {
			place = token.At
		}
	}
	wrongAt(t, text, want, place)
}

// wrongAt asks for a program's error, and its place (-1: it has none).
func wrongAt(t *testing.T, text string, want api.Errno, place int) {
	t.Helper()
	err := check.Check(parsed(t, text))
	if e, at := plain.Place(err); e != want || at != place {
		t.Errorf("Check(%q): %d at %d; want %d at %d", text, e, at, want, place)
	}
}

// helpers are functions of each kind, behind one in which the statements stand.
const helpers = `
func none() {}
func number() int {
	return 1
}
func truth() bool { return true }
func pipe() chan { return nil }
func two(a int, b bool) int { return a }
func three(a chan, b chan, c bool) {}
`

// inMain is statements in main, in which x is 1, b true, and c a channel; g is a global.
func inMain(stmts string) string {
	return "var g\nfunc main() {\nx := 1; b := true; c := make(1)\n" + stmts + "\n}\n" + helpers
}

// 9.1: of the names that are there everywhere no two are the same.
func TestCheckOfNamesThatAreThereTwice(t *testing.T) {
	for _, text := range []string{
		"var a\nvar @a\n",
		"var a\nvar b\nvar @b\nvar a\nfunc main() {}\n",
		"var a\nvar b\nvar c\nvar @a\nvar b\n",
		"var a\nfunc main() {}\nvar @a\n",
		"func f() {}\nfunc f() {}\nvar b\nvar @b\n",
		"func a() {}\nvar a\nvar b\nvar @b\n",
		"var a\nfunc @a() {}\n",
		"func @a() {}\nvar a\n",
		"var main\nfunc @main() {}\n",
		"var main\nfunc f() {}\nfunc f2(x int) {}\nfunc @main() int {}\n",
		"func main() {}\nfunc @main() {}\n",
		"func main() {}\nfunc f() {}\nfunc g() {}\nfunc @f() {}\nfunc g() {}\n",
		"var g\nfunc main() {}\nfunc f() {}\nfunc @f() {}\nfunc g() {}\n",
		"var g\nfunc main() {}\nfunc f() {}\nfunc @g() {}\nfunc f() {}\n",
		"func f(a int, a int) {}\nfunc @f() {}\n",
		"func main(a int) int {}\nfunc @main() {}\n",
		"func main() { y() }\nfunc @main() {}\n",
	} {
		wrong(t, text, api.ErrTwice)
	}
	good(t, "var a\nvar b\nvar aa\nvar A\nfunc main() {}\nfunc ab() {}\nfunc Main() {}\n")
}

// 9.1: there is a main, which takes nothing, and answers nothing.
func TestCheckOfMain(t *testing.T) {
	for _, text := range []string{"", "var a\n", "func f() {}\n", "var main\n", "func mains() {}\nfunc Main() {}\nfunc mai() {}\n", "func f(a int, a int) {}\n", "func f() { break }\n", "func f() { main() }\n", "func f() { main := 1; print main }\n"} {
		wrongAt(t, text, api.ErrMissing, -1)
	}
	for _, text := range []string{
		"func @main(a int) {}\n",
		"func @main() int {}\n",
		"func @main() int { return 1 }\n",
		"func @main() bool { return true }\n",
		"func @main() chan { return nil }\n",
		"func @main(a chan, a chan) chan { x() }\n",
		"func f(a int, a int) { break }\nvar a\nfunc @main(a bool) {}\n",
	} {
		wrong(t, text, api.ErrFalse)
	}
	good(t, "func main() {}\n")
	good(t, "func f() int { return 1 }\nvar a\nfunc main() { return }\n")
	good(t, "func main() { main(); go main(); f() }\nfunc f() { main() }\n")
}

// 9.1: function by function, its parameters, and then its statements.
func TestCheckInOrder(t *testing.T) {
	for marked, want := range map[string]api.Errno{
		"func main() { @break; y = 1 }\nfunc f(a int, a int) {}\n":    api.ErrState,
		"func f(a int, @a int) { break }\nfunc main() { break }\n":    api.ErrTwice,
		"func f() { @y = 1 }\nfunc main() { break }\n":                api.ErrName,
		"func main() { print 1 }\nfunc f() { @y = 1 }\n":              api.ErrName,
		"func f() {}\nfunc main() { print @nil; y = 1 }\n":            api.ErrFalse,
		"func main() {}\nfunc f() {}\nfunc h() { @y() }\n":            api.ErrMissing,
		"func h() { f(@nil) }\nfunc f(a int) {}\nfunc main() {y()}\n": api.ErrFalse,
		"func f(a int, b bool, @a chan) {}\nfunc main() {}\n":         api.ErrTwice,
		"func f(a int, b bool, @b bool, a int) {}\nfunc main() {}\n":  api.ErrTwice,
	} {
		wrong(t, marked, want)
	}
}

// 9.2: a name is let once in a block.
func TestCheckOfNamesThatAreLetTwice(t *testing.T) {
	for _, stmts := range []string{
		"@x := 1",
		"y := 1; @y := 1",
		"y := 1; @y := nil",
		"if b { y := 1; @y := 2 }",
		"if b {} else { y := 1; @y := 2 }",
		"for b { y := 1; @y := 2 }",
		"select { case c <- 1: y := 1; @y := 1 }",
		"select { case <-c: y := 1; @y := 1 }",
		"select { default: y := 1; @y := 1 }",
		"select { case y := <-c: @y := 1 }",
		"select { case y := <-c: z := 1; print y; @y := nil }",
		"if b { x := 2 }; @x := 3",
		"if b { x := 2; if b { x := 2 }; @x := 3 }",
	} {
		wrong(t, inMain(stmts), api.ErrTwice)
	}
	wrong(t, "func main() {}\nfunc f(a int) { @a := 1 }\n", api.ErrTwice)
	wrong(t, "func main() {}\nfunc f(a int) { if a < 1 { a := 1 }; b := a; @a := b }\n", api.ErrTwice)
	for _, stmts := range []string{
		"g := 1",
		"g := true",
		"if b { x := 1 }; if b { x := 1 } else { x := 2 }; for b { x := 1 }",
		"select { case c <- 1: x := 1; case <-c: x := 1; case x := <-c: print x; default: x := 1 }",
		"select { case x := <-c: if b { x := nil; close(x) } }",
		"main := 1; number := 2; print main + number + number()",
		"if b { if b { if b { x := nil; close(x) }; print x } }",
	} {
		good(t, inMain(stmts))
	}
	good(t, "func main() {}\nfunc f(a int, f int) { if a < f { a := nil; f := true; close(a); if f {} } }\n")
	good(t, "func main() { x := 1 }\nfunc f(x chan) {}\nfunc h() { x := nil }\n")
}

// lets are so many names that are let, one behind the other.
func lets(from, n int) string {
	s := ""
	for k := range n {
		s += "v" + strconv.Itoa(from+k) + " := 1\n"
	}
	return s
}

// params are so many parameters.
func params(n int) string {
	var l []string
	for k := range n {
		l = append(l, "p"+strconv.Itoa(k)+" int")
	}
	return strings.Join(l, ", ")
}

// 9.2: MaxVars names are let in a function, wherever in it.
func TestCheckOfTooManyNames(t *testing.T) {
	most := api.MaxVars
	for _, l := range [][2]string{
		{"func main() {\n" + lets(0, most), "@y := 1\n}\n"},
		{"func main() {\n" + lets(0, most), "if true { @y := 1 }\n}\n"},
		{"func main() {\nif true {\n" + lets(0, most) + "}\n", "@y := 1\n}\n"},
		{"func main() {\nif true {\n" + lets(0, most) + "} else {\n", "@v0 := 1 }\n}\n"},
		{"func main() {\nfor true {\n" + lets(0, most-1) + "}\nv1 := 1\n", "for true { @v1 := 1 }\n}\n"},
		{"func main() {\n" + lets(0, most), "select { @case y := <-nil: break }\n}\n"},
		{"func main() {\n" + lets(0, most-1) + "select { case v0 := <-nil: }\n", "@y := 1\n}\n"},
		{"func main() {}\nfunc f(" + params(most) + ") {\n", "@y := 1\n}\n"},
		{"func main() {}\nfunc f(" + params(most-1) + ") {\nif true { y := 1 }\n", "@y := 1\n}\n"},
		{"func main() {}\nfunc f(" + params(1) + ") {\n" + lets(0, most-1), "@y := 1\n}\n"},
		{"func f() {\n" + lets(0, most) + "}\nfunc main() {\n" + lets(0, most), "@y := 1\n}\n"},
		{"var a\nvar b\nfunc main() {\n" + lets(0, most), "@a := 1\n}\n"},
	} {
		good(t, l[0]+"}\n"+strings.Repeat("}\n", strings.Count(l[0], "else {")))
		wrong(t, l[0]+l[1], api.ErrLimit)
	}
	wrong(t, "func main() {}\nfunc f("+params(most)+", @y int) {\nbreak\n}\n", api.ErrLimit)
	wrong(t, "func main() {}\nfunc f("+params(most)+", @p0 int) {}\n", api.ErrTwice)
	wrong(t, "func main() {\n"+lets(0, most)+"@v0 := 1\n}\n", api.ErrTwice)
	wrong(t, "func main() {\n"+lets(0, most)+"if true { @v0 := 1 }\n}\n", api.ErrLimit)
	wrong(t, "func main() {\n"+lets(0, most)+"y := @none()\n}\nfunc none() {}\n", api.ErrFalse)
	wrong(t, "func main() {\n"+lets(0, most)+"y := @z\n}\n", api.ErrName)
	good(t, "func main() {\n"+lets(0, most)+"v0 = 2; print v11\n}\nfunc f("+params(most)+") {}\nfunc h("+params(1)+") {\n"+lets(0, most-1)+"}\n")
}

// 9.2: a name is there from its statement on, up to its block's end.
func TestCheckOfWhereNamesAre(t *testing.T) {
	for _, stmts := range []string{
		"@y = 1",
		"print @y",
		"y := @y",
		"y := 1 + @y",
		"print @y; y := 1",
		"@y = 1; y := 1",
		"if b { y := 1 }; print @y",
		"if b { y := 1 } else { print @y }",
		"if @y { y := true }",
		"if b { @y = 1 }; y := 1",
		"for b { y := 1 }; print @y",
		"for @y { y := true }",
		"for b { print @y; y := 1 }",
		"select { case y := <-@y: print y }",
		"select { case y := <-c: print y; case @y <- 1: }",
		"select { case y := <-c: print y; default: print @y }",
		"select { case <-c: y := 1; case c <- @y: }",
		"select { case y := <-c: }; print @y",
		"select { case y := <-c: if b { z := y }; print @z }",
		"if b { if b { y := 1 }; print @y }",
		"print @number",
		"@main = 1",
		"print @X",
		"print @xx",
	} {
		wrong(t, inMain(stmts), api.ErrName)
	}
	wrong(t, "func main() { x := 1 }\nfunc f() { print @x }\n", api.ErrName)
	wrong(t, "func f(a int) {}\nfunc main() { print @a }\n", api.ErrName)
	good(t, "func main() { g = 1; print g; f() }\nfunc f() { g = g + 1 }\nvar g\n")
}

// 9.2: a name that is let hides the others, and they are there again behind its block.
func TestCheckOfNamesThatHideOthers(t *testing.T) {
	for _, stmts := range []string{
		"g := nil; close(g)",
		"if b { g := nil; close(g) }; print g",
		"if b { x := nil; close(x) }; print x",
		"if b { x := nil; x = c; if b { x := true; x = b }; close(x) }; x = 2",
		"for b { b := 1; print b }; if b {}",
		"select { case c := <-c: print c; default: close(c) }",
		"select { case b := <-c: b = 2; case <-c: b = false }",
		"if b { x := x < 1; b = x; if x {} }",
		"if b { c := len(c); print c } else { c <- 1 }",
	} {
		good(t, inMain(stmts))
	}
	for _, stmts := range []string{
		"g := nil; print @g",
		"if b { x := nil; print @x }",
		"if b { x := nil; close(x) }; close(@x)",
		"if b { g := true; print @g }",
		"if b { g := true }; if @g {}",
		"if b { x := nil; if b { x := true; close(@x) } }",
		"if b { x := nil; if b { x := true }; if @x {} }",
		"select { case c := <-c: close(@c) }",
		"for b { b := 1; if @b {} }",
		"if b { x := nil } else { close(@x) }",
		"close(@g)",
	} {
		wrong(t, inMain(stmts), api.ErrFalse)
	}
	wrong(t, "var a\nfunc main() {}\nfunc f(a chan) { print @a }\n", api.ErrFalse)
	good(t, "var a\nfunc main() { print a }\nfunc f(a chan) { close(a) }\nfunc h() { print a }\n")
}

// kinds are expressions of each kind: of nothing, numbers, bools, and channels.
var kinds = [4][]string{
	api.None: {"none()", "three(c, c, b)", "main()"},
	api.Int:  {"0", "7", "x", "g", "<-c", "<-nil", "len(c)", "len(make(1))", "number()", "two(1, b)", "-x", "^x", "--1", "1 + x", "x - 1", "x * 1", "x / 0", "x % 1", "x & 1", "x | 1", "x ^ 1", "x << 1", "x >> 1", "(1)", "1 + 2 * 3", "<-c + <-c"},
	api.Bool: {"true", "false", "b", "truth()", "!b", "!!b", "!(x < 1)", "x < 1", "x <= 1", "x > 1", "x >= 1", "x == 1", "x != 1", "b && b", "b || b", "x < 1 && !b || truth()", "(b)"},
	api.Chan: {"nil", "c", "make(1)", "make(x + 1)", "make(<-c)", "pipe()", "(c)"},
}

// 9.3: the kind of each expression, told by where it may stand.
func TestCheckOfKinds(t *testing.T) {
	holes := [4]string{api.Int: "print @", api.Bool: "if @ {}", api.Chan: "close(@)"}
	for kind, l := range kinds {
		for _, x := range l {
			for want, hole := range holes {
				if want == api.None {
					continue
				}
				if text := inMain(strings.Replace(hole, "@", x, 1)); want == kind {
					good(t, text)
				} else {
					wantFalse(t, inMain(hole), x)
				}
			}
		}
	}
}

// wantFalse puts an expression where @ stands, and asks that it is not so there.
func wantFalse(t *testing.T, hole, x string) {
	t.Helper()
	mark := strings.Index(hole, "@")
	text := hole[:mark] + x + hole[mark+1:]
	src := parsed(t, "func f() { z := "+x+" }")
	place := mark + src.Funcs[0].Body[0].Value.At - len("func f() { z := ")
	wrongAt(t, text, api.ErrFalse, place)
}

// 9.3, 9.4: what must stand in each place where an expression may.
func TestCheckOfWhatIsWanted(t *testing.T) {
	for hole, want := range map[string]int{
		"print @":                               api.Int,
		"sleep @":                               api.Int,
		"close(@)":                              api.Chan,
		"x = @":                                 api.Int,
		"g = @":                                 api.Int,
		"b = @":                                 api.Bool,
		"c = @":                                 api.Chan,
		"c <- @":                                api.Int,
		"(@) <- 1":                              api.Chan,
		"<-(@)":                                 api.Chan,
		"if @ {}":                               api.Bool,
		"for @ {}":                              api.Bool,
		"if b {} else { if @ {} }":              api.Bool,
		"select { case <-(@): }":                api.Chan,
		"select { case y := <-(@): }":           api.Chan,
		"select { case (@) <- 1: }":             api.Chan,
		"select { case c <- @: }":               api.Int,
		"select { default: print @ }":           api.Int,
		"select { case c <- 1: print @ }":       api.Int,
		"select { case <-c: close(@) }":         api.Chan,
		"select { case y := <-c: y = @ }":       api.Int,
		"select { case <-c: default: if @ {} }": api.Bool,
		"y := <-(@)":                            api.Chan,
		"y := make(@)":                          api.Int,
		"y := len(@)":                           api.Chan,
		"y := -(@)":                             api.Int,
		"y := ^(@)":                             api.Int,
		"y := !(@)":                             api.Bool,
		"y := (@) + 1":                          api.Int,
		"y := 1 + (@)":                          api.Int,
		"y := (@) < 1":                          api.Int,
		"y := 1 < (@)":                          api.Int,
		"y := (@) == 1":                         api.Int,
		"y := 1 == (@)":                         api.Int,
		"y := 1 != (@)":                         api.Int,
		"y := (@) != 1":                         api.Int,
		"y := (@) && b":                         api.Bool,
		"y := b && (@)":                         api.Bool,
		"y := (@) || b":                         api.Bool,
		"y := b || (@)":                         api.Bool,
		"y := two(@, b)":                        api.Int,
		"y := two(1, @)":                        api.Bool,
		"three(@, c, b)":                        api.Chan,
		"three(c, @, b)":                        api.Chan,
		"three(c, c, @)":                        api.Bool,
		"go two(@, b)":                          api.Int,
		"go three(c, c, @)":                     api.Bool,
		"for b { print @ }":                     api.Int,
		"if b { if b { close(@) } }":            api.Chan,
	} {
		wanted(t, inMain(hole), want)
	}
	for want, kind := range []string{"", "int", "bool", "chan"} {
		if want != api.None {
			wanted(t, "var g\nfunc main() {}\nfunc f(x int, b bool, c chan) "+kind+" { return @ }\n"+helpers, want)
			wanted(t, "var g\nfunc main() {}\nfunc f(x int, b bool, c chan) "+kind+" { if b { return @ }; for b { print x } }\n"+helpers, want)
		}
	}
}

// wanted puts expressions of each kind where @ stands: it must be so.
func wanted(t *testing.T, hole string, want int) {
	t.Helper()
	for kind, l := range kinds {
		for _, x := range l {
			if kind == want {
				good(t, strings.Replace(hole, "@", x, 1))
			} else {
				wantFalse(t, hole, x)
			}
		}
	}
}

// 9.3, 6.2: each op of two takes two of its kind, and none of another one; the left one is looked at first.
func TestCheckOfOps(t *testing.T) {
	for ops, kind := range map[string][2]int{
		"+ - * / % & | ^ << >>": {api.Int, api.Int},
		"< <= > >= == !=":       {api.Int, api.Bool},
		"&& ||":                 {api.Bool, api.Bool},
	} {
		takes, other := [4]string{1: "x", 2: "b", 3: "c"}, [4]string{1: "b", 2: "x", 3: "x"}
		holds := [4]string{1: "x = ", 2: "b = "}
		for _, op := range strings.Fields(ops) {
			a, z := takes[kind[0]], other[kind[0]]
			good(t, inMain(holds[kind[1]]+a+op+a))
			wrong(t, inMain(holds[3-kind[1]]+a+" @"+op+" "+a), api.ErrFalse)
			wrong(t, inMain("c = "+a+" @"+op+" "+a), api.ErrFalse)
			for _, wrongOne := range []string{z, "c", "nil", "none()"} {
				wrong(t, inMain("y := @"+wrongOne+op+" "+a), api.ErrFalse)
				wrong(t, inMain("y := "+a+op+" @"+wrongOne), api.ErrFalse)
				wrong(t, inMain("y := @"+wrongOne+op+" "+wrongOne), api.ErrFalse)
				wrong(t, inMain("y := @"+wrongOne+op+" zz"), api.ErrFalse)
				wrong(t, inMain("y := @zz "+op+" "+wrongOne), api.ErrName)
			}
		}
	}
}

// 9.3: an expression that isn't as it must be is told behind all errors in it.
func TestCheckOfErrorsInExpressions(t *testing.T) {
	for stmts, want := range map[string]api.Errno{
		"close(1 + @zz)":            api.ErrName,
		"if -@zz {}":                api.ErrName,
		"print !@x":                 api.ErrFalse,
		"print x @< 1":              api.ErrFalse,
		"print x < @nil":            api.ErrFalse,
		"print make(@b)":            api.ErrFalse,
		"print @make(x)":            api.ErrFalse,
		"close(<-@x)":               api.ErrFalse,
		"close(@<-c)":               api.ErrFalse,
		"close(len(@x))":            api.ErrFalse,
		"close(@len(c))":            api.ErrFalse,
		"close(@zz())":              api.ErrMissing,
		"close(@two(1))":            api.ErrArg,
		"close(two(@b, b))":         api.ErrFalse,
		"close(@two(1, b))":         api.ErrFalse,
		"print 1 + 2 * @b":          api.ErrFalse,
		"print (x < 1) @&& b":       api.ErrFalse,
		"print @b + zz":             api.ErrFalse,
		"print (1 + @zz) + nil":     api.ErrName,
		"print (x @== 1) + zz":      api.ErrFalse,
		"if x + 1 < 2 && x @+ 1 {}": api.ErrFalse,
	} {
		wrong(t, inMain(stmts), want)
	}
}

// 9.3: calls: the function, how many arguments, each of them in its order.
func TestCheckOfCalls(t *testing.T) {
	for stmts, want := range map[string]api.Errno{
		"@zz()":                         api.ErrMissing,
		"@x()":                          api.ErrMissing,
		"@g()":                          api.ErrMissing,
		"@Number()":                     api.ErrMissing,
		"go @zz()":                      api.ErrMissing,
		"go @zz(yy)":                    api.ErrMissing,
		"@zz(yy, b + b)":                api.ErrMissing,
		"print 1 + @zz(nil)":            api.ErrMissing,
		"f := 1; @f()":                  api.ErrMissing,
		"@none(1)":                      api.ErrArg,
		"@none(zz)":                     api.ErrArg,
		"@two()":                        api.ErrArg,
		"@two(1)":                       api.ErrArg,
		"@two(zz)":                      api.ErrArg,
		"@two(nil, nil, nil)":           api.ErrArg,
		"@two(1, b, zz)":                api.ErrArg,
		"go @three(c, c)":               api.ErrArg,
		"@main(1)":                      api.ErrArg,
		"go @none(none())":              api.ErrArg,
		"two(@nil, zz)":                 api.ErrFalse,
		"two(@zz, nil)":                 api.ErrName,
		"two(1, @zz)":                   api.ErrName,
		"two(@b, 1)":                    api.ErrFalse,
		"two(1, @1)":                    api.ErrFalse,
		"go two(@b, 1)":                 api.ErrFalse,
		"three(c, two(1, @x), 1)":       api.ErrFalse,
		"three(c, @two(1, b), 1)":       api.ErrFalse,
		"three(c, c, @two(1, b))":       api.ErrFalse,
		"three(c, nil, @three(c, nil))": api.ErrArg,
		"two(two(two(1, @1), 1), 1)":    api.ErrFalse,
	} {
		wrong(t, inMain(stmts), want)
	}
	for _, stmts := range []string{"none()", "number()", "go number()", "pipe()", "truth()", "two(1, b)", "go two(1, b)", "three(c, nil, x < 1)", "two(two(1, true), !b)", "number := 1; number = number()", "main()"} {
		good(t, inMain(stmts))
	}
}

// 9.4: a value that is let is of a kind, and comes first.
func TestCheckOfLet(t *testing.T) {
	for stmts, want := range map[string]api.Errno{
		"y := @none()":                           api.ErrFalse,
		"y := (@none())":                         api.ErrFalse,
		"y := @three(c, c, b)":                   api.ErrFalse,
		"x := @none()":                           api.ErrFalse,
		"x := @zz":                               api.ErrName,
		"x := 1 + @b":                            api.ErrFalse,
		"@x := 1":                                api.ErrTwice,
		"y := 1; z := nil; w := y < 1; print @z": api.ErrFalse,
		"y := 1; z := nil; w := y < 1; close(@w)": api.ErrFalse,
	} {
		wrong(t, inMain(stmts), want)
	}
	for kind, l := range kinds {
		for _, x := range l {
			if kind == api.None {
				wantFalse(t, inMain("y := @"), x)
			} else {
				good(t, inMain("y := "+x+"\n"+[]string{"", "print y", "if y {}", "close(y)"}[kind]))
			}
		}
	}
}

// 9.4: what is set is there, and of its kind; the name is looked for first.
func TestCheckOfSet(t *testing.T) {
	for stmts, want := range map[string]api.Errno{
		"@y = 1":                    api.ErrName,
		"@y = zz":                   api.ErrName,
		"@y = b + b":                api.ErrName,
		"@number = 1":               api.ErrName,
		"x = @zz":                   api.ErrName,
		"x = @none()":               api.ErrFalse,
		"if b { x := nil; x = @1 }": api.ErrFalse,
		"if b { x := nil }; x = @c": api.ErrFalse,
		"g = @b":                    api.ErrFalse,
		"if b { g := b; g = @1 }":   api.ErrFalse,
	} {
		wrong(t, inMain(stmts), want)
	}
	good(t, inMain("x = 2; g = x; b = x < g; c = nil; if b { x := b; x = x && b }; x = 3"))
}

// 9.4: a channel comes ahead of what is sent into it.
func TestCheckOfSend(t *testing.T) {
	for stmts, want := range map[string]api.Errno{
		"@x <- zz":                        api.ErrFalse,
		"@x <- nil":                       api.ErrFalse,
		"@zz <- nil":                      api.ErrName,
		"c <- @nil":                       api.ErrFalse,
		"c <- @zz":                        api.ErrName,
		"select { case @x <- zz: }":       api.ErrFalse,
		"select { case @x <- nil: }":      api.ErrFalse,
		"select { case c <- @b: zz() }":   api.ErrFalse,
		"select { case <-@x: zz() }":      api.ErrFalse,
		"select { case x := <-@x: zz() }": api.ErrFalse,
	} {
		wrong(t, inMain(stmts), want)
	}
}

// 9.4: what is called, or received, and not asked for, is of whatever kind.
func TestCheckOfGoAndDo(t *testing.T) {
	for _, stmts := range []string{"none()", "number()", "truth()", "pipe()", "two(1, b)", "three(c, c, b)", "main()"} {
		good(t, inMain(stmts))
		good(t, inMain("go "+stmts))
	}
	good(t, inMain("<-c; <-nil; (<-make(1)); <-pipe()"))
	wrong(t, inMain("<-@number()"), api.ErrFalse)
	wrong(t, inMain("<-@none()"), api.ErrFalse)
	wrong(t, inMain("<-@<-c"), api.ErrFalse)
}

// 9.4: a return has a value just where its function has a kind.
func TestCheckOfReturn(t *testing.T) {
	for marked, want := range map[string]api.Errno{
		"func main() { @return 1 }\n":                                                      api.ErrFalse,
		"func main() { @return zz }\n":                                                     api.ErrFalse,
		"func main() { @return main() }\n":                                                 api.ErrFalse,
		"func main() { if true { @return nil }; return }\n":                                api.ErrFalse,
		"func main() {}\nfunc f() int { @return }\n":                                       api.ErrFalse,
		"func main() {}\nfunc f() bool { for true { @return } }\n":                         api.ErrFalse,
		"func main() {}\nfunc f() chan { select { default: @return; return nil } }\n":      api.ErrFalse,
		"func main() {}\nfunc f() int { return @nil }\n":                                   api.ErrFalse,
		"func main() {}\nfunc f() int { return @main() }\n":                                api.ErrFalse,
		"func main() {}\nfunc f() int { return @zz }\n":                                    api.ErrName,
		"func main() {}\nfunc f() bool { return @1 }\n":                                    api.ErrFalse,
		"func main() {}\nfunc f() chan { return 1 @+ 2 }\n":                                api.ErrFalse,
		"func f() int { return 1 }\nfunc main() { @return 1 }\n":                           api.ErrFalse,
		"func main() { return }\nfunc f() int { return 1 }\nfunc h() chan { return @1 }\n": api.ErrFalse,
	} {
		wrong(t, marked, want)
	}
	good(t, "func main() { return; return }\nfunc f() int { return 1; return f() }\nfunc h() chan { if true { return nil } else { return h() } }\nfunc k() bool { return f() < 1 }\nfunc n() {}\nfunc m() int {}\n")
}

// 9.4: break and continue lie in a loop of their function.
func TestCheckOfBreakAndContinue(t *testing.T) {
	for _, word := range []string{"break", "continue"} {
		for _, stmts := range []string{
			"@%", "if b { @% }", "if b {} else { @% }", "select { default: @% }", "select { case c <- 1: @% }", "select { case y := <-c: @% }",
			"for b {}; @%", "for b { for b { % } }; @%", "for b { if b { for b {} } }; if b { @% }", "if b { for b {} } else { @% }",
		} {
			if parts := strings.Split(stmts, "%"); len(parts) == 3 {
				stmts = parts[0] + word + parts[1] + word + parts[2]
			}
			wrong(t, inMain(strings.ReplaceAll(stmts, "%", word)), api.ErrState)
		}
		for _, stmts := range []string{
			"for b { % }", "for b { %; % }", "for b { if b { % } else { % } }", "for b { select { case c <- 1: %; case <-c: %; case y := <-c: %; default: % } }",
			"for b { for b { % }; % }", "for b { if b { if b { select { default: if b { % } } } } }", "for b { for b {}; % }", "for b {}; for b { % }",
		} {
			good(t, inMain(strings.ReplaceAll(stmts, "%", word)))
		}
		wrong(t, "func main() { for true { "+word+" } }\nfunc f() { @"+word+" }\n", api.ErrState)
		wrong(t, "func main() { for true { f() } }\nfunc f() { if true { @"+word+" } }\n", api.ErrState)
	}
}

// 9.4: if, for: what is asked comes first, and is not of the block.
func TestCheckOfIfAndFor(t *testing.T) {
	for stmts, want := range map[string]api.Errno{
		"if @x { zz() }":                      api.ErrFalse,
		"for @x { zz() }":                     api.ErrFalse,
		"if @zz { break }":                    api.ErrName,
		"for @zz { zz() }":                    api.ErrName,
		"if b { @zz() } else { break }":       api.ErrMissing,
		"if b {} else { @break; zz() }":       api.ErrState,
		"if b { @break } else { zz() }; yy()": api.ErrState,
		"for b { @zz() }; break":              api.ErrMissing,
	} {
		wrong(t, inMain(stmts), want)
	}
	good(t, inMain("if b { y := 1; print y } else { y := nil; close(y) }; y := b; for y { y := 2; print y }; if y {}"))
}

// 9.4: a select, case by case.
func TestCheckOfSelect(t *testing.T) {
	for stmts, want := range map[string]api.Errno{
		"select { default: @default: }":                           api.ErrTwice,
		"select { default: case <-c: @default: break }":           api.ErrTwice,
		"select { default: select { default: }; @default: }":      api.ErrTwice,
		"select { default: @break; default: }":                    api.ErrState,
		"select { default: case <-@x: default: }":                 api.ErrFalse,
		"select { case <-@x: default: default: }":                 api.ErrFalse,
		"select { case <-c: @zz(); case <-x: }":                   api.ErrMissing,
		"select { case <-c: @zz(); case <-x: default: default: }": api.ErrMissing,
		"select { case c <- @b: case <-x: }":                      api.ErrFalse,
		"select { case c <- 1: case <-@x: }":                      api.ErrFalse,
		"select { case y := <-c: close(@y) }":                     api.ErrFalse,
		"select { case y := <-c: if @y {} }":                      api.ErrFalse,
		"select { case y := <-c: case y := <-c: y = @nil }":       api.ErrFalse,
		"select { case y := <-c: @y := 1 }":                       api.ErrTwice,
		"select { case x := <-c: @x := 1 }":                       api.ErrTwice,
		"select { case y := <-c: y = 1; @zz = 1 }":                api.ErrName,
		"select { default: @zz(); default: }":                     api.ErrMissing,
	} {
		wrong(t, inMain(stmts), want)
	}
	for _, stmts := range []string{
		"select {}", "select { default: }", "select { default: case <-c: }", "select { default: select { default: } }", "select { case <-c: select { default: }; default: }",
		"select { default: }; select { default: }", "select { case y := <-c: y = y + 1; print y; case c <- x: case <-nil: x = 2 }", "select { case x := <-c: print x; case y := <-c: z := y; print z; case z := <-c: y := z; print y }",
	} {
		good(t, inMain(stmts))
	}
}

// 9.5: main is the first one, the others follow in their order.
func TestNumbers(t *testing.T) {
	for names, want := range map[string]string{
		"":                   "",
		"f":                  "",
		"f g Main mains mai": "",
		"main":               "main",
		"main f":             "main f",
		"f main":             "main f",
		"f g main h":         "main f g h",
		"main f g h":         "main f g h",
		"h g f main":         "main h g f",
		"z main y x":         "main z y x",
		"f main f g g":       "main f f g g",
		"f main g main h":    "main f g h",
		"main main main":     "main",
		"main main f":        "main f",
	} {
		var src api.Source
		var first int
		for k, name := range strings.Fields(names) {
			src.Funcs = append(src.Funcs, api.Func{Name: name, At: k, Kind: k % 4})
			if name == "main" && first == 0 {
				first = k + 1
			}
		}
		var got []string
		last := -1
		for k, f := range check.Numbers(src) {
			got = append(got, f.Name)
			if !reflect.DeepEqual(f, src.Funcs[f.At]) || k == 0 && f.At != first-1 || k > 0 && f.At <= last {
				t.Errorf("Numbers of %s: %+v at %d", names, f, k)
			}
			if k > 0 {
				last = f.At
			}
		}
		if strings.Join(got, " ") != want {
			t.Errorf("Numbers of %s: %s; want %s", names, strings.Join(got, " "), want)
		}
	}
}

// 9.5: it doesn't matter whether anything is wrong, and all of a function is told.
func TestNumbersOfWholeFunctions(t *testing.T) {
	src := parsed(t, "var a\nvar a\nfunc f(x int) int { break }\nfunc main(y chan) { zz = 1 }\nfunc f() { print 1 }\n")
	want := []api.Func{src.Funcs[1], src.Funcs[0], src.Funcs[2]}
	if got := check.Numbers(src); !reflect.DeepEqual(got, want) {
		t.Errorf("Numbers: %+v", got)
	}
}

// P4: what Numbers tells is fresh memory, and what was handed in stays as it was.
func TestNumbersAreFresh(t *testing.T) {
	for _, text := range []string{"func main() {}\n", "func main() {}\nfunc f() {}\nfunc h() {}\n", "func f() {}\nfunc main() {}\nfunc h() {}\n"} {
		src := parsed(t, text)
		got := check.Numbers(src)
		for k := range got {
			got[k].Name = "x"
		}
		_ = append(got, api.Func{Name: "y"})
		if want := parsed(t, text); !reflect.DeepEqual(src, want) {
			t.Errorf("Numbers of %q wrote into it: %+v", text, src)
		}
	}
	// What stands behind a list's length isn't the program's.
	room := make([]api.Func, 3)
	room[0], room[1], room[2] = api.Func{Name: "f"}, api.Func{Name: "main"}, api.Func{Name: "kept"}
	if got := check.Numbers(api.Source{Funcs: room[:2]}); len(got) != 2 || room[0].Name != "f" || room[1].Name != "main" || room[2].Name != "kept" {
		t.Errorf("Numbers: %+v, of %+v", got, room)
	}
}
