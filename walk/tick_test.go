package walk_test

import (
	"fmt"
	"math"
	"reflect"
	"slices"
	"strings"
	"testing"

	"sluiceway/api"
	"sluiceway/check"
	"sluiceway/walk"
)

// 13.4: of a For that is done for ever PAUSE is asked for behind Ticks of them, at each turn.
func TestPause(t *testing.T) {
	for _, loop := range []string{"for true { }", "for true { if true { continue } }", "for true { for false { }; for true { break } }", "for true { x := 1; select_() }"} {
		w := made(t, "func main() { "+loop+" }; func select_() { }")
		w.Begin(0, nil)
		asks(t, w, 0, slices.Repeat([]string{"PAUSE"}, 20)...)
	}
	w := made(t, "var n; func main() { x := 0; for true { x = x + 1; if x % 50 == 1 { print x } } }")
	w.Begin(0, nil)
	asks(t, w, 0, "PRINT 1", "PRINT 51", "PRINT 101")
}

// 13.4: PAUSE is asked for ahead of the TICK that is one too many; with that TICK it goes on.
func TestPauseIsAheadOfTheTick(t *testing.T) {
	does(t, "x := 0; for x < 50 { x = x + 1 }; print x", "PRINT 50", "END")
	does(t, "x := 0; for x < 51 { x = x + 1 }; print x", "PAUSE", "PRINT 51", "END")
	does(t, "x := 0; for x < 100 { x = x + 1 }; print x", "PAUSE", "PRINT 100", "END")
	does(t, "x := 0; for x < 101 { x = x + 1 }; print x", "PAUSE", "PAUSE", "PRINT 101", "END")
	does(t, "x := 0; for x < 60 { x = x + 1; if x == 51 { sleep x } }; print x", "SLEEP 51", "PRINT 60", "END")
	does(t, "x := 0; for x < 60 { x = x + 1; if x == 52 { sleep x } }; print x", "PAUSE", "SLEEP 52", "PRINT 60", "END")
}

// 13.3, 13.4: a TICK is behind Then, and behind what Continue leaves, but not behind Break, Return, or a Value that is 0.
func TestWhatTicks(t *testing.T) {
	const ticks = "x := 0; for x < 50 { x = x + 1 }; "
	does(t, ticks+"for false { }; print x", "PRINT 50", "END")
	does(t, ticks+"for true { break }; print x", "PRINT 50", "END")
	does(t, ticks+"for x == 50 { x = 51 }; print x", "PAUSE", "PRINT 51", "END")
	does(t, ticks+"for x == 50 { x = 51; continue }; print x", "PAUSE", "PRINT 51", "END")
	does(t, ticks+"for x == 50 { x = g; continue }; print x", "LOAD 0 = 4", "PRINT 4", "END")
	does(t, ticks+"if true { x = -x + 3 * 4 }; select { default: print x }; print len(nil)", "TALK "+other, "PRINT -38", "LEN 0", "PRINT 0", "END")
	does(t, ticks+"for true { return }", "END")
	does(t, ticks+"return", "END")
}

// 13.4: each Next has Ticks of its own, whatever the one before left, and whoever else goes on.
func TestTicksOfEachNext(t *testing.T) {
	does(t, "n := 0; for n < 3 { n = n + 1; x := 0; for x < 49 { x = x + 1 }; print n }", "PRINT 1", "PRINT 2", "PRINT 3", "END")
	does(t, "n := 0; for n < 3 { n = n + 1; x := 0; for x < 50 { x = x + 1 }; print n }", "PRINT 1", "PAUSE", "PRINT 2", "PAUSE", "PRINT 3", "END")
	w := made(t, "func main() { x := 0; for x < 50 { x = x + 1 }; print x; for x < 100 { x = x + 1 }; print x }")
	w.Begin(0, nil)
	w.Begin(0, nil)
	asks(t, w, 0, "PRINT 50")
	asks(t, w, 1, "PRINT 50")
	asks(t, w, 1, "PRINT 100")
	asks(t, w, 0, "PRINT 100", "END")
}

// 13.4: what Give tells of a PAUSE doesn't matter.
func TestPauseIsNotAnswered(t *testing.T) {
	w := made(t, "func main() { x := 0; for x < 60 { x = x + 1 }; print x }")
	w.Begin(0, nil)
	asks(t, w, 0, "PAUSE")
	w.Give(0, api.Answer{N: 5, Case: 3})
	asks(t, w, 0, "PRINT 60", "END")
}

// P1: a task that is asked again ahead of the answer asks for the same; an answer counts once.
func TestNextAheadOfGive(t *testing.T) {
	w := made(t, "var g; func main() { print 1 + g; c := make(2); select { case <-c: print 5; case c <- 6: print 7 } }")
	w.Begin(0, nil)
	for _, l := range [][2]string{{"LOAD 0", " = 4"}, {"PRINT 5", ""}, {"MAKE 2", " = 1"}, {"TALK recv 1, send 1 6", " = 0:1"}, {"PRINT 7", ""}} {
		for range 3 {
			if got := asked(w.Next(0)); got != l[0] {
				t.Fatalf("asks for %q; want %q", got, l[0])
			}
		}
		asks(t, w, 0, l[0]+l[1])
		w.Give(0, api.Answer{N: 99})
		w.Give(0, api.Answer{N: 98, Case: 1})
	}
	asks(t, w, 0, "END")
}

// P1: none panics, whatever task, function or arguments there are; the zero value has no functions.
func TestOddCalls(t *testing.T) {
	nothing := func(w *walk.Walk, task int) {
		t.Helper()
		if a := w.Next(task); !reflect.DeepEqual(a, api.Ask{}) {
			t.Errorf("task %d asks for %v", task, a)
		}
		w.Give(task, api.Answer{N: 1, Case: 2})
	}
	var none walk.Walk
	wrong, _ := walk.New(api.Source{})
	two := made(t, "func main() { print 1 }; func f(a int, b bool) { print a; if b { print 2 } }")
	for _, w := range []*walk.Walk{&none, wrong, two} {
		for _, k := range []int{0, -1, 1, math.MaxInt, math.MinInt} {
			nothing(w, k)
		}
		w.Begin(2, nil)
		w.Begin(-1, []int{1})
		w.Begin(math.MaxInt, nil)
		for k := range 3 {
			nothing(w, k)
			nothing(w, k)
		}
	}
	none.Begin(0, nil)
	nothing(&none, 3)
	two.Begin(1, nil)
	two.Begin(1, []int{5})
	two.Begin(1, []int{5, 1, 6, 7})
	two.Begin(0, []int{5, 1, 6, 7})
	asks(t, two, 3, "PRINT 0", "END")
	asks(t, two, 4, "PRINT 5", "END")
	asks(t, two, 5, "PRINT 5", "PRINT 2", "END")
	asks(t, two, 6, "PRINT 1", "END")
}

// P1: a case that isn't there may be told: then none is done.
func TestOddAnswers(t *testing.T) {
	for _, k := range []int{-1, 2, math.MinInt, math.MaxInt} {
		w := made(t, "func main() { print 8 + f() }; func f() int { select { case <-nil: print 1; case nil <- 5: print 2 }; return 3 }")
		w.Begin(0, nil)
		asks(t, w, 0, "TALK recv 0, send 0 5")
		w = made(t, "func main() { print 8 + f() }; func f() int { select { case <-nil: print 1; case nil <- 5: print 2 }; return 3 }")
		w.Begin(0, nil)
		w.Next(0)
		w.Give(0, api.Answer{Case: k, N: 4})
		asks(t, w, 0, "PRINT 11", "END")
	}
}

// P4: nothing of the program, or of the arguments, is kept, and what comes out is the caller's.
func TestMemory(t *testing.T) {
	src := parsed(t, "var g; func main() { go f(1, g); select { case x := <-nil: print x; case nil <- 5: f(3, 4) }; g = 6 }; func f(a int, b int) { for a < 9 { a = a + b; print a } }")
	again := parsed(t, "var g; func main() { go f(1, g); select { case x := <-nil: print x; case nil <- 5: f(3, 4) }; g = 6 }; func f(a int, b int) { for a < 9 { a = a + b; print a } }")
	w, err := walk.New(src)
	if err != nil {
		t.Fatal(err)
	}
	if !reflect.DeepEqual(src, again) {
		t.Error("the tree was written into")
	}
	spoilSource(src)
	args := []int{2, 5, 9}
	w.Begin(0, nil)
	w.Begin(1, args[:2])
	args[0], args[1], args[2] = 70, 80, 90
	asks(t, w, 1, "PRINT 7", "PRINT 12", "END")
	asks(t, w, 0, "LOAD 0 = 3")
	w.Next(0).Args[0] = 99
	asks(t, w, 0, "GO 1 [1 3]")
	w.Next(0).Cases[1] = api.Talk{}
	asks(t, w, 0, "TALK recv 0, send 0 5 = 0:1", "PRINT 7", "PRINT 11")
	w.Next(0).Args[0] = 99
	asks(t, w, 0, "STORE 0 [6]", "END")
}

// spoilSource writes into all of a program.
func spoilSource(src api.Source) {
	for k := range src.Globals {
		src.Globals[k].Name = "spoilt"
	}
	for k := range src.Funcs {
		f := &src.Funcs[k]
		f.Name = "spoilt"
		clear(f.Params)
		spoilStmts(f.Body)
	}
}

func spoilStmts(l []api.Stmt) {
	for k := range l {
		s := &l[k]
		spoilExprs(s.To, s.Value)
		spoilStmts(s.Then)
		spoilStmts(s.Else)
		for i := range s.Cases {
			spoilExprs(s.Cases[i].To, s.Cases[i].Value)
			spoilStmts(s.Cases[i].Body)
		}
		clear(s.Cases)
	}
	clear(l)
}

func spoilExprs(l ...*api.Expr) {
	for _, x := range l {
		if x != nil {
			spoilExprs(x.Left, x.Right)
			spoilExprs(x.Args...)
			clear(x.Args)
			*x = api.Expr{Code: api.Num, N: 12345}
		}
	}
}

// oddParts are expressions of which some are not as Parse tells them.
func oddParts() []*api.Expr {
	num := &api.Expr{Code: api.Num, N: 3}
	return []*api.Expr{
		nil, {}, num, {Code: api.True, N: -7}, {Code: api.Nil}, {Code: api.Name, Name: "x"}, {Code: api.Name, Name: "g"}, {Code: -1}, {Code: 99},
		{Code: api.Call, Name: "f"}, {Code: api.Call, Name: "k", Args: []*api.Expr{num}}, {Code: api.Call, Name: "k", Args: []*api.Expr{nil}},
		{Code: api.Num, Args: []*api.Expr{nil}}, {Code: api.Nil, Name: "k", Args: []*api.Expr{nil, num}},
		{Code: api.Recv, Left: &api.Expr{Code: api.Nil}}, {Code: api.Un, Op: api.Neg, Left: num}, {Code: api.Bin, Op: api.Add, Left: num, Right: num},
	}
}

// oddStmts are statements of two such parts, of which some are not as Parse tells them.
func oddStmts(code int, left, right *api.Expr) []api.Stmt {
	var l []api.Stmt
	for _, op := range []int{-1, 0, api.Add, api.Div, api.Lt, api.Bang, api.AndAnd, api.OrOr, 99} {
		x := &api.Expr{Code: code, Op: op, Name: "k", Left: left, Right: right, Args: []*api.Expr{left}}
		l = append(l, api.Stmt{Code: api.Do, Value: x}, api.Stmt{Code: api.Go, Value: x}, api.Stmt{Code: api.Print, Value: x})
	}
	one := []api.Case{{Code: code, Name: "v", To: left, Value: right, Body: []api.Stmt{{Code: api.Print, Value: right}}}}
	block := []api.Stmt{{Code: api.Break}, {Code: code}}
	return append(l,
		api.Stmt{Code: code, Name: "x", To: left, Value: right, Then: block, Else: []api.Stmt{{Code: api.Do, Value: left}}, Cases: one},
		api.Stmt{Code: api.Select, Cases: one},
		api.Stmt{Code: code, Name: "g", Value: left, Cases: one},
		api.Stmt{Code: api.For, Value: left, Then: []api.Stmt{{Code: code, Name: "x", To: left, Value: right, Cases: one}}},
	)
}

// P1: none panics, and each ends, whatever tree Check lets through.
func TestOddTrees(t *testing.T) {
	let := api.Stmt{Code: api.Let, Name: "x", Value: &api.Expr{Code: api.Num, N: 1}}
	started := 0
	for code := -1; code <= api.Else+1; code++ {
		for _, left := range oddParts() {
			for _, right := range oddParts() {
				for _, s := range oddStmts(code, left, right) {
					src := api.Source{Globals: []api.Global{{Name: "g"}}, Funcs: []api.Func{
						{Name: "f", Kind: api.Int}, {Name: "main", Body: []api.Stmt{let, s}}, {Name: "k", Params: []api.Param{{Name: "a", Kind: api.Int}}},
					}}
					w, err := walk.New(src)
					if checked := check.Check(src); api.Tell(err) != api.Tell(checked) {
						t.Fatalf("New: %v; Check: %v", err, checked)
					}
					if err == nil {
						started++
						goesOn(w)
					}
				}
			}
		}
	}
	if started < 10000 {
		t.Errorf("%d were started", started)
	}
}

// goesOn begins each function, and answers whatever they ask for.
func goesOn(w *walk.Walk) {
	for fn := range 4 {
		w.Begin(fn, nil)
		for k := range 12 {
			w.Next(fn)
			w.Give(fn, api.Answer{N: k % 2})
		}
	}
}

// P1: a program with more globals than there may be has no room.
func TestTooManyGlobals(t *testing.T) {
	src := parsed(t, "func main() { }")
	for k := range api.MaxGlobals + 1 {
		src.Globals = append(src.Globals, api.Global{Name: fmt.Sprint("v", k)})
	}
	if r, err := walk.Start(src); r != nil || api.Tell(err) != api.ErrRange {
		t.Errorf("Start = %v, %v", r, err)
	}
}

// 13.1 to 13.4: what is nested as deep as may be is reckoned, and done.
func TestDeepTrees(t *testing.T) {
	brackets := strings.Repeat("-(1 + ", 6) + "g" + strings.Repeat(")", 6)
	does(t, "print "+brackets, "LOAD 0 = 4", "PRINT 4", "END")
	deep := strings.Repeat("if g == 1 { for true { ", 5) + "print 7" + strings.Repeat("; break } }", 5)
	does(t, deep+"; print 8", append(slices.Repeat([]string{"LOAD 0 = 1"}, 5), "PRINT 7", "PRINT 8", "END")...)
}
