package walk_test

import (
	"fmt"
	"slices"
	"strconv"
	"strings"
	"testing"

	"sluiceway/api"
	"sluiceway/plain"
	"sluiceway/tree"
	"sluiceway/walk"
)

// names are how the tests write what is asked for.
var names = map[int]string{
	api.AskEnd: "END", api.AskPause: "PAUSE", api.AskFault: "FAULT", api.AskGo: "GO", api.AskTalk: "TALK", api.AskClose: "CLOSE",
	api.AskLen: "LEN", api.AskPrint: "PRINT", api.AskSleep: "SLEEP", api.AskLoad: "LOAD", api.AskStore: "STORE", api.AskMake: "MAKE",
}

// asked is what a task asks for as a text, with all that is in it: its number, if it has one, its list and its cases.
func asked(a api.Ask) string {
	s, known := names[a.What]
	if !known {
		s = "WHAT " + strconv.Itoa(a.What)
	}
	if !strings.Contains("END PAUSE TALK", s) || a.N != 0 {
		s += " " + strconv.Itoa(a.N)
	}
	if a.What == api.AskGo || len(a.Args) > 0 {
		s += " " + fmt.Sprint(a.Args)
	}
	for k, c := range a.Cases {
		if k > 0 {
			s += ","
		}
		switch c.What {
		case api.Send:
			s += fmt.Sprintf(" send %d %d", c.Chan, c.N)
		case api.Recv:
			s += fmt.Sprintf(" recv %d", c.Chan)
			if c.N != 0 {
				s += " with a number"
			}
		default:
			s += fmt.Sprint(" ", c)
		}
	}
	return s
}

// other is a case that is neither sent nor received, as asked writes it.
var other = fmt.Sprint(api.Talk{What: api.Else})

// parsed is a program of such a text.
func parsed(t *testing.T, text string) api.Source {
	t.Helper()
	src, err := tree.Parse(text)
	if err != nil {
		t.Fatalf("Parse(%q): %v", text, err)
	}
	return src
}

// made is a Walk of such a text, of which no task has begun.
func made(t *testing.T, text string) *walk.Walk {
	t.Helper()
	w, err := walk.New(parsed(t, text))
	if err != nil {
		_, place := plain.Place(err)
		t.Fatalf("New(%q): %v at %d", text, err, place)
	}
	return w
}

// asks says that a task asks for these, one behind the other: what it is given stands behind a `=`, its case, if it isn't 0, behind a `:`. (0, where none stands; nothing for what isn't answered.)
func asks(t *testing.T, w *walk.Walk, task int, lines ...string) {
	t.Helper()
	for k, line := range lines {
		want, answer, _ := strings.Cut(line, " = ")
		got := asked(w.Next(task))
		if got != want {
			t.Fatalf("task %d asks for %q as thing %d; want %q", task, got, k, want)
		}
		number, chosen, _ := strings.Cut(answer, ":")
		var a api.Answer
		a.N, _ = strconv.Atoi(number)
		a.Case, _ = strconv.Atoi(chosen)
		if what, _, _ := strings.Cut(want, " "); what != "END" && what != "PAUSE" && what != "FAULT" {
			w.Give(task, a)
		}
	}
}

// fns are functions that stand behind main in what does does, and globals.
const fns = `
var g
var h
func zero() int { }
func no() bool { }
func never() chan { }
func one(a int) int { return a + 1000 }
func say(a int) int { print a; return a }
func so(a int, b bool) bool { print a; return b }
func wide(a int, b bool, c chan) { print a; <-c; if b { print 1 } else { print 0 } }
func deep(a int) int { if a == 0 { return 0 }; return deep(a - 1) + 1 }
func over(a int) { over(a + 1) }
func wider(x int, y int) int { x = x + y; y = x + 1; print y; return y }
func lone() { x := g; print x }
`

// does says what main asks for, of these statements.
func does(t *testing.T, stmts string, lines ...string) {
	t.Helper()
	w := made(t, "func main() {\n"+stmts+"\n}"+fns)
	w.Begin(0, nil)
	asks(t, w, 0, lines...)
}

// is says what an expression is that asks for nothing: of kind Int.
func is(t *testing.T, x string, want int) {
	t.Helper()
	does(t, "print "+x, "PRINT "+strconv.Itoa(want), "END")
}

// truth says what an expression is that asks for nothing: of kind Bool.
func truth(t *testing.T, x string, want int) {
	t.Helper()
	does(t, "go so(7, "+x+")", fmt.Sprint("GO 6 [7 ", want, "]"), "END")
}

// 13.1: New, Start: Check's errors, and then nothing else.
func TestErrors(t *testing.T) {
	for text, want := range map[string]api.At{
		"":                                      {Err: api.ErrMissing, Place: -1},
		"func f() {}":                           {Err: api.ErrMissing, Place: -1},
		"func main() int {}":                    {Err: api.ErrFalse, Place: 5},
		"func main() { x = 1 }":                 {Err: api.ErrName, Place: 14},
		"func main() { print true }":            {Err: api.ErrFalse, Place: 20},
		"func main() { f() }":                   {Err: api.ErrMissing, Place: 14},
		"func main() { main(1) }":               {Err: api.ErrArg, Place: 14},
		"func main() { break }":                 {Err: api.ErrState, Place: 14},
		"var g; var g; func main() {}":          {Err: api.ErrTwice, Place: 11},
		"func main() {}; func f(a int) { g() }": {Err: api.ErrMissing, Place: 32},
	} {
		src := parsed(t, text)
		w, err := walk.New(src)
		if e, place := plain.Place(err); w != nil || e != want.Err || place != want.Place {
			t.Errorf("New(%q) = %v, %v at %d; want nil, %v at %d", text, w, err, place, want.Err, want.Place)
		}
		r, err := walk.Start(src)
		if e, place := plain.Place(err); r != nil || e != want.Err || place != want.Place {
			t.Errorf("Start(%q) = %v, %v at %d; want nil, %v at %d", text, r, err, place, want.Err, want.Place)
		}
	}
}

// 13.1: a task does a function, by its NUMBER: main is 0, wherever it stands; its parameters are the arguments; tasks are numbered as they begin, and have nothing in common.
func TestBegin(t *testing.T) {
	w := made(t, "func f(a int, b bool, c chan) { a = a + 1; c <- a; if b { print a } }; func main() { print 1; print 2 }; func k() { print 3 }")
	w.Begin(1, []int{41, 1, 9})
	w.Begin(0, nil)
	w.Begin(2, nil)
	w.Begin(1, []int{-5, 0, 3})
	asks(t, w, 1, "PRINT 1")
	asks(t, w, 0, "TALK send 9 42")
	asks(t, w, 2, "PRINT 3", "END")
	asks(t, w, 3, "TALK send 3 -4", "END")
	asks(t, w, 0, "PRINT 42", "END")
	asks(t, w, 1, "PRINT 2", "END")
}

// 13.1: Start is a room with as many globals as the program has, in which main has begun.
func TestStart(t *testing.T) {
	for n := range api.MaxGlobals + 1 {
		text := "func f(a int) { print a }; func main() { c := make(2); c <- 7; print len(c); sleep 3; go f(9)"
		want := make([]int, n)
		for k := range n {
			text = fmt.Sprintf("var v%d; %s; v%d = v%d + %d", n-1-k, text, k, k, k+1)
			want[k] = k + 1
		}
		r, err := walk.Start(parsed(t, text+"; for true {} }"))
		if err != nil {
			t.Fatal(err)
		}
		if h := r.Hall(); len(h.Globals) != n || h.End != api.Going || len(h.Tasks) != 1 || r.Choices() != 1 || len(r.Events()) > 0 {
			t.Fatalf("with %d globals: Hall = %v", n, h)
		}
		turns := r.Play(make([]api.Pick, 7+2*n)) // the one with the clock, too
		if r.Choices() != 2 || !r.Turn(api.Pick{Who: 1}) {
			t.Fatalf("with %d globals, behind %d turns: Hall = %v", n, turns, r.Hall())
		}
		if h := r.Hall(); !slices.Equal(h.Globals, want) || !slices.Equal(h.Out, []int{1, 9}) || h.Now != 3 || h.End != api.Going {
			t.Errorf("with %d globals: Hall = %v", n, h)
		}
	}
}

// 13.1: bools are 1 and 0; nil is 0.
func TestValuesAsNumbers(t *testing.T) {
	does(t, "go wide(5, true, nil); go wide(-6, false, nil)", "GO 7 [5 1 0]", "GO 7 [-6 0 0]", "END")
	does(t, "b := 1 < 2; c := never(); go wide(zero(), b, c); go wide(0, no(), c)", "GO 7 [0 1 0]", "GO 7 [0 0 0]", "END")
}
