package fold_test

import (
	"math"
	"reflect"
	"slices"
	"strconv"
	"strings"
	"testing"

	"sluiceway/api"
	"sluiceway/arith"
	"sluiceway/check"
	"sluiceway/fold"
	"sluiceway/tree"
)

// die: numbers that look drawn, the same each time.
type die uint64

func (d *die) n(most int) int {
	*d = *d*6364136223846793005 + 1442695040888963407
	return int(uint64(*d>>33) % uint64(most))
}

// one is one of several texts.
func (d *die) one(texts ...string) string {
	return texts[d.n(len(texts))]
}

// number is a number that is drawn, as it is written; mostly it is known.
func (d *die) number(deep int) string {
	if deep == 0 {
		return d.one("0", "0", "1", "1", "2", "-1", "-3", "64", strconv.Itoa(math.MaxInt), strconv.Itoa(-math.MaxInt), "x", "y", "f(x)", "f(2)")
	}
	a, b := d.number(deep-1), d.number(deep-1)
	switch d.n(6) {
	case 0:
		return d.one("-", "^") + "(" + a + ")"
	case 1:
		return "f(" + a + ")"
	case 2:
		return a
	}
	return "(" + a + ") " + arith.Sign(api.Add+d.n(10)) + " (" + b + ")"
}

// truth is a bool that is drawn, as it is written; mostly it is known.
func (d *die) truth(deep int) string {
	if deep == 0 {
		return d.one("true", "true", "false", "false", "b", "p(1)", "p(x)")
	}
	a, b := d.truth(deep-1), d.truth(deep-1)
	switch d.n(8) {
	case 0:
		return "!(" + a + ")"
	case 1:
		return "p(" + d.number(deep-1) + ")"
	case 2:
		return "(" + d.number(deep-1) + ") " + arith.Sign(api.Lt+d.n(6)) + " (" + d.number(deep-1) + ")"
	case 3:
		return a
	}
	return "(" + a + ") " + d.one("&&", "||") + " (" + b + ")"
}

// stmts are statements that are drawn; those in a loop may leave it.
func (d *die) stmts(deep int, loop bool) string {
	s := ""
	for range d.n(4) {
		k := d.n(9)
		switch {
		case k == 0:
			s += "x = " + d.number(2)
		case k == 1:
			s += "b = " + d.truth(2)
		case k == 2 && loop:
			s += d.one("break", "continue", "return")
		case k < 5 || deep == 0:
			s += "print " + d.number(2)
		case k < 8:
			s += "if " + d.truth(2) + " {\n" + d.stmts(deep-1, loop) + "}"
			if d.n(2) == 0 {
				s += " else {\n" + d.stmts(deep-1, loop) + "}"
			}
		default:
			s += "for " + d.truth(1) + " {\n" + d.stmts(deep-1, true) + "}"
		}
		s += "\n"
	}
	return s
}

// program is a program that is drawn, of which nothing is wrong.
func (d *die) program() string {
	return "func main() {\nx := 1\ny := 2\nb := true\n" + d.stmts(3, false) + "}\nfunc f(a int) int { return a }\nfunc p(a int) bool { return a < 1 }\n"
}

// runner goes through main, and notes what it does: calls, what is printed, and how it ends.
type runner struct {
	did    []string
	values map[string]int
	turns  int // of loops that may be done yet
}

// ended is thrown where all ends.
type ended int

// spent is the way in which all ends for a runner that was in loops for long enough.
const spent ended = -1

// done is what main does; it is reckoned as it is written, whatever is known.
func done(src api.Source) []string {
	r := runner{values: map[string]int{}, turns: 30}
	func() {
		defer func() {
			if way, ok := recover().(ended); ok {
				r.note("end", int(way))
			}
		}()
		r.stmts(check.Numbers(src)[0].Body)
	}()
	return r.did
}

func (r *runner) note(what string, n int) {
	r.did = append(r.did, what+" "+strconv.Itoa(n))
}

// stmts does statements, and tells the Code of the one that leaves them (0: none does).
func (r *runner) stmts(list []api.Stmt) int {
	for _, s := range list {
		if left := r.stmt(s); left != 0 {
			return left
		}
	}
	return 0
}

// stmt does a statement, and tells its Code, if it leaves those about it.
func (r *runner) stmt(s api.Stmt) int {
	switch s.Code {
	case api.Let, api.Set:
		r.values[s.Name] = r.value(s.Value)
	case api.Print:
		r.note("print", r.value(s.Value))
	case api.If:
		if r.value(s.Value) == 1 {
			return r.stmts(s.Then)
		}
		return r.stmts(s.Else)
	case api.For:
		return r.loop(s)
	default:
		return s.Code
	}
	return 0
}

func (r *runner) loop(s api.Stmt) int {
	for r.value(s.Value) == 1 {
		if r.turns == 0 {
			panic(spent)
		}
		r.turns--
		switch r.stmts(s.Then) {
		case api.Break:
			return 0
		case api.Return:
			return api.Return
		}
	}
	return 0
}

// value is what an expression comes to.
func (r *runner) value(x *api.Expr) int {
	switch x.Code {
	case api.Name:
		return r.values[x.Name]
	case api.Call:
		n := r.value(x.Args[0])
		r.note(x.Name, n)
		if x.Name == "p" {
			return n & 1
		}
		return n*3 + 1
	case api.Un:
		return arith.Un(x.Op, r.value(x.Left))
	case api.Bin:
		return r.both(x)
	}
	return x.N
}

func (r *runner) both(x *api.Expr) int {
	left := r.value(x.Left)
	if x.Op == api.AndAnd && left == 0 || x.Op == api.OrOr && left == 1 {
		return left
	}
	right := r.value(x.Right)
	if x.Op == api.AndAnd || x.Op == api.OrOr {
		return right
	}
	n, way := arith.Bin(x.Op, left, right)
	if way != api.Going {
		panic(ended(way))
	}
	return n
}

// 10.1, 10.2: a program that is folded does the same, nothing is left in it that may be folded, and nothing is wrong with it.
func TestFoldOfDrawnPrograms(t *testing.T) {
	d := die(10)
	others, shorter, faults, loops := 0, 0, 0, 0
	for range 4000 {
		text := d.program()
		src := parsed(t, text)
		if err := check.Check(src); err != nil {
			t.Fatalf("Check(%q): %v", text, err)
		}
		did := done(src)
		got := fold.Fold(src)
		if now := done(got); !slices.Equal(now, did) {
			t.Fatalf("%s does %q; folded to %s it does %q", text, did, tree.Print(got), now)
		}
		if again := fold.Fold(got); !reflect.DeepEqual(again, got) {
			t.Fatalf("%s is folded to %s and that to %s", text, tree.Print(got), tree.Print(again))
		}
		if err := check.Check(got); err != nil {
			t.Fatalf("%s is folded to %s of which Check tells %v", text, tree.Print(got), err)
		}
		printed, folded := tree.Print(src), tree.Print(got)
		if folded != printed {
			others++
		}
		if strings.Count(folded, "\n") < strings.Count(printed, "\n") {
			shorter++
		}
		if len(did) > 0 {
			switch last := did[len(did)-1]; {
			case last == "end "+strconv.Itoa(int(spent)):
				loops++
			case strings.HasPrefix(last, "end "):
				faults++
			}
		}
	}
	if others < 2000 || shorter < 800 || faults < 200 || loops < 50 {
		t.Errorf("%d are folded to others, %d to shorter ones, %d end all, %d are in loops for long", others, shorter, faults, loops)
	}
}

// oddParts are expressions that may be a part of another one, of which some are not as Parse tells them.
func oddParts() []*api.Expr {
	return []*api.Expr{
		nil, {}, num(0, 1), num(1, 1), num(-5, 1), num(math.MinInt, 1), truth(0, 1), truth(1, 1), truth(-7, 1), name("x", 1),
		{Code: -1}, {Code: 99}, {Code: api.Un, Op: api.Neg}, {Code: api.Bin, Op: api.Add}, {Code: api.Make}, {Code: api.Call, Args: []*api.Expr{nil}},
		un(api.Neg, 1, num(math.MinInt, 1)), un(api.Neg, 1, num(-5, 1)),
	}
}

// P1: none panics, whatever it is given; what isn't there stays so.
func TestFoldOfOddTrees(t *testing.T) {
	fold.Fold(api.Source{})
	for code := -1; code <= api.Else+1; code++ {
		for _, left := range oddParts() {
			for _, right := range oddParts() {
				var stmts []api.Stmt
				for op := -1; op <= api.OrOr+1; op++ {
					x := &api.Expr{Code: code, Op: op, Left: left, Right: right, Args: []*api.Expr{left, right}}
					stmts = append(stmts, api.Stmt{Code: api.Print, Value: x})
				}
				stmts = append(stmts, api.Stmt{Code: code, To: left, Value: right}, api.Stmt{Cases: []api.Case{{Code: code, To: left, Value: right}}})
				got := fold.Fold(api.Source{Funcs: []api.Func{{Body: stmts}}})
				if len(got.Funcs) != 1 || len(got.Funcs[0].Body) < len(stmts)-1 {
					t.Fatalf("code %d: of %d statements more are left out than the If, or For", code, len(stmts))
				}
			}
		}
	}
}
