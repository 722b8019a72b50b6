package emit_test

import (
	"math"
	"strconv"
	"testing"

	"sluiceway/api"
	"sluiceway/arith"
)

// 17.2: Code is that of the statements, then IPush 0, IBool 0, or INil, if it has a Kind, then IRet; whatever stands ahead of it.
func TestEnd(t *testing.T) {
	main(t, "", "none 0; ret")
	main(t, "return", "none 0; ret; ret")
	is(t, `func main() { }
func a() int { return 7 }
func b() bool { return true }
func c() chan { return nil }
func d() { return }
func e() int { print 1 }
func f() bool { print 1 }
func k() chan { print 1 }
func l() int { for true { } }`,
		"none 0; ret", "int 0; push 7; ret; push 0; ret", "bool 0; bool 1; ret; bool 0; ret", "chan 0; nil; ret; nil; ret", "none 0; ret; ret",
		"int 0; push 1; print; push 0; ret", "bool 0; push 1; print; bool 0; ret", "chan 0; push 1; print; nil; ret", "int 0; bool 1; false 3; jump 0; push 0; ret")
}

// 17.2: Num: IPush; True: IBool; Nil: INil.
func TestConstants(t *testing.T) {
	for _, n := range []int{0, 1, 7, 50, 1 << 31, math.MaxInt} {
		main(t, "print "+strconv.Itoa(n), "none 0; push "+strconv.Itoa(n)+"; print; ret")
	}
	main(t, "go wide(3, true, nil); go wide(4, false, nil)", "none 0; push 3; bool 1; nil; go 5; push 4; bool 0; nil; go 5; ret")
}

// 17.2: Name: IGet of a local, ILoad of a global's place.
func TestNames(t *testing.T) {
	is(t, "var p; var q; var r; func main() { print r; print p; print q; x := 1; y := 2; print y; print x; print r }",
		"none 0 int int; load 2; print; load 0; print; load 1; print; push 1; set 0; push 2; set 1; get 1; print; get 0; print; load 2; print; ret")
	is(t, "func main() {}; func f(a int, b int, c int) { print c; print a; print b }", "none 0; ret", "none 3 int int int; get 2; print; get 0; print; get 1; print; ret")
}

// 17.2: Bin: Left, Right, IBin, of each op; of those that look at their right part just if they must nothing else is so.
func TestBin(t *testing.T) {
	for op := api.Add; op <= api.Ne; op++ {
		sign := arith.Sign(op)
		if op < api.Lt {
			main(t, "print 1 "+sign+" 2", "none 0; push 1; push 2; bin "+sign+"; print; ret")
			continue
		}
		main(t, "b := 1 "+sign+" 2", "none 0 bool; push 1; push 2; bin "+sign+"; set 0; ret")
	}
	main(t, "print 1 + 2 * 3 - (4 - 5)", "none 0; push 1; push 2; push 3; bin *; bin +; push 4; push 5; bin -; bin -; print; ret")
	main(t, "print one(g) / <-nil % len(nil)", "none 0; load 0; call 1; nil; recv; bin /; nil; len; bin %; print; ret")
}

// 17.2: the document's example: `return a + 1`, a being local 0.
func TestExample(t *testing.T) {
	p := emitted(t, "func main() {}; func f(a int) int { return a + 1 }")
	want := []api.Ins{{Op: api.IGet}, {Op: api.IPush, N: 1}, {Op: api.IBin, N: api.Add}, {Op: api.IRet}}
	for k, i := range want {
		if got := p.Fns[1].Code[k]; got != i {
			t.Errorf("instruction %d is %v; want %v", k, got, i)
		}
	}
}

// 17.2: AndAnd: Left, IFalse (to A), Right, IJump (behind A's instruction), A: IBool 0.
func TestAndAnd(t *testing.T) {
	main(t, "b := no() && 1 < g", "none 0 bool; call 2; false 6; push 1; load 0; bin <; jump 7; bool 0; set 0; ret")
	main(t, "b := true && true && false", "none 0 bool; bool 1; false 4; bool 1; jump 5; bool 0; false 8; bool 0; jump 9; bool 0; set 0; ret")
	main(t, "b := true && (true && false)", "none 0 bool; bool 1; false 8; bool 1; false 6; bool 0; jump 7; bool 0; jump 9; bool 0; set 0; ret")
}

// 17.2: OrOr: Left, IFalse (to A), IBool 1, IJump (behind all), A: Right.
func TestOrOr(t *testing.T) {
	main(t, "b := no() || 1 < g", "none 0 bool; call 2; false 4; bool 1; jump 7; push 1; load 0; bin <; set 0; ret")
	main(t, "b := true || true || false", "none 0 bool; bool 1; false 4; bool 1; jump 5; bool 1; false 8; bool 1; jump 9; bool 0; set 0; ret")
	main(t, "b := true || (true || false)", "none 0 bool; bool 1; false 4; bool 1; jump 9; bool 1; false 8; bool 1; jump 9; bool 0; set 0; ret")
	main(t, "b := true || false && true", "none 0 bool; bool 1; false 4; bool 1; jump 9; bool 0; false 8; bool 1; jump 9; bool 0; set 0; ret")
	main(t, "b := (true || false) && true", "none 0 bool; bool 1; false 4; bool 1; jump 5; bool 0; false 8; bool 1; jump 9; bool 0; set 0; ret")
}

// 17.2: Un: Left, IUn, of each op.
func TestUn(t *testing.T) {
	main(t, "print -1; print ^g; b := !no()", "none 0 bool; push 1; un -; print; load 0; un ^; print; call 2; un !; set 0; ret")
	main(t, "print -(-5); print ^-5; print -1 + 2; print -(1 + 2)",
		"none 0; push 5; un -; un -; print; push 5; un -; un ^; print; push 1; un -; push 2; bin +; print; push 1; push 2; bin +; un -; print; ret")
}

// 17.2: Call: its arguments, in their order, ICall.
func TestCall(t *testing.T) {
	main(t, "wide(g + 1, no() || true, make(2))", "none 0; load 0; push 1; bin +; call 2; false 7; bool 1; jump 8; bool 1; push 2; make; call 5; ret")
	main(t, "print one(one(one(1)) + one(2))", "none 0; push 1; call 1; call 1; push 2; call 1; bin +; call 1; print; ret")
}

// 17.2: Make, Len, Recv: Left, IMake, ILen, IRecv.
func TestOfChannels(t *testing.T) {
	main(t, "c := make(3); print len(c); print <-c", "none 0 chan; push 3; make; set 0; get 0; len; print; get 0; recv; print; ret")
	main(t, "print <-make(len(make(<-never())))", "none 0; call 3; recv; make; len; make; recv; print; ret")
}
