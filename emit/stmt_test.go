package emit_test

import "testing"

// 17.3: Let: Value, ISet; the name is LET behind Value.
func TestLet(t *testing.T) {
	main(t, "x := 1 + 2", "none 0 int; push 1; push 2; bin +; set 0; ret")
	main(t, "g := g; if true { g := g + g; print g }", "none 0 int int; load 0; set 0; bool 1; false 10; get 0; get 0; bin +; set 1; get 1; print; ret")
	main(t, "x := 1; if true { y := x; x := true; z := x }", "none 0 int int bool bool; push 1; set 0; bool 1; false 10; get 0; set 1; bool 1; set 2; get 2; set 3; ret")
}

// 17.3: Set: Value, ISet or IStore.
func TestSet(t *testing.T) {
	main(t, "g = 1; h = g; x := nil; x = make(2); h = 3", "none 0 chan; push 1; store 0; load 0; store 1; nil; set 0; push 2; make; set 0; push 3; store 1; ret")
	main(t, "x := 1; if true { x = 2; x := 3; x = 4 }; x = x - 5", "none 0 int int; push 1; set 0; bool 1; false 10; push 2; set 0; push 3; set 1; push 4; set 1; get 0; push 5; bin -; set 0; ret")
}

// 17.3: Send: To, Value, ISend.
func TestSend(t *testing.T) {
	main(t, "c := nil; c <- 1; make(g) <- <-c", "none 0 chan; nil; set 0; get 0; push 1; send; load 0; make; get 0; recv; send; ret")
}

// 17.3: Close, Print, Sleep: Value, IClose, IPrint, ISleep.
func TestOfOne(t *testing.T) {
	main(t, "close(never()); print g; sleep 1 + 2", "none 0; call 3; close; load 0; print; push 1; push 2; bin +; sleep; ret")
}

// 17.3: Go: its arguments, IGo; of whatever the function answers nothing is dropped.
func TestGo(t *testing.T) {
	main(t, "go none(); go one(g + 1); go wide(1, false, nil); go main(); go no()", "none 0; go 4; load 0; push 1; bin +; go 1; push 1; bool 0; nil; go 5; go 0; go 2; ret")
}

// 17.3: Do: Value, and IPop, if it is of a kind.
func TestDo(t *testing.T) {
	main(t, "none(); one(1); no(); never(); <-never(); main(); wide(1, true, nil)",
		"none 0; call 4; push 1; call 1; pop; call 2; pop; call 3; pop; call 3; recv; pop; call 0; push 1; bool 1; nil; call 5; ret")
	main(t, "(none()); (one(1)); (<-nil); <-(make(1))", "none 0; call 4; push 1; call 1; pop; nil; recv; pop; push 1; make; recv; pop; ret")
}

// 17.3: Return: Value, if any, IRet.
func TestReturn(t *testing.T) {
	main(t, "return; print 1; return", "none 0; ret; push 1; print; ret; ret")
	is(t, "func main() {}; func f(a int) int { if a == 1 { return a * 2 }; return f(a - 1) }; func p(b bool) bool { return !b || p(true) }; func c() chan { return make(0) }",
		"none 0; ret", "int 1 int; get 0; push 1; bin ==; false 8; get 0; push 2; bin *; ret; get 0; push 1; bin -; call 1; ret; push 0; ret",
		"bool 1 bool; get 0; un !; false 5; bool 1; jump 7; bool 1; call 2; ret; bool 0; ret", "chan 0; push 0; make; ret; nil; ret")
}

// 17.3: If: Value, IFalse (behind Then; to Else, if that has a statement), Then; has Else a statement: IJump (behind all), Else.
func TestIf(t *testing.T) {
	main(t, "if no() { print 1 }; print 2", "none 0; call 2; false 4; push 1; print; push 2; print; ret")
	main(t, "if no() { print 1 } else { print 2 }; print 3", "none 0; call 2; false 5; push 1; print; jump 7; push 2; print; push 3; print; ret")
	main(t, "if no() { print 1 } else { }; print 3", "none 0; call 2; false 4; push 1; print; push 3; print; ret")
	main(t, "if no() { } else { print 2 }; print 3", "none 0; call 2; false 3; jump 5; push 2; print; push 3; print; ret")
	main(t, "if no() { }", "none 0; call 2; false 2; ret")
	main(t, "if no() { } else { }", "none 0; call 2; false 2; ret")
	main(t, "if no() { return } else { return }", "none 0; call 2; false 4; ret; jump 5; ret; ret")
	main(t, "if no() { if true { print 1 } else { print 2 } } else { if false { print 3 } }",
		"none 0; call 2; false 10; bool 1; false 7; push 1; print; jump 9; push 2; print; jump 14; bool 0; false 14; push 3; print; ret")
	main(t, "if true && false { print 1 }", "none 0; bool 1; false 4; bool 0; jump 5; bool 0; false 8; push 1; print; ret")
	main(t, "if true { } else { for false { } }", "none 0; bool 1; false 3; jump 6; bool 0; false 6; jump 3; ret")
}

// 17.3: For: Value, IFalse (behind all), Then, IJump (to Value's beginning).
func TestFor(t *testing.T) {
	main(t, "for g < 3 { print 1 }; print 2", "none 0; load 0; push 3; bin <; false 7; push 1; print; jump 0; push 2; print; ret")
	main(t, "print 1; for no() { }", "none 0; push 1; print; call 2; false 5; jump 2; ret")
	main(t, "for no() || true { g = 1 }", "none 0; call 2; false 4; bool 1; jump 5; bool 1; false 9; push 1; store 0; jump 0; ret")
	main(t, "for true { for false { print 1 }; print 2 }; print 3",
		"none 0; bool 1; false 10; bool 0; false 7; push 1; print; jump 2; push 2; print; jump 0; push 3; print; ret")
	main(t, "for true { return }", "none 0; bool 1; false 4; ret; jump 0; ret")
}

// 17.3: Break: IJump (behind all of the For), Continue: IJump (to its Value's beginning); of the innermost one.
func TestBreakAndContinue(t *testing.T) {
	main(t, "for true { break }; print 1", "none 0; bool 1; false 4; jump 4; jump 0; push 1; print; ret")
	main(t, "print 1; for g < 2 { continue }; print 1", "none 0; push 1; print; load 0; push 2; bin <; false 8; jump 2; jump 2; push 1; print; ret")
	main(t, "for true { break; for false { continue; break; break }; break; continue }; print 1",
		"none 0; bool 1; false 12; jump 12; bool 0; false 9; jump 3; jump 9; jump 9; jump 3; jump 12; jump 0; jump 0; push 1; print; ret")
	main(t, "for true { if no() { break } else { continue }; print 1 }",
		"none 0; bool 1; false 10; call 2; false 6; jump 10; jump 7; jump 0; push 1; print; jump 0; ret")
	main(t, "for true { for false { }; if true { if true { break } }; continue }",
		"none 0; bool 1; false 12; bool 0; false 5; jump 2; bool 1; false 10; bool 1; false 10; jump 12; jump 0; jump 0; ret")
	main(t, "for true { select { case <-nil: break; default: continue }; print 1 }",
		"none 0; bool 1; false 14; nil; select 2; caserecv 6; caseelse 9; pop; jump 14; jump 11; jump 0; jump 11; push 1; print; jump 0; ret")
	main(t, "for no() { break }; for no() { continue }; for no() { break }",
		"none 0; call 2; false 4; jump 4; jump 0; call 2; false 8; jump 4; jump 4; call 2; false 12; jump 12; jump 8; ret")
}

// 17.3: Select: To and Value of each case, ISelect, the cases, each leading to its own: ISet of its Name, or, of a Recv without one, IPop; its Body; IJump (behind all).
func TestSelect(t *testing.T) {
	main(t, "c := nil; select { case c <- 1: print 2; case x := <-c: print x; case <-c: print 3; default: print 4 }; print 5",
		"none 0 chan int; nil; set 0; get 0; push 1; get 0; get 0; select 4; casesend 11; caserecv 14; caserecv 18; caseelse 22; "+
			"push 2; print; jump 25; set 1; get 1; print; jump 25; pop; push 3; print; jump 25; push 4; print; jump 25; push 5; print; ret")
	main(t, "select { }; print 1", "none 0; select 0; push 1; print; ret")
	main(t, "select { default: }", "none 0; select 1; caseelse 2; jump 3; ret")
	main(t, "select { default: print 1; case nil <- g: }; print 2",
		"none 0; nil; load 0; select 2; caseelse 5; casesend 8; push 1; print; jump 9; jump 9; push 2; print; ret")
	main(t, "select { case <-never(): }", "none 0; call 3; select 1; caserecv 3; pop; jump 5; ret")
	main(t, "select { case x := <-nil: }", "none 0 int; nil; select 1; caserecv 3; set 0; jump 5; ret")
	main(t, "select { case <-nil: return; case nil <- 1: return }", "none 0; nil; nil; push 1; select 2; caserecv 6; casesend 9; pop; ret; jump 11; ret; jump 11; ret")
}

// 17.3: what a select's cases take is reckoned in their order, ahead of all names that are LET in them.
func TestWhatCasesTake(t *testing.T) {
	main(t, "select { case g := <-make(g): print g; case make(one(h)) <- g + 1: print g; case h := <-make(h): h = 1 }; h = 2",
		"none 0 int int; load 0; make; load 1; call 1; make; load 0; push 1; bin +; load 1; make; select 3; caserecv 14; casesend 18; caserecv 21; "+
			"set 0; get 0; print; jump 25; load 0; print; jump 25; set 1; push 1; set 1; jump 25; push 2; store 1; ret")
	main(t, "x := nil; select { case x := <-x: print x; case <-x: close(x) }; close(x)",
		"none 0 chan int; nil; set 0; get 0; get 0; select 2; caserecv 7; caserecv 11; set 1; get 1; print; jump 15; pop; get 0; close; jump 15; get 0; close; ret")
}

// 17.3: selects in selects, and in loops, lead behind their own ends.
func TestSelectsInSelects(t *testing.T) {
	main(t, "select { default: select { default: print 1; case <-nil: }; print 2; case nil <- 3: if true { select { } } }; print 4",
		"none 0; nil; push 3; select 2; caseelse 5; casesend 17; nil; select 2; caseelse 9; caserecv 12; push 1; print; jump 14; pop; jump 14; "+
			"push 2; print; jump 21; bool 1; false 20; select 0; jump 21; push 4; print; ret")
}
