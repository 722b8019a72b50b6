package walk_test

import (
	"testing"

	"sluiceway/api"
)

// 13.3: a function ends behind its last statement, or by Return, whose Value it answers; at its end 0.
func TestReturn(t *testing.T) {
	w := made(t, `
func main() { print half(1); print half(2); b := half(3) == 0; go three(b); f(1); f(2); print last(); return; print 9 }
func half(a int) int { if a == 1 { return a + 4 }; print 7; if a == 2 { for true { for true { return 6 } } }; print 8 }
func f(a int) { if a == 1 { select { default: return }; print 1 }; print 2 }
func three(b bool) {}
func last() int { x := 1; for true { x := 2; if true { x := 3; return x } } }
`)
	w.Begin(0, nil)
	asks(t, w, 0, "PRINT 5", "PRINT 7", "PRINT 6", "PRINT 7", "PRINT 8", "GO 3 [1]", "TALK "+other, "PRINT 2", "PRINT 3", "END")
	does(t, "", "END")
	does(t, "return; print 1", "END")
	does(t, "x := 1; if true { return }; print x", "END")
}

// 13.3: is it the task's first one, the task asks for END; whatever it answers.
func TestEnd(t *testing.T) {
	w := made(t, "func main() { main2() }; func main2() {}; func k(a int) int { return a }; func back() int { return one() }; func one() int { return 5 }")
	for fn := range 5 {
		w.Begin(fn, []int{3})
		asks(t, w, fn, "END", "END")
		w.Give(fn, api.Answer{N: 4})
		asks(t, w, fn, "END")
	}
	does(t, "print 1", "PRINT 1", "END", "END")
}

// 13.3: Let: a new name in its block, behind its Value; it is there up to the block's end, and each time anew.
func TestLet(t *testing.T) {
	does(t, "x := 1; if true { x := x + 1; print x; if true { x := x * 5; print x }; print x }; print x", "PRINT 2", "PRINT 10", "PRINT 2", "PRINT 1", "END")
	does(t, "x := 1; if x == 2 {} else { x := 4; print x }; print x", "PRINT 4", "PRINT 1", "END")
	does(t, "n := 0; for n < 3 { x := n; n = n + 1; x = x * 10; print x }", "PRINT 0", "PRINT 10", "PRINT 20", "END")
	does(t, "g := g; print g; if true { g := 5 }; print g", "LOAD 0 = 2", "PRINT 2", "PRINT 2", "END")
	does(t, "b := true; c := make(1); go wide(0, b, c)", "MAKE 1 = 4", "GO 7 [0 1 4]", "END")
	does(t, "select { default: x := 2; print x }; select { default: x := 3; print x }", "TALK "+other, "PRINT 2", "TALK "+other, "PRINT 3", "END")
}

// 13.3: Set: the name LET last that is there is the Value; a global: STORE, behind what is reckoned.
func TestSet(t *testing.T) {
	does(t, "x := 1; x = x + 5; print x", "PRINT 6", "END")
	does(t, "x := 1; if true { x = 2; x := 3; x = 4; print x; x = 5 }; print x", "PRINT 4", "PRINT 2", "END")
	does(t, "x := 1; y := 2; if true { y := 3; x = y; y = 8 }; print x; print y", "PRINT 3", "PRINT 2", "END")
	does(t, "g = 5; h = say(4); print g", "STORE 0 [5]", "PRINT 4", "STORE 1 [4]", "LOAD 0 = 3", "PRINT 3", "END")
	does(t, "h = g + h", "LOAD 0 = 3", "LOAD 1 = 4", "STORE 1 [7]", "END")
	does(t, "g = 1; g := 2; g = 3; print g", "STORE 0 [1]", "PRINT 3", "END")
	does(t, "b := false; b = !b; c := nil; c = make(3); go wide(1, b, c)", "MAKE 3 = 2", "GO 7 [1 1 2]", "END")
}

// 13.3: Send: TALK of one Send, behind To, and then Value.
func TestSend(t *testing.T) {
	does(t, "c := make(0); c <- 5; c <- say(6); nil <- 7", "MAKE 0 = 3", "TALK send 3 5 = 9", "PRINT 6", "TALK send 3 6 = 9:5", "TALK send 0 7", "END")
	does(t, "make(g) <- h", "LOAD 0 = 2", "MAKE 2 = 1", "LOAD 1 = 7", "TALK send 1 7", "END")
}

// 13.3: Close, Print, Sleep: CLOSE, PRINT, SLEEP.
func TestOfOne(t *testing.T) {
	does(t, "c := make(0); close(c); close(nil); print 1 + 2; sleep 4 * 5; sleep -g; print 6", "MAKE 0 = 3", "CLOSE 3 = 8", "CLOSE 0", "PRINT 3 = 5", "SLEEP 20 = 7", "LOAD 0 = 4", "SLEEP -4", "PRINT 6", "END")
}

// 13.3: Go: behind its arguments GO; the function does nothing in this task.
func TestGo(t *testing.T) {
	does(t, "go say(say(3)); go lone(); go wide(g, h == 2, make(1)); print 1", "PRINT 3", "GO 5 [3] = 8", "GO 11 []", "LOAD 0 = 7", "LOAD 1 = 2", "MAKE 1 = 5", "GO 7 [7 1 5]", "PRINT 1", "END")
	does(t, "go over(1); go main()", "GO 9 [1]", "GO 0 []", "END")
}

// 13.3: Go: it is no call: no TICK, and any number of functions may go on.
func TestGoIsNoCall(t *testing.T) {
	does(t, "x := 0; for x < 50 { x = x + 1 }; go lone()", "GO 11 []", "END")
	w := made(t, "func main() {}; func up(n int) { if n == 16 { go up(1) } else { up(n + 1) } }")
	w.Begin(1, []int{1})
	asks(t, w, 0, "GO 1 [1]", "END")
}

// 13.3: Do: its Value, which is dropped.
func TestDo(t *testing.T) {
	does(t, "say(3); <-nil; lone(); zero(); <-make(2); print 1 + 1", "PRINT 3", "TALK recv 0 = 4", "LOAD 0 = 6", "PRINT 6", "MAKE 2 = 1", "TALK recv 1 = 7", "PRINT 2", "END")
}

// 13.3: If: Then, if its Value is 1, else Else.
func TestIf(t *testing.T) {
	does(t, "if true { print 1 }; if false { print 2 }; if false {} else { print 3 }; if true {} else { print 4 }; print 5", "PRINT 1", "PRINT 3", "PRINT 5", "END")
	does(t, "if so(1, true) { print 2 } else { print 3 }; if so(4, false) { print 5 } else { print 6 }", "PRINT 1", "PRINT 2", "PRINT 4", "PRINT 6", "END")
	does(t, "if g < 3 { if g < 2 { print 1 } else { print 2 } } else { print 3 }", "LOAD 0 = 2", "LOAD 0 = 5", "PRINT 2", "END")
}

// 13.3: For: as long as Value is 1 Then is done, and Value reckoned anew.
func TestFor(t *testing.T) {
	does(t, "for false { print 1 }; print 2", "PRINT 2", "END")
	does(t, "for g < 3 { print 1 }; print 2", "LOAD 0 = 1", "PRINT 1", "LOAD 0 = 2", "PRINT 1", "LOAD 0 = 3", "PRINT 2", "END")
	does(t, "x := 0; for x < 2 { x = x + 1; y := 0; for y < x { y = y + 1; print x * 10 + y } }", "PRINT 11", "PRINT 21", "PRINT 22", "END")
}

// 13.3: Break ends the innermost For, whatever blocks lie between; Continue goes on behind its Then.
func TestBreakAndContinue(t *testing.T) {
	does(t, "for true { print 1; break; print 2 }; print 3", "PRINT 1", "PRINT 3", "END")
	does(t, "x := 1; for so(x, x < 3) { x = x + 1; continue; print 9 }; print 8", "PRINT 1", "PRINT 2", "PRINT 3", "PRINT 8", "END")
	does(t, "for true { for true { if true { break } }; print 1; break }; print 2", "PRINT 1", "PRINT 2", "END")
	does(t, "x := 0; for x < 2 { x = x + 1; for true { if x == 1 { break }; print x; break }; continue; print 9 }; print 3", "PRINT 2", "PRINT 3", "END")
	does(t, "x := 1; n := 0; for n < 2 { x := 5; n = n + 1; if true { x := 6; continue }; print 9 }; print x", "PRINT 1", "END")
	does(t, "x := 1; for true { x := 5; if true { x := 6; if true { x := 7; break } } }; print x; x = 2; print x", "PRINT 1", "PRINT 2", "END")
	does(t, "x := 1; for true { x := 2; for true { x := 3; break }; print x; for false { }; break }; print x", "PRINT 2", "PRINT 1", "END")
	does(t, "x := 1; for true { select { default: x := 2; for x < 9 { x = 9 }; break }; print 8 }; print x", "TALK "+other, "PRINT 1", "END")
	does(t, "x := 0; for x < 2 { x = x + 1; select { case v := <-nil: if v == 5 { continue }; default: break }; print x }; print 7", "TALK recv 0, "+other+" = 5", "TALK recv 0, "+other+" = 4", "PRINT 2", "PRINT 7", "END")
}

// 13.3: of a For whose Value is 0 nothing is left: Break and Continue behind it are of the one about it.
func TestBehindFor(t *testing.T) {
	does(t, "for true { for false { }; print 1; break }; print 2", "PRINT 1", "PRINT 2", "END")
	does(t, "x := 0; for x < 2 { x = x + 1; y := 0; for y < x { y = y + 1 }; print y; continue; print 9 }; print 3", "PRINT 1", "PRINT 2", "PRINT 3", "END")
}

// 13.3: a function's loops are its own: one that returns out of them leaves those of the other one.
func TestLoopsOfFunctions(t *testing.T) {
	w := made(t, "func main() { x := 0; for x < 2 { x = x + 1; if f(x) == 2 { break }; print x }; print 9 }; func f(a int) int { for true { for true { return a } } }")
	w.Begin(0, nil)
	asks(t, w, 0, "PRINT 1", "PRINT 9", "END")
}

// 13.3: Select: To and Value of each case, in their order; then TALK, of the cases (Else, too), in their order.
func TestSelect(t *testing.T) {
	const cases = "select { case <-make(say(1)): print 10; case make(say(2)) <- say(3): print 20; default: print 30; case v := <-make(4): print v }; print 5"
	reckoned := []string{"PRINT 1", "MAKE 1 = 11", "PRINT 2", "MAKE 2 = 12", "PRINT 3", "MAKE 4 = 13"}
	talk := "TALK recv 11, send 12 3, " + other + ", recv 13"
	for k, want := range []string{"PRINT 10", "PRINT 20", "PRINT 30", "PRINT 77"} {
		does(t, cases, append(reckoned, talk+" = 77:"+string(rune('0'+k)), want, "PRINT 5", "END")...)
	}
}

// 13.3: Select: of none, of Else alone, and of one.
func TestSelectOfFew(t *testing.T) {
	w := made(t, "func main() { select { }; print 1 }")
	w.Begin(0, nil)
	if got := asked(w.Next(0)); got != "TALK" {
		t.Errorf("select { } asks for %q", got)
	}
	does(t, "select { default: }; print 1", "TALK "+other, "PRINT 1", "END")
	does(t, "select { case nil <- 5: print 2 }; print 1", "TALK send 0 5", "PRINT 2", "PRINT 1", "END")
	does(t, "select { case <-nil: }; print 1", "TALK recv 0 = 8", "PRINT 1", "END")
}

// 13.3: Select: the Name of the case that is done is what was received; it is of this case's block.
func TestSelectNames(t *testing.T) {
	const cases = "v := 1; c := make(3); select { case v := <-c: v = v + 1; print v; case <-c: print v; c := 4; print c; case c <- v: v = 6; print v; case g := <-c: g = 7; print g }; print v; g = v"
	talk := "TALK recv 3, recv 3, send 3 1, recv 3 = 50:"
	does(t, cases, "MAKE 3 = 3", talk+"0", "PRINT 51", "PRINT 1", "STORE 0 [1]", "END")
	does(t, cases, "MAKE 3 = 3", talk+"1", "PRINT 1", "PRINT 4", "PRINT 1", "STORE 0 [1]", "END")
	does(t, cases, "MAKE 3 = 3", talk+"2", "PRINT 6", "PRINT 6", "STORE 0 [6]", "END")
	does(t, cases, "MAKE 3 = 3", talk+"3", "PRINT 7", "PRINT 1", "STORE 0 [1]", "END")
}

// 13.3: Select: nothing of it waits behind it.
func TestSelectInExpressions(t *testing.T) {
	w := made(t, "func main() { print 100 - pick(7) * 2 }; func pick(n int) int { c := make(1); select { case c <- n: case v := <-c: return v - n; case <-c: return 2; default: }; return 3 }")
	for k, want := range []string{"PRINT 94", "PRINT 86", "PRINT 96", "PRINT 94"} {
		w.Begin(0, nil)
		asks(t, w, k, "MAKE 1 = 6", "TALK send 6 7, recv 6, recv 6, "+other+" = 14:"+string(rune('0'+k)), want, "END")
	}
}
