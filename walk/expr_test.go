package walk_test

import (
	"fmt"
	"math"
	"strconv"
	"strings"
	"testing"

	"sluiceway/api"
)

// 13.2: Num, True, Nil, and names: of what is LET, and of globals, which are LOADed each time.
func TestNames(t *testing.T) {
	is(t, "9223372036854775807", math.MaxInt)
	is(t, "0", 0)
	truth(t, "true", 1)
	truth(t, "false", 0)
	does(t, "x := 4; y := x; print y; print x", "PRINT 4", "PRINT 4", "END")
	does(t, "print g; print h; print g", "LOAD 0 = 5", "PRINT 5", "LOAD 1 = 6", "PRINT 6", "LOAD 0 = 7", "PRINT 7", "END")
	does(t, "x := g; print x; print x", "LOAD 0 = -1", "PRINT -1", "PRINT -1", "END")
	does(t, "h := 8; print h; print g", "PRINT 8", "LOAD 0 = 3", "PRINT 3", "END")
	does(t, "h := h; print h", "LOAD 1 = 3", "PRINT 3", "END")
	does(t, "if true { h := 2; print h }; print h", "PRINT 2", "LOAD 1 = 4", "PRINT 4", "END")
	w := made(t, "var a; func main() {}; var b; func f(b int) { print b; print a }")
	w.Begin(1, []int{7})
	asks(t, w, 0, "PRINT 7", "LOAD 0 = 2", "PRINT 2", "END")
}

// 13.2: an Expr's parts are reckoned from the left to the right.
func TestFromTheLeft(t *testing.T) {
	does(t, "print g - h", "LOAD 0 = 10", "LOAD 1 = 3", "PRINT 7", "END")
	does(t, "print g - (h - g)", "LOAD 0 = 10", "LOAD 1 = 3", "LOAD 0 = 1", "PRINT 8", "END")
	does(t, "print say(1) * 2 + say(3) * say(4)", "PRINT 1", "PRINT 3", "PRINT 4", "PRINT 14", "END")
	does(t, "go wide(say(1), so(2, true), make(say(3)))", "PRINT 1", "PRINT 2", "PRINT 3", "MAKE 3 = 6", "GO 7 [1 1 6]", "END")
	does(t, "wide(say(1), so(2, false), make(3))", "PRINT 1", "PRINT 2", "MAKE 3 = 5", "PRINT 1", "TALK recv 5", "PRINT 0", "END")
	does(t, "x := 1; print x + g + x", "LOAD 0 = 5", "PRINT 7", "END")
}

// 13.2: Bin: what arith tells.
func TestBin(t *testing.T) {
	for x, want := range map[string]int{
		"7 + 2": 9, "7 - 2": 5, "7 * 2": 14, "7 / 2": 3, "7 % 2": 1, "6 & 3": 2, "6 | 3": 7, "6 ^ 3": 5, "7 << 2": 28, "7 >> 1": 3,
		"-7 / 2": -3, "-7 % 2": -1, "9223372036854775807 + 1": math.MinInt, "1 << 64": 0, "-1 >> 70": -1, "2 + 3 * 4": 14,
	} {
		is(t, x, want)
	}
	for x, want := range map[string]int{"1 < 2": 1, "2 < 1": 0, "2 <= 2": 1, "3 <= 2": 0, "2 > 1": 1, "1 > 1": 0, "1 >= 1": 1, "0 >= 1": 0, "4 == 4": 1, "4 == 5": 0, "4 != 5": 1, "4 != 4": 0} {
		truth(t, x, want)
	}
}

// 13.2: Bin: does it end all, the task asks for FAULT, so, and for nothing else any more.
func TestBinFaults(t *testing.T) {
	for x, end := range map[string]int{"1 / 0": api.Zero, "1 % 0": api.Zero, "g / (2 - 2)": api.Zero, "1 << -1": api.Shift, "1 >> (0 - 5)": api.Shift} {
		want := "FAULT " + strconv.Itoa(end)
		w := made(t, "var g; func main() { print 5; print "+x+"; print 6 }")
		w.Begin(0, nil)
		asks(t, w, 0, "PRINT 5")
		if strings.Contains(x, "g") {
			asks(t, w, 0, "LOAD 0 = 1")
		}
		asks(t, w, 0, want, want)
		w.Give(0, api.Answer{N: 1})
		asks(t, w, 0, want)
	}
	does(t, "print 1 / 0 + g", "FAULT 3", "FAULT 3")
	does(t, "print g + 1 / h", "LOAD 0 = 1", "LOAD 1 = 0", "FAULT 3")
}

// 13.2: AndAnd, OrOr: the right part is reckoned just if it must be.
func TestAndOr(t *testing.T) {
	for a := range 2 {
		for b := range 2 {
			left, right := fmt.Sprintf("so(1, 1 == %d)", a), fmt.Sprintf("so(2, 1 == %d)", b)
			and := []string{"PRINT 1", "PRINT 2", fmt.Sprint("GO 6 [3 ", b, "]"), "END"}
			or := []string{"PRINT 1", "GO 6 [3 1]", "END"}
			if a == 0 {
				and, or = []string{"PRINT 1", "GO 6 [3 0]", "END"}, and
			}
			does(t, "go so(3, "+left+" && "+right+")", and...)
			does(t, "go so(3, "+left+" || "+right+")", or...)
		}
	}
	truth(t, "false && 1 / 0 == 1", 0)
	truth(t, "true || 1 / 0 == 1", 1)
	truth(t, "true && false || true", 1)
	truth(t, "false || false && true", 0)
	does(t, "b := true && 1 / 0 == 1", "FAULT 3")
	does(t, "b := false || 1 / 0 == 1", "FAULT 3")
}

// 13.2: Un: what arith tells.
func TestUn(t *testing.T) {
	is(t, "-5", -5)
	is(t, "- -5", 5)
	is(t, "^5", -6)
	is(t, "-(2 + 3)", -5)
	truth(t, "!true", 0)
	truth(t, "!(1 == 2)", 1)
	does(t, "print -g", "LOAD 0 = 4", "PRINT -4", "END")
}

// 13.2: Make, Len, Recv: MAKE, LEN, and TALK of one Recv; each is the number that is told.
func TestChannels(t *testing.T) {
	does(t, "c := make(2 + 3); print len(c)", "MAKE 5 = 8", "LEN 8 = 2", "PRINT 2", "END")
	does(t, "c := make(-1)", "MAKE -1")
	does(t, "print len(nil)", "LEN 0", "PRINT 0", "END")
	does(t, "c := make(0); print <-c + <-c", "MAKE 0 = 3", "TALK recv 3 = 5", "TALK recv 3 = 6:4", "PRINT 11", "END")
	does(t, "print <-nil", "TALK recv 0 = 1", "PRINT 1", "END")
	does(t, "print <-make(1) - len(make(2))", "MAKE 1 = 1", "TALK recv 1 = 9", "MAKE 2 = 2", "LEN 2 = 4", "PRINT 5", "END")
}

// 13.2: Call: the function's answer, of its arguments; what it has is its own.
func TestCall(t *testing.T) {
	is(t, "one(1)", 1001)
	is(t, "one(one(1)) + one(2)", 3003)
	does(t, "print say(say(4) + 1) + 1", "PRINT 4", "PRINT 5", "PRINT 6", "END")
	does(t, "x := 5; print wider(x, x + 1) + x; print x", "PRINT 12", "PRINT 17", "PRINT 5", "END")
	does(t, "a := 3; print say(7); print a", "PRINT 7", "PRINT 7", "PRINT 3", "END")
	does(t, "if no() { print 1 } else { print zero() }; close(never())", "PRINT 0", "CLOSE 0", "END")
	does(t, "g := 2; c := 3; lone(); print g + c", "LOAD 0 = 9", "PRINT 9", "PRINT 5", "END")
}

// 13.2: Call: a TICK behind the arguments, and ahead of what the function does.
func TestCallTicks(t *testing.T) {
	ticks := "x := 0; for x < %d { x = x + 1 }; "
	does(t, fmt.Sprintf(ticks, api.Ticks)+"print one(g)", "LOAD 0 = 4", "PRINT 1004", "END")
	does(t, fmt.Sprintf(ticks, api.Ticks)+"print say(2)", "PAUSE", "PRINT 2", "PRINT 2", "END")
	does(t, fmt.Sprintf(ticks, api.Ticks-1)+"print say(2)", "PRINT 2", "PRINT 2", "END")
	does(t, fmt.Sprintf(ticks, api.Ticks-1)+"print one(one(2))", "PAUSE", "PRINT 2002", "END")
	does(t, fmt.Sprintf(ticks, api.Ticks-2)+"print one(one(2))", "PRINT 2002", "END")
}

// 13.2: Call: FAULT Deep, where MaxCalls functions of this task have begun, and not ended, main, too; the TICK is ahead of it.
func TestCallDeep(t *testing.T) {
	fault := "FAULT " + strconv.Itoa(api.Deep)
	most := api.MaxCalls - 2
	is(t, fmt.Sprintf("deep(%d)", most), most)
	does(t, fmt.Sprintf("print 1; print deep(%d)", most+1), "PRINT 1", fault, fault)
	does(t, fmt.Sprintf("print deep(%d); print deep(%d); print deep(%d)", most, most, most), "PRINT 14", "PRINT 14", "PRINT 14", "END")

	ticks := "x := 0; for x < %d { x = x + 1 }; over(0)"
	does(t, fmt.Sprintf(ticks, api.Ticks-api.MaxCalls), fault)
	does(t, fmt.Sprintf(ticks, api.Ticks-api.MaxCalls+1), "PAUSE", fault)
}

// 13.2: Call: functions of other tasks don't count.
func TestCallDeepOfTasks(t *testing.T) {
	w := made(t, "func main() { go up(1); print up(1) }; func up(n int) int { if n == 15 { return <-nil }; return up(n + 1) }; func far(a int) { far(up(2)) }")
	w.Begin(0, nil)
	w.Begin(1, []int{1})
	asks(t, w, 0, "GO 1 [1]", "TALK recv 0")
	w.Begin(2, []int{0})
	asks(t, w, 1, "TALK recv 0 = 3", "END")
	asks(t, w, 2, "TALK recv 0 = 4", "TALK recv 0 = 4", "FAULT 8") // up(2) takes 14 more; those of far come to be 3
	asks(t, w, 0, "PRINT 0", "END")
}
