package fold_test

import (
	"math"
	"reflect"
	"slices"
	"strconv"
	"testing"

	"sluiceway/api"
	"sluiceway/arith"
	"sluiceway/fold"
	"sluiceway/plain"
	"sluiceway/tree"
)

// parsed is a text's tree, which it must have.
func parsed(t *testing.T, text string) api.Source {
	t.Helper()
	src, err := tree.Parse(text)
	if err != nil {
		e, place := plain.Place(err)
		t.Fatalf("Parse(%q): %d at %d", text, e, place)
	}
	return src
}

// value is what an expression's text is folded to. (It stands behind 20 bytes.)
func value(t *testing.T, text string) *api.Expr {
	t.Helper()
	src := fold.Fold(parsed(t, "func main() { print "+text+" }"))
	if len(src.Funcs) != 1 || len(src.Funcs[0].Body) != 1 || src.Funcs[0].Body[0].Code != api.Print {
		t.Fatalf("print %s is folded to %q", text, tree.Print(src))
	}
	return src.Funcs[0].Body[0].Value
}

// comesTo asks for what an expression is folded to.
func comesTo(t *testing.T, text, want string) {
	t.Helper()
	if got := tree.Text(value(t, text)); got != want {
		t.Errorf("%s is folded to %s; want %s", text, got, want)
	}
}

// pairs asks for what each one of several expressions is folded to.
func pairs(t *testing.T, texts ...string) {
	t.Helper()
	for pair := range slices.Chunk(texts, 2) {
		comesTo(t, pair[0], pair[1])
	}
}

// stay asks that expressions are folded to themselves.
func stay(t *testing.T, texts ...string) {
	t.Helper()
	for _, text := range texts {
		comesTo(t, text, text)
	}
}

// 10.1: what is known is reckoned, behind its parts.
func TestFoldOfWhatIsKnown(t *testing.T) {
	pairs(t,
		"2 * 3 + 1", "7",
		"1 + 2", "3",
		"2 - 7", "-5",
		"7 - 7", "0",
		"-7 / 2", "-3",
		"-7 % 2", "-1",
		"6 & 3", "2",
		"6 | 3", "7",
		"6 ^ 3", "5",
		"3 << 4", "48",
		"-9 >> 1", "-5",
		"1 << 64", "0",
		"-1 >> 99", "-1",
		"1 < 2", "true",
		"2 <= 1", "false",
		"1 > 2", "false",
		"2 >= 2", "true",
		"2 == -2", "false",
		"2 != -2", "true",
		"9223372036854775807 + 2", "-9223372036854775807",
		"(1 + 1) * (2 + 2) - -(3 - 5)", "6",
		"x + 2 * 3", "x + 6",
		"2 * 3 + x", "6 + x",
		"1 + x + 2", "1 + x + 2",
		"(2 + 3) * x + (4 - 4)", "5 * x",
		"1 < 2 && 3 > 4 || x < 2 - 1", "x < 1",
		"f(1 + 1, -(2), x + 0, !true)", "f(2, -2, x, false)",
		"f(g(1 + 1))", "f(g(2))",
		"make(1 + 1)", "make(2)",
		"len(make(0 * 3))", "len(make(0))",
		"<-make(3 - 2)", "<-make(1)",
		"-f(1 + 1)", "-f(2)",
	)
	stay(t, "1", "0", "true", "false", "nil", "x", "f()", "f(x, 1)", "make(x)", "len(c)", "<-c", "<-<-c", "x + 1", "x < y", "-x", "^x", "!x", "x && y", "x || y", "nil == nil")
}

// ends are numbers, as they are written, at which something may go another way.
func ends() []int {
	l := []int{0}
	for _, n := range []int{1, 2, 3, 7, 62, 63, 64, 65, 1 << 31, 1<<32 + 5, 1 << 62, math.MaxInt - 1, math.MaxInt} {
		l = append(l, n, -n)
	}
	return l
}

// 10.1: of two that are known each op of arith makes what Bin tells, a bool, if it makes one; it stays, if it ends all, or comes to the least number of all.
func TestFoldOfTwoThatAreKnown(t *testing.T) {
	reckoned, faults, least := 0, 0, 0
	for op := api.Add; op <= api.Ne; op++ {
		for _, a := range ends() {
			for _, b := range ends() {
				text := strconv.Itoa(a) + " " + arith.Sign(op) + " " + strconv.Itoa(b)
				n, way := arith.Bin(op, a, b)
				switch {
				case way != api.Going:
					faults++
					stay(t, text)
				case n == math.MinInt:
					least++
					stay(t, text)
				case op >= api.Lt:
					comesTo(t, text, strconv.FormatBool(n == 1))
				default:
					reckoned++
					comesTo(t, text, strconv.Itoa(n))
				}
			}
		}
	}
	if reckoned < 5000 || faults < 700 || least < 20 {
		t.Errorf("%d are reckoned, %d end all, %d are the least one", reckoned, faults, least)
	}
}

// 10.1: what ends all stays, and so does what it is a part of.
func TestFoldOfWhatEndsAll(t *testing.T) {
	stay(t, "1 / 0", "0 / 0", "1 % 0", "0 % 0", "1 << -1", "0 << -1", "1 >> -1", "0 >> -9223372036854775807", "-(1 / 0)", "1 / 0 + 1", "1 / 0 < 2")
	pairs(t,
		"1 / (2 - 2)", "1 / 0",
		"1 << (2 - 3)", "1 << -1",
		"1 / 0 + 0", "1 / 0",
		"1 * (1 % 0)", "1 % 0",
		"(1 + 1) / 0 * (1 + 1)", "2 / 0 * 2",
		"true || 1 / 0 == 1", "true",
		"1 / 0 == 1 || false", "1 / 0 == 1",
		"1 / 0 == 1 || true", "1 / 0 == 1 || true",
	)
}

// 10.1: the least number of all can't be written; what comes to it stays, and isn't known.
func TestFoldOfTheLeastNumber(t *testing.T) {
	stay(t, "-9223372036854775807 - 1", "1 << 63", "9223372036854775807 + 1", "^9223372036854775807", "-4611686018427387904 * 2",
		"-9223372036854775807 - 1 + 1", "1 + (-9223372036854775807 - 1)", "-^9223372036854775807", "^^9223372036854775807", "!^9223372036854775807", "1 << 63 < 0", "1 << 63 == 1 << 63", "0 - ^9223372036854775807")
	pairs(t,
		"-9223372036854775806 - 1", "-9223372036854775807",
		"-9223372036854775807 - 1 + 0", "-9223372036854775807 - 1",
		"0 + (1 << 63)", "1 << 63",
		"^9223372036854775807 * 1", "^9223372036854775807",
		"-9223372036854775807 - 1 - 0", "-9223372036854775807 - 1",
		"^9223372036854775806", "-9223372036854775807",
		"-(9223372036854775807)", "-9223372036854775807",
		"--9223372036854775807", "9223372036854775807",
		"^-9223372036854775807", "9223372036854775806",
	)
}

// 10.1: an op whose right part is known may be its left one, one whose left part is known its right one; any other stays.
func TestFoldOfWhatDoesNothing(t *testing.T) {
	left := map[string]bool{"+ 0": true, "- 0": true, "| 0": true, "^ 0": true, "<< 0": true, ">> 0": true, "* 1": true, "/ 1": true}
	right := map[string]bool{"0 +": true, "0 |": true, "0 ^": true, "1 *": true}
	for op := api.Add; op <= api.Ne; op++ {
		for _, n := range ends() {
			sign, number := arith.Sign(op), strconv.Itoa(n)
			for _, x := range []string{"x", "f(x)", "<-c", "len(c)", "-x"} {
				behind, ahead := x+" "+sign+" "+number, number+" "+sign+" "+x
				if left[sign+" "+number] {
					comesTo(t, behind, x)
				} else {
					stay(t, behind)
				}
				if right[number+" "+sign] {
					comesTo(t, ahead, x)
				} else {
					stay(t, ahead)
				}
			}
		}
	}
	pairs(t,
		"x + 0 + y * 1", "x + y",
		"(x + y) * 1", "x + y",
		"x * (0 + (y - z))", "x * (y - z)",
		"x + (2 - 2)", "x",
		"x / (3 - 2)", "x",
		"(5 - 4) * x", "x",
		"x - -0", "x",
		"0 + (x + 0)", "x",
		"x + 0 * 5", "x",
		"x + 0 * y", "x + 0 * y",
		"2 + (0 + 3)", "5",
	)
	stay(t, "x - x", "x / x", "x ^ x", "x == x", "x + true", "x * nil", "true < x")
}

// 10.1: an op that looks at its right part just if it must is one of its parts, if a part tells so.
func TestFoldOfAndAndOrOr(t *testing.T) {
	pairs(t,
		"true && x", "x",
		"false && x", "false",
		"x && true", "x",
		"x && false", "x && false",
		"true && true", "true",
		"true && false", "false",
		"false && true", "false",
		"false && false", "false",
		"false || x", "x",
		"true || x", "true",
		"x || false", "x",
		"x || true", "x || true",
		"false || false", "false",
		"false || true", "true",
		"true || false", "true",
		"true || true", "true",
		"false && f(1 + 1)", "false",
		"true || f(1 + 1)", "true",
		"f() && (true || g())", "f()",
		"f() && (false && g())", "f() && false",
		"(x || false) && (true && y)", "x && y",
		"x && y && true", "x && y",
		"x || (y || false)", "x || y",
		"1 < 2 && x < 0 + y", "x < y",
		"!true || x", "x",
		"!(1 == 1) && x", "false",
	)
	stay(t, "1 && x", "x && 1", "0 || x", "x || 0", "x && nil", "x && y || z", "x && (y || z)")
}

// 10.1: an op of one of a bool, and of what is known.
func TestFoldOfOpsOfOne(t *testing.T) {
	pairs(t,
		"!true", "false",
		"!false", "true",
		"!!true", "true",
		"!!!true", "false",
		"!(1 < 2)", "false",
		"-5", "-5",
		"-(5)", "-5",
		"--5", "5",
		"---5", "-5",
		"-0", "0",
		"--0", "0",
		"^0", "-1",
		"^5", "-6",
		"^-6", "5",
		"^^5", "5",
		"-^0", "1",
		"^-1", "0",
		"-(2 + 3)", "-5",
		"-(2 - 3)", "1",
		"-x + -(1)", "-x + -1",
		"!(x && true)", "!x",
	)
	stay(t, "-x", "--x", "^^x", "!!x", "-f()", "!(x < y)", "!(x && y)", "-nil", "!nil", "^nil")
}

// 10.1: kinds aren't asked for: what Parse told is folded, whether Check finds anything or not.
func TestFoldOfKindsThatDontFit(t *testing.T) {
	pairs(t,
		"!0", "1",
		"!5", "0",
		"!-5", "0",
		"!!5", "1",
		"-true", "false",
		"^false", "true",
		"true + 0", "true",
		"1 * nil", "nil",
		"true && 5", "5",
		"5 && true", "5",
		"nil || false", "nil",
		"!(-true)", "true",
	)
	stay(t, "true + true", "true == false", "true < 1", "nil + 1", "true + 1", "1 && 1")
}

// num, truth and un are trees at places.
func num(n, place int) *api.Expr { return &api.Expr{Code: api.Num, At: place, N: n} }

func truth(n, place int) *api.Expr { return &api.Expr{Code: api.True, At: place, N: n} }

func name(s string, place int) *api.Expr { return &api.Expr{Code: api.Name, At: place, Name: s} }

func un(op, place int, x *api.Expr) *api.Expr {
	return &api.Expr{Code: api.Un, At: place, Op: op, Left: x}
}

func bin(op, place int, x, y *api.Expr) *api.Expr {
	return &api.Expr{Code: api.Bin, At: place, Op: op, Left: x, Right: y}
}

// 10.1: what is new has the op's place, and all else its own.
func TestFoldOfPlaces(t *testing.T) {
	cases := []struct {
		text string
		want *api.Expr
	}{
		{"2 + 3", num(5, 22)},
		{"(2) + 3 * 4", num(14, 24)},
		{"2 - 3", un(api.Neg, 22, num(1, 22))},
		{"  2 < 3", truth(1, 24)},
		{"2 > 3", truth(0, 22)},
		{"^ 5", un(api.Neg, 20, num(6, 20))},
		{"-5", un(api.Neg, 20, num(5, 21))},
		{"-(5)", un(api.Neg, 20, num(5, 22))},
		{"-0", num(0, 20)},
		{"x * -5", bin(api.Mul, 22, name("x", 20), un(api.Neg, 24, num(5, 25)))},
		{"0 + -5", un(api.Neg, 22, num(5, 22))},
		{"- -5", num(5, 20)},
		{"! true", truth(0, 20)},
		{"! 7", num(0, 20)},
		{"x + 0", name("x", 20)},
		{"0 + x", name("x", 24)},
		{"(1 * x)", name("x", 25)},
		{"true && x", name("x", 28)},
		{"x && true", name("x", 20)},
		{"false && x", truth(0, 20)},
		{"true || x", truth(1, 20)},
		{"true && false", truth(0, 28)},
		{"false || x", name("x", 29)},
		{"1 / 0", bin(api.Div, 22, num(1, 20), num(0, 24))},
		{"x * (2 + 3)", bin(api.Mul, 22, name("x", 20), num(5, 27))},
		{"1 << 62 << 1", bin(api.Shl, 28, num(1<<62, 22), num(1, 31))},
		{"f(1 + 1, x)", &api.Expr{Code: api.Call, At: 20, Name: "f", Args: []*api.Expr{num(2, 24), name("x", 29)}}},
		{"make(1 + 1)", &api.Expr{Code: api.Make, At: 20, Left: num(2, 27)}},
		{"nil", &api.Expr{Code: api.Nil, At: 20}},
	}
	for _, c := range cases {
		if got := value(t, c.text); !reflect.DeepEqual(got, c.want) {
			t.Errorf("%s is folded to %s, at other places, or with other parts, than %s", c.text, tree.Text(got), tree.Text(c.want))
		}
	}
}
