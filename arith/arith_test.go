package arith_test

import (
	"math"
	"math/big"
	"strings"
	"testing"

	"sluiceway/api"
	"sluiceway/arith"
)

const (
	least = math.MinInt
	most  = math.MaxInt
)

// allTwo has the signs of the ops of two, in their order, as the document writes them; allOne those of one.
const (
	allTwo = "+ - * / % & | ^ << >> < <= > >= == !="
	allOne = "- ^ !"
)

// numbers are some at both ends, around 0 and around each bit, and mixed ones.
func numbers() []int {
	l := []int{least, least + 1, most, most - 1, -1, 0, 1, 7, -7, 10, -10, 0x5555555555555555, -0x5555555555555556, 0x123456789abcdef, -987654321}
	for bit := 1; bit < 63; bit += 4 {
		l = append(l, 1<<bit, 1<<bit-1, -1<<bit, -1<<bit-1)
	}
	return l
}

// noOps are numbers that are no ops at all.
func noOps() []int {
	return []int{least, -1, 0, api.Bang + 1, api.AndAnd, api.OrOr, api.Else, 64, 128, 256 + api.Add, 1<<32 + api.Add, most}
}

// wrapped is a number of any length as one of 64 bits.
func wrapped(n *big.Int) int {
	low := new(big.Int).And(n, new(big.Int).SetUint64(math.MaxUint64))
	return int(low.Uint64())
}

// bin asks Bin for a number, with which nothing ends.
func bin(t *testing.T, op, a, b, want int) {
	t.Helper()
	if got, way := arith.Bin(op, a, b); got != want || way != api.Going {
		t.Errorf("Bin(%d %s, %d, %d) = %d, %d; want %d, Going", op, arith.Sign(op), a, b, got, way, want)
	}
}

// ends asks Bin for the way in which all ends, with 0.
func ends(t *testing.T, op, a, b, want int) {
	t.Helper()
	if got, way := arith.Bin(op, a, b); got != 0 || way != want {
		t.Errorf("Bin(%d %s, %d, %d) = %d, %d; want 0, %d", op, arith.Sign(op), a, b, got, way, want)
	}
}

// 6.1: what is known of each op of two.
func TestBinOfKnownNumbers(t *testing.T) {
	for _, c := range []struct{ op, a, b, want int }{
		{api.Add, 2, 3, 5}, {api.Sub, 2, 3, -1}, {api.Mul, -2, 3, -6},
		{api.Div, 7, 2, 3}, {api.Div, -7, 2, -3}, {api.Div, 7, -2, -3}, {api.Div, -7, -2, 3}, {api.Div, 1, 2, 0}, {api.Div, 0, 5, 0},
		{api.Rem, 7, 2, 1}, {api.Rem, -7, 2, -1}, {api.Rem, 7, -2, 1}, {api.Rem, -7, -2, -1}, {api.Rem, 1, 2, 1}, {api.Rem, -6, 3, 0},
		{api.And, 12, 10, 8}, {api.Or, 12, 10, 14}, {api.Xor, 12, 10, 6},
		{api.And, -1, 10, 10}, {api.Or, -8, 3, -5}, {api.Xor, -1, 10, -11},
		{api.Shl, 5, 0, 5}, {api.Shl, 5, 2, 20}, {api.Shl, -5, 2, -20},
		{api.Shr, 5, 0, 5}, {api.Shr, 20, 2, 5}, {api.Shr, -20, 2, -5}, {api.Shr, -1, 1, -1}, {api.Shr, -5, 1, -3},
		{api.Lt, 1, 2, 1}, {api.Lt, 2, 2, 0}, {api.Lt, 3, 2, 0}, {api.Le, 1, 2, 1}, {api.Le, 2, 2, 1}, {api.Le, 3, 2, 0},
		{api.Gt, 1, 2, 0}, {api.Gt, 2, 2, 0}, {api.Gt, 3, 2, 1}, {api.Ge, 1, 2, 0}, {api.Ge, 2, 2, 1}, {api.Ge, 3, 2, 1},
		{api.Eq, 1, 2, 0}, {api.Eq, 2, 2, 1}, {api.Eq, 3, 2, 0}, {api.Ne, 1, 2, 1}, {api.Ne, 2, 2, 0}, {api.Ne, 3, 2, 1},
	} {
		bin(t, c.op, c.a, c.b, c.want)
	}
}

// 6.1: numbers have 64 bits, and wrap round.
func TestBinWrapsRound(t *testing.T) {
	bin(t, api.Add, most, 1, least)
	bin(t, api.Add, least, least, 0)
	bin(t, api.Sub, least, 1, most)
	bin(t, api.Sub, 0, least, least)
	bin(t, api.Mul, most, 2, -2)
	bin(t, api.Mul, least, -1, least)
	bin(t, api.Mul, 1<<32, 1<<32, 0)
	bin(t, api.Shl, 1, 63, least)
	bin(t, api.Shl, most, 1, -2)
}

// 6.1: each op of two does with all pairs of numbers what longer numbers do, cut off to 64 bits.
func TestBinAsLongNumbers(t *testing.T) {
	ops := map[int]func(z, a, b *big.Int) *big.Int{
		api.Add: (*big.Int).Add, api.Sub: (*big.Int).Sub, api.Mul: (*big.Int).Mul,
		api.Div: (*big.Int).Quo, api.Rem: (*big.Int).Rem,
		api.And: (*big.Int).And, api.Or: (*big.Int).Or, api.Xor: (*big.Int).Xor,
	}
	for op, reckon := range ops {
		for _, a := range numbers() {
			for _, b := range numbers() {
				if b == 0 && (op == api.Div || op == api.Rem) {
					continue
				}
				z := reckon(new(big.Int), big.NewInt(int64(a)), big.NewInt(int64(b)))
				bin(t, op, a, b, wrapped(z))
			}
		}
	}
}

// 6.1: of each two numbers, one of Lt, Eq and Gt is 1, and Ge, Ne and Le are the others turned round.
func TestBinHoldsNumbersAgainstEachOther(t *testing.T) {
	for _, a := range numbers() {
		for _, b := range numbers() {
			sign := big.NewInt(int64(a)).Cmp(big.NewInt(int64(b)))
			for op, so := range map[int]bool{
				api.Lt: sign < 0, api.Le: sign <= 0, api.Gt: sign > 0,
				api.Ge: sign >= 0, api.Eq: sign == 0, api.Ne: sign != 0,
			} {
				want := 0
				if so {
					want = 1
				}
				bin(t, op, a, b, want)
			}
		}
	}
}

// 6.1: any number by -1 leaves 0, and is turned round, the least one, too.
func TestBinByMinusOne(t *testing.T) {
	for _, a := range numbers() {
		bin(t, api.Rem, a, -1, 0)
		bin(t, api.Div, a, -1, 0-a)
	}
	bin(t, api.Div, least, -1, least)
	bin(t, api.Rem, least, -1, 0)
}

// 6.1: Div and Rem by 0 end all, whatever a is; nothing else does.
func TestBinByZero(t *testing.T) {
	for _, a := range numbers() {
		ends(t, api.Div, a, 0, api.Zero)
		ends(t, api.Rem, a, 0, api.Zero)
		for op := -1; op <= api.Bang+1; op++ {
			if op == api.Div || op == api.Rem {
				continue
			}
			if _, way := arith.Bin(op, a, 0); way != api.Going {
				t.Errorf("Bin(%d, %d, 0) ends in way %d", op, a, way)
			}
		}
	}
}

// 6.1: Shl and Shr by less than 0 end all, whatever a is; nothing else does.
func TestBinShiftsByLessThanZero(t *testing.T) {
	for _, b := range []int{-1, -2, -63, -64, -1 << 32, least + 1, least} {
		for _, a := range numbers() {
			ends(t, api.Shl, a, b, api.Shift)
			ends(t, api.Shr, a, b, api.Shift)
		}
		for op := -1; op <= api.Bang+1; op++ {
			if op == api.Shl || op == api.Shr {
				continue
			}
			if _, way := arith.Bin(op, 5, b); way != api.Going {
				t.Errorf("Bin(%d, 5, %d) ends in way %d", op, b, way)
			}
		}
	}
}

// 6.1: by 0 to 63, Shl is a product, wrapped round, and Shr what is left of a, rounded down.
func TestBinShiftsByFew(t *testing.T) {
	for b := range 64 {
		for _, a := range numbers() {
			long := big.NewInt(int64(a))
			bin(t, api.Shl, a, b, wrapped(new(big.Int).Lsh(long, uint(b))))
			bin(t, api.Shr, a, b, wrapped(new(big.Int).Rsh(long, uint(b))))
		}
	}
}

// 6.1: by 64 and more, Shl is 0, and nothing is left of Shr but the sign.
func TestBinShiftsByMany(t *testing.T) {
	for _, b := range []int{64, 65, 127, 128, 256, 1 << 31, 1 << 32, 1<<32 + 1, 1 << 62, most} {
		for _, a := range numbers() {
			bin(t, api.Shl, a, b, 0)
			if a < 0 {
				bin(t, api.Shr, a, b, -1)
			} else {
				bin(t, api.Shr, a, b, 0)
			}
		}
	}
}

// 6.1: any other op is 0, Going, those of one, too.
func TestBinOfOtherOps(t *testing.T) {
	for _, op := range append(noOps(), api.Neg, api.Flip, api.Bang) {
		for _, a := range numbers() {
			for _, b := range []int{least, -1, 0, 1, 64, most} {
				bin(t, op, a, b, 0)
			}
		}
	}
}

// 6.1: what each op of one makes.
func TestUn(t *testing.T) {
	for _, c := range []struct{ op, a, want int }{
		{api.Neg, 0, 0}, {api.Neg, 5, -5}, {api.Neg, -5, 5}, {api.Neg, most, least + 1}, {api.Neg, least, least},
		{api.Flip, 0, -1}, {api.Flip, -1, 0}, {api.Flip, 5, -6}, {api.Flip, most, least}, {api.Flip, least, most},
		{api.Bang, 0, 1}, {api.Bang, 1, 0}, {api.Bang, -1, 0}, {api.Bang, 2, 0}, {api.Bang, 1 << 32, 0}, {api.Bang, most, 0}, {api.Bang, least, 0},
	} {
		if got := arith.Un(c.op, c.a); got != c.want {
			t.Errorf("Un(%d, %d) = %d; want %d", c.op, c.a, got, c.want)
		}
	}
	for _, a := range numbers() {
		long := big.NewInt(int64(a))
		if got, want := arith.Un(api.Neg, a), wrapped(new(big.Int).Neg(long)); got != want {
			t.Errorf("Un(Neg, %d) = %d; want %d", a, got, want)
		}
		if got, want := arith.Un(api.Flip, a), wrapped(new(big.Int).Not(long)); got != want {
			t.Errorf("Un(Flip, %d) = %d; want %d", a, got, want)
		}
	}
}

// 6.1: any other op is 0, those of two, too.
func TestUnOfOtherOps(t *testing.T) {
	ops := noOps()
	for op := api.Add; op <= api.Ne; op++ {
		ops = append(ops, op)
	}
	for _, op := range ops {
		for _, a := range numbers() {
			if got := arith.Un(op, a); got != 0 {
				t.Errorf("Un(%d, %d) = %d; want 0", op, a, got)
			}
		}
	}
}

// 6.2: how each op is written, and which one is written so.
func TestSigns(t *testing.T) {
	for k, sign := range strings.Fields(allTwo) {
		op := api.Add + k
		if got := arith.Sign(op); got != sign {
			t.Errorf("Sign(%d) = %q; want %q", op, got, sign)
		}
		if got := arith.Two(sign); got != op {
			t.Errorf("Two(%q) = %d; want %d", sign, got, op)
		}
	}
	for k, sign := range strings.Fields(allOne) {
		op := api.Neg + k
		if got := arith.Sign(op); got != sign {
			t.Errorf("Sign(%d) = %q; want %q", op, got, sign)
		}
		if got := arith.One(sign); got != op {
			t.Errorf("One(%q) = %d; want %d", sign, got, op)
		}
	}
}

// 6.2: what is no op has no sign.
func TestSignOfNone(t *testing.T) {
	for _, op := range noOps() {
		if got := arith.Sign(op); got != "" {
			t.Errorf("Sign(%d) = %q; it is none", op, got)
		}
	}
}

// 6.2: an op of two is none of one, and the other way round, but where both are written so.
func TestSignsOfTheOthers(t *testing.T) {
	both := map[string]bool{"-": true, "^": true}
	for sign := range strings.FieldsSeq(allTwo) {
		if got := arith.One(sign); got != 0 && !both[sign] {
			t.Errorf("One(%q) = %d; none is", sign, got)
		}
	}
	if got := arith.Two("!"); got != 0 {
		t.Errorf("Two(!) = %d; none is", got)
	}
}

// 6.2: of any other text there is no op.
func TestOfNoSign(t *testing.T) {
	texts := []string{"", " ", "x", "<-", "&&", "||", "=", ":=", "++", "--", "<<<", "&^", "=<", "=>", "<>", "==="}
	for sign := range strings.FieldsSeq(allTwo + " " + allOne) {
		texts = append(texts, sign+" ", " "+sign, sign+"\x00", sign+sign+sign)
	}
	for _, text := range texts {
		if got := arith.Two(text); got != 0 {
			t.Errorf("Two(%q) = %d; none is", text, got)
		}
		if got := arith.One(text); got != 0 {
			t.Errorf("One(%q) = %d; none is", text, got)
		}
	}
}

// 6.2: what each op takes, and what it makes; None of what is none.
func TestKinds(t *testing.T) {
	want := map[int][2]int{api.Neg: {api.Int, api.Int}, api.Flip: {api.Int, api.Int}, api.Bang: {api.Bool, api.Bool}}
	for op := api.Add; op <= api.Shr; op++ {
		want[op] = [2]int{api.Int, api.Int}
	}
	for op := api.Lt; op <= api.Ne; op++ {
		want[op] = [2]int{api.Int, api.Bool}
	}
	for _, op := range noOps() {
		want[op] = [2]int{api.None, api.None}
	}
	for op, kinds := range want {
		if takes, makes := arith.Kinds(op); takes != kinds[0] || makes != kinds[1] {
			t.Errorf("Kinds(%d) = %d, %d; want %v", op, takes, makes, kinds)
		}
	}
}
