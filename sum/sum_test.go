package sum_test

import (
	"hash/crc32"
	"math"
	"strings"
	"testing"

	"sluiceway/api"
	"sluiceway/sum"
)

const most = 1 << 40

// words are registers of many kinds: none, one and all of their bits, and mixed ones.
func words() []uint32 {
	l := []uint32{0, math.MaxUint32, 0xcbf43926, 0xedb88320, 0x12345678, 0xdeadbeef}
	for bit := range 32 {
		l = append(l, 1<<bit)
	}
	return l
}

// texts are of each length up to 70, of every byte, and a long one.
func texts() []string {
	all := make([]byte, 256)
	for i := range all {
		all[i] = byte(i)
	}
	l := []string{"123456789", string(all), strings.Repeat(string(all), 300), "\x00", "\xff", "Grüße\n"}
	for n := range 71 {
		l = append(l, strings.Repeat("ab\x00\xff123456789", 6)[:n])
	}
	return l
}

// pushBits puts bytes behind a register one bit at a time, as the document writes the polynomial.
func pushBits(register uint32, s string) uint32 {
	polynomial := uint32(0)
	for _, power := range []int{26, 23, 22, 16, 12, 11, 10, 8, 7, 5, 4, 2, 1, 0} {
		polynomial |= 1 << (31 - power)
	}
	for i := range len(s) {
		register ^= uint32(s[i])
		for range 8 {
			out := register & 1
			register >>= 1
			if out == 1 {
				register ^= polynomial
			}
		}
	}
	return register
}

func join(t *testing.T, a, b uint32, n int) uint32 {
	t.Helper()
	c, err := sum.Join(a, b, n)
	if err != nil {
		t.Fatalf("Join(%x, %x, %d): %v", a, b, n, err)
	}
	return c
}

// 1.1: the sums that are known, that of nothing among them.
func TestKnownSums(t *testing.T) {
	known := map[string]uint32{
		"":                        0,
		"123456789":               0xcbf43926,
		"a":                       0xe8b7be43,
		"\x00":                    0xd202ef8d,
		"\xff\xff\xff\xff":        0xffffffff,
		strings.Repeat("\x00", 4): 0x2144df1c,
		"The quick brown fox jumps over the lazy dog": 0x414fa339,
	}
	for s, want := range known {
		if got := sum.Sum(s); got != want {
			t.Errorf("Sum(%q) = %08x, want %08x", s, got, want)
		}
	}
}

// 1.1: every text has the sum of IEEE 802.3.
func TestSumIsTheWellKnownOne(t *testing.T) {
	for _, s := range texts() {
		if got, want := sum.Sum(s), crc32.ChecksumIEEE([]byte(s)); got != want {
			t.Errorf("Sum of %d bytes %.20q = %08x, want %08x", len(s), s, got, want)
		}
	}
}

// 1.1: each text of one byte, so each bit at its place.
func TestSumOfEachByte(t *testing.T) {
	for b := range 256 {
		s := string([]byte{byte(b)})
		if got, want := sum.Sum(s), ^pushBits(math.MaxUint32, s); got != want {
			t.Errorf("Sum(%q) = %08x, want %08x", s, got, want)
		}
	}
}

// 1.1: bits that are turned within 32 in a row give another sum.
func TestSumTellsTurnedBits(t *testing.T) {
	text := "bits that are turned within 32 in a row"
	right := sum.Sum(text)
	for at := range len(text)*8 - 31 {
		for _, turned := range words() {
			if turned == 0 {
				continue
			}
			b := []byte(text)
			for bit := range 32 {
				if turned>>bit&1 == 1 {
					b[(at+bit)/8] ^= 1 << ((at + bit) % 8)
				}
			}
			if sum.Sum(string(b)) == right {
				t.Fatalf("bits %08x turned from bit %d on are not told", turned, at)
			}
		}
	}
}

// 1.1: a text in two pieces has one sum, wherever it is cut.
func TestMoreGoesOn(t *testing.T) {
	s := "abc\x00\xff\x80123456789"
	for cut := range len(s) + 1 {
		if got := sum.More(sum.Sum(s[:cut]), s[cut:]); got != sum.Sum(s) {
			t.Errorf("cut at %d: %08x, want %08x", cut, got, sum.Sum(s))
		}
	}
}

// 1.1: More takes any sum, be it of a text or not; nothing behind it leaves it as it is.
func TestMoreBehindAnySum(t *testing.T) {
	for _, c := range words() {
		if got := sum.More(c, ""); got != c {
			t.Errorf("More(%08x, nothing) = %08x", c, got)
		}
		for _, s := range texts() {
			if got, want := sum.More(c, s), crc32.Update(c, crc32.IEEETable, []byte(s)); got != want {
				t.Fatalf("More(%08x, %d bytes %.20q) = %08x, want %08x", c, len(s), s, got, want)
			}
		}
	}
}

// 1.1: the sum of two texts, one behind the other, empty ones among them.
func TestJoinOfTexts(t *testing.T) {
	for _, first := range []string{"", "a", "\x00\x00", "123456789", strings.Repeat("long ", 999)} {
		for _, second := range texts() {
			got := join(t, sum.Sum(first), sum.Sum(second), len(second))
			if want := sum.Sum(first + second); got != want {
				t.Fatalf("Join of %.20q and %.20q = %08x, want %08x", first, second, got, want)
			}
		}
	}
}

// 1.1: Join takes any two sums, and any length that belongs to no text of the second one's sum.
func TestJoinOfAnySums(t *testing.T) {
	for _, a := range words() {
		for _, b := range words() {
			for _, n := range []int{0, 1, 2, 3, 7, 8, 255, 256, 1000} {
				want := pushBits(a, strings.Repeat("\x00", n)) ^ b
				if got := join(t, a, b, n); got != want {
					t.Fatalf("Join(%08x, %08x, %d) = %08x, want %08x", a, b, n, got, want)
				}
			}
		}
	}
}

// 1.1: no bytes behind a: nothing is done but to lay b on it.
func TestJoinOfNoBytes(t *testing.T) {
	for _, a := range words() {
		if got := join(t, a, 0, 0); got != a {
			t.Errorf("Join(%08x, 0, 0) = %08x", a, got)
		}
		if got := join(t, a, a, 0); got != 0 {
			t.Errorf("Join(%08x, %08x, 0) = %08x", a, a, got)
		}
	}
}

// 1.1: lengths up to 2^40. The polynomial is a primitive one, so a register comes back to itself behind 2^32 - 1 bytes 0: a long length does what the short one does that it leaves there.
func TestJoinOfLongLengths(t *testing.T) {
	const round = 1<<32 - 1
	for _, n := range []int{round, round + 1, 2*round + 300, 77*round + 70_000, most - 256, most - 255, most - 2, most - 1, most} {
		zeros := strings.Repeat("\x00", n%round)
		for _, a := range words() {
			want := pushBits(a, zeros) ^ 0x600dcafe
			if got := join(t, a, 0x600dcafe, n); got != want {
				t.Fatalf("Join(%08x, 600dcafe, %d) = %08x, want %08x", a, n, got, want)
			}
		}
	}
}

// 1.1: two lengths, one behind the other, do what both together do.
func TestJoinOfLengthsInARow(t *testing.T) {
	lengths := []int{0, 1, 255, 70_000, 1 << 31, 1<<32 - 2, 1<<39 - 1, 1 << 39}
	for _, m := range lengths {
		for _, n := range lengths {
			for _, a := range words() {
				got := join(t, join(t, a, 0, m), 0, n)
				if want := join(t, a, 0, m+n); got != want {
					t.Fatalf("%08x: %d and %d bytes: %08x, want %08x", a, m, n, got, want)
				}
			}
		}
	}
}

// 1.1: lengths beyond both ends are ErrRange, and nothing else is told.
func TestJoinBeyondItsLengths(t *testing.T) {
	for _, n := range []int{-1, -2, -most, math.MinInt, most + 1, most + 2, 1 << 41, math.MaxInt} {
		c, err := sum.Join(0xdeadbeef, 0x12345678, n)
		if c != 0 || api.Tell(err) != api.ErrRange {
			t.Errorf("Join of %d bytes: %08x, %v; want 0 and ErrRange", n, c, err)
		}
	}
	for _, n := range []int{0, 1, most - 1, most} {
		if _, err := sum.Join(0xdeadbeef, 0x12345678, n); err != nil {
			t.Errorf("Join of %d bytes: %v", n, err)
		}
	}
}
