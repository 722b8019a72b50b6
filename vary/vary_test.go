package vary_test

import (
	"encoding/binary"
	"math"
	"strings"
	"testing"

	"sluiceway/api"
	"sluiceway/vary"
)

// numbers are of every count of bits, with those just below and above where a byte more is needed.
func numbers() []uint64 {
	l := []uint64{0, 300, 0x0123456789abcdef, 0xfedcba9876543210, math.MaxUint64}
	for bit := range 64 {
		n := uint64(1) << bit
		l = append(l, n-1, n, n+1, ^n, n|n>>7)
	}
	return l
}

// ints are the same bits, as numbers below 0, too.
func ints() []int {
	l := []int{math.MinInt, math.MinInt + 1, math.MaxInt - 1, math.MaxInt}
	for _, n := range numbers() {
		l = append(l, int(n), -int(n))
	}
	return l
}

// texts are of the lengths at which the length is a byte longer, and of bytes that are no runes.
func texts() []string {
	l := []string{"", "a", "\x00", "\x80\xff", "Grüße\n"}
	for _, n := range []int{126, 127, 128, 129, 16383, 16384, 70_000} {
		l = append(l, strings.Repeat("t", n))
	}
	return l
}

// 2.1: the bytes that are known: one for 0, and one more at each seven bits.
func TestNumOfKnownNumbers(t *testing.T) {
	known := map[uint64]string{
		0:              "\x00",
		1:              "\x01",
		127:            "\x7f",
		128:            "\x80\x01",
		255:            "\xff\x01",
		300:            "\xac\x02",
		16383:          "\xff\x7f",
		16384:          "\x80\x80\x01",
		1 << 56:        "\x80\x80\x80\x80\x80\x80\x80\x80\x01",
		1<<63 - 1:      "\xff\xff\xff\xff\xff\xff\xff\xff\x7f",
		1 << 63:        "\x80\x80\x80\x80\x80\x80\x80\x80\x80\x01",
		math.MaxUint64: "\xff\xff\xff\xff\xff\xff\xff\xff\xff\x01",
	}
	for n, want := range known {
		if got := vary.Num(n); got != want {
			t.Errorf("Num(%d) = %x, want %x", n, got, want)
		}
	}
}

// 2.1: Num writes every number as seven bits a byte; encoding/binary does the same.
func TestNumIsTheWellKnownOne(t *testing.T) {
	for _, n := range numbers() {
		want := string(binary.AppendUvarint(nil, n))
		if got := vary.Num(n); got != want {
			t.Errorf("Num(%d) = %x, want %x", n, got, want)
		}
	}
}

// 2.1: what Num writes is read, wherever it stands, and whatever stands behind it.
func TestReadNumReadsWhatNumWrites(t *testing.T) {
	for _, n := range numbers() {
		for _, ahead := range []string{"", "x", "\x80\x80", strings.Repeat("\xff", 12)} {
			for _, behind := range []string{"", "\x00", "\x80", "\xff\xff", vary.Num(n)} {
				end := len(ahead + vary.Num(n))
				got, to, err := vary.ReadNum(ahead+vary.Num(n)+behind, len(ahead))
				if got != n || to != end || err != nil {
					t.Fatalf("ReadNum of %d behind %x, ahead of %x: %d, %d, %v", n, ahead, behind, got, to, err)
				}
			}
		}
	}
}

// 2.1: of all texts of one and two bytes, and of many of three, just those are read that Num writes.
func TestReadNumReadsNothingElse(t *testing.T) {
	for a := range 256 {
		for b := range 256 {
			for _, c := range []int{0, 1, 2, 126, 127, 128, 129, 255} {
				s := string([]byte{byte(a), byte(b), byte(c)})
				for n := range len(s) + 1 {
					readsWhatIsWritten(t, s[:n])
				}
			}
		}
	}
}

// readsWhatIsWritten asks of ReadNum the number that s begins with, if there is any that is written so.
func readsWhatIsWritten(t *testing.T, s string) {
	t.Helper()
	n, end := binary.Uvarint([]byte(s))
	if end <= 0 || string(binary.AppendUvarint(nil, n)) != s[:end] {
		noNum(t, s, 0, api.ErrForm)
		return
	}
	if got, to, err := vary.ReadNum(s, 0); got != n || to != end || err != nil {
		t.Fatalf("ReadNum(%x) = %d, %d, %v; want %d, %d", s, got, to, err, n, end)
	}
}

// noNum asks that no number, no Int and no Text is read at a byte, and that nothing is told beside the error.
func noNum(t *testing.T, s string, at int, want api.Errno) {
	t.Helper()
	n, to, err := vary.ReadNum(s, at)
	if n != 0 || to != 0 || err != error(want) {
		t.Fatalf("ReadNum(%x, %d) = %d, %d, %v; want %v", s, at, n, to, err, want)
	}
	i, to, err := vary.ReadInt(s, at)
	if i != 0 || to != 0 || err != error(want) {
		t.Fatalf("ReadInt(%x, %d) = %d, %d, %v; want %v", s, at, i, to, err, want)
	}
	noText(t, s, at, want)
}

func noText(t *testing.T, s string, at int, want api.Errno) {
	t.Helper()
	x, to, err := vary.ReadText(s, at)
	if x != "" || to != 0 || err != error(want) {
		t.Fatalf("ReadText(%x, %d) = %.20q, %d, %v; want %v", s, at, x, to, err, want)
	}
}

// 2.1, 2.2: a number that is cut off, longer than it must be, or of more than 64 bits, is ErrForm.
func TestReadOfAnotherForm(t *testing.T) {
	nine := strings.Repeat("\xff", 9)
	for _, s := range []string{
		"", "\x80", "\xff\xff", nine, nine + "\xff", // cut off
		"\x80\x00", "\xac\x80\x00", "\xff\x00", nine + "\x00", strings.Repeat("\x80", 9) + "\x00", // too long
		nine + "\x02", nine + "\x03", nine + "\x7f", nine + "\x81", nine + "\x81\x00", nine + "\x81\x01", // too great
		strings.Repeat("\x80", 10) + "\x01", strings.Repeat("\x80", 70) + "\x01",
	} {
		noNum(t, s, 0, api.ErrForm)
		noNum(t, "\x01\x80"+s, 2, api.ErrForm)
	}
}

// 2.1, 2.2: a byte that is not there is ErrRange; the one just behind the text begins no number.
func TestReadAtBytesThatAreNotThere(t *testing.T) {
	for _, s := range []string{"", "\x00", "\x01a", strings.Repeat("\x05", 300)} {
		for _, at := range []int{-1, -2, math.MinInt, len(s) + 1, len(s) + 2, math.MaxInt} {
			noNum(t, s, at, api.ErrRange)
		}
		noNum(t, s, len(s), api.ErrForm)
	}
}

// 2.2: 0, -1, 1, -2 are 0, 1, 2, 3; the ends of the numbers are the last two.
func TestIntOfKnownNumbers(t *testing.T) {
	known := map[int]uint64{
		0: 0, -1: 1, 1: 2, -2: 3, 2: 4, 63: 126, -64: 127, 64: 128, -65: 129,
		math.MaxInt: math.MaxUint64 - 1, math.MinInt: math.MaxUint64,
	}
	for n, want := range known {
		if got := vary.Int(n); got != vary.Num(want) {
			t.Errorf("Int(%d) = %x, want %x", n, got, vary.Num(want))
		}
	}
}

// 2.2: Int of every number; encoding/binary does the same.
func TestIntIsTheWellKnownOne(t *testing.T) {
	for _, n := range ints() {
		want := string(binary.AppendVarint(nil, int64(n)))
		if got := vary.Int(n); got != want {
			t.Errorf("Int(%d) = %x, want %x", n, got, want)
		}
	}
}

// 2.2: what Int writes is read, wherever it stands, and each number that Num writes is one of Int.
func TestReadIntReadsWhatIntWrites(t *testing.T) {
	for _, n := range ints() {
		for _, ahead := range []string{"", "\x80\x80"} {
			end := len(ahead + vary.Int(n))
			got, to, err := vary.ReadInt(ahead+vary.Int(n)+"\xff", len(ahead))
			if got != n || to != end || err != nil {
				t.Fatalf("ReadInt of %d behind %x: %d, %d, %v", n, ahead, got, to, err)
			}
		}
	}
	for _, u := range numbers() {
		n, to, err := vary.ReadInt(vary.Num(u), 0)
		if vary.Int(n) != vary.Num(u) || to != len(vary.Num(u)) || err != nil {
			t.Errorf("ReadInt(Num(%d)) = %d, %d, %v", u, n, to, err)
		}
	}
}

// 2.2: Text is how many bytes there are, and these.
func TestText(t *testing.T) {
	for _, s := range texts() {
		want := string(binary.AppendUvarint(nil, uint64(len(s)))) + s
		if got := vary.Text(s); got != want {
			t.Errorf("Text of %d bytes %.20q: %d bytes %.20x", len(s), s, len(got), got)
		}
	}
}

// 2.2: what Text writes is read, wherever it stands, and no byte behind it.
func TestReadTextReadsWhatTextWrites(t *testing.T) {
	for _, s := range texts() {
		for _, ahead := range []string{"", "\x80\x80"} {
			for _, behind := range []string{"", "behind"} {
				end := len(ahead + vary.Text(s))
				got, to, err := vary.ReadText(ahead+vary.Text(s)+behind, len(ahead))
				if got != s || to != end || err != nil {
					t.Fatalf("ReadText of %d bytes %.20q: %.20q, %d, %v; want end %d", len(s), s, got, to, err, end)
				}
			}
		}
	}
}

// 2.2: a text of fewer bytes than are told is ErrForm, also where no text has so many.
func TestReadTextThatIsCutOff(t *testing.T) {
	for _, s := range texts() {
		if s == "" {
			continue
		}
		whole := vary.Text(s)
		for _, end := range []int{len(whole) - 1, len(whole) - len(s)/2 - 1, len(whole) - len(s)} {
			noText(t, whole[:end], 0, api.ErrForm)
			noText(t, "ahead"+whole[:end], 5, api.ErrForm)
		}
	}
	for _, n := range []uint64{1 << 31, 1<<63 - 1, 1 << 63, 1<<64 - 8, math.MaxUint64} {
		noText(t, vary.Num(n)+strings.Repeat("t", 50), 0, api.ErrForm)
	}
}
