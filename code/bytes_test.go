package code_test

import (
	"encoding/binary"
	"hash/crc32"
	"math"
	"reflect"
	"slices"
	"strings"
	"testing"

	"sluiceway/api"
	"sluiceway/code"
	"sluiceway/wire"
)

// summed is a text with its sum behind it.
func summed(s string) string {
	return s + string(binary.LittleEndian.AppendUint32(nil, crc32.ChecksumIEEE([]byte(s))))
}

// part is a part of a text.
type part struct {
	tag  byte
	body string
}

// sealed is a text of parts, whatever their order and lengths.
func sealed(kind byte, l ...part) string {
	s := "SLW" + string([]byte{kind}) + number(uint64(len(l)))
	for _, p := range l {
		s += summed(string([]byte{p.tag}) + number(uint64(len(p.body))) + p.body)
	}
	return summed(s)
}

func number(n uint64) string {
	return string(binary.AppendUvarint(nil, n))
}

// parts are those of a program, as they are to be written.
func parts(p api.Program) []part {
	l := []part{{'a', number(uint64(p.Globals))}}
	for k, f := range p.Fns {
		b := binary.AppendUvarint(nil, uint64(f.Params))
		b = binary.AppendUvarint(b, uint64(len(f.Locals)))
		for _, kind := range f.Locals {
			b = append(b, byte(kind))
		}
		b = binary.AppendUvarint(append(b, byte(f.Kind)), uint64(len(f.Code)))
		for _, i := range f.Code {
			b = append(b, byte(i.Op))
			if _, has := withN[i.Op]; has {
				b = binary.AppendVarint(b, int64(i.N))
			}
		}
		l = append(l, part{"bcdefghijklm"[k], string(b)})
	}
	return l
}

// same says whether two programs are; a list that is empty may be nil.
func same(p, q api.Program) bool {
	if p.Globals != q.Globals || len(p.Fns) != len(q.Fns) {
		return false
	}
	for k, f := range p.Fns {
		g := q.Fns[k]
		if f.Params != g.Params || f.Kind != g.Kind || !slices.Equal(f.Locals, g.Locals) || !slices.Equal(f.Code, g.Code) {
			return false
		}
	}
	return true
}

// written asks for a program's bytes, and that these are read.
func written(t *testing.T, p api.Program, want string) {
	t.Helper()
	s, err := code.Encode(p)
	if s != want || err != nil {
		t.Errorf("Encode(%.200v) = %.100x, %v; want %.100x", p, s, err, want)
	}
	read(t, want, p)
}

// read asks for the program that a text is.
func read(t *testing.T, s string, want api.Program) {
	t.Helper()
	if p, err := code.Decode(s); !same(p, want) || err != nil {
		t.Errorf("Decode(%.100x) = %.200v, %v; want %.200v", s, p, err, want)
	}
}

// unread asks for a text's error, and no program.
func unread(t *testing.T, what, s string, want api.Errno) {
	t.Helper()
	p, err := code.Decode(s)
	if !reflect.DeepEqual(p, api.Program{}) || err != error(want) {
		t.Errorf("%s: Decode(%.100x) = %.200v, %v; want %v", what, s, p, err, want)
	}
}

// 14.2: the bytes of programs, written out.
func TestEncodeOfKnownPrograms(t *testing.T) {
	written(t, api.Program{}, sealed('P', part{'a', "\x00"}))
	written(t, api.Program{Globals: 8}, sealed('P', part{'a', "\x08"}))
	written(t, fns(1, api.Fn{}), sealed('P', part{'a', "\x00"}, part{'b', "\x00\x00\x00\x00"}))
	written(t, api.Program{Globals: 2, Fns: []api.Fn{
		{Locals: []int{api.Int, api.Bool, api.Chan}, Code: []api.Ins{
			{Op: api.IPush, N: -2}, {Op: api.ISet, N: 0}, {Op: api.IBool, N: 1}, {Op: api.IPop},
			{Op: api.IPush, N: 300}, {Op: api.IUn, N: api.Flip}, {Op: api.IJump, N: 4}, {Op: api.ILoad, N: 1}, {Op: api.IRet},
		}},
		{Params: 1, Locals: []int{api.Chan}, Kind: api.Bool},
	}}, sealed('P',
		part{'a', "\x02"},
		part{'b', "\x00\x03\x01\x02\x03\x00\x09" + "\x01\x03" + "\x05\x00" + "\x02\x02" + "\x0a" + "\x01\xd8\x04" + "\x09\x24" + "\x0b\x08" + "\x06\x02" + "\x0e"},
		part{'c', "\x01\x01\x03\x02\x00"},
	))
}

// 14.2: each Op, with all numbers that it may have.
func TestEncodeOfEachInstruction(t *testing.T) {
	for op := api.IPush; op <= api.ICaseElse; op++ {
		span := withN[op]
		for _, n := range ends {
			if n < span[0] || n > span[1] {
				continue
			}
			p := one(api.Ins{Op: op, N: n}, api.Ins{Op: op, N: n}, api.Ins{Op: api.IRet})
			written(t, p, sealed('P', parts(p)...))
		}
	}
}

// 14.2: as many functions, locals, and instructions as there may be.
func TestEncodeAtTheBounds(t *testing.T) {
	locals := slices.Repeat([]int{api.Int, api.Chan, api.Bool}, api.MaxVars/3)
	ins := slices.Repeat([]api.Ins{{Op: api.IPop}}, api.MaxIns)
	p := fns(api.MaxFuncs, api.Fn{Params: api.MaxVars, Locals: locals, Kind: api.Chan, Code: ins})
	p.Globals = api.MaxGlobals
	written(t, p, sealed('P', parts(p)...))
}

// 14.2: a function of more than MaxBody bytes isn't written, though it is right.
func TestEncodeOfTooManyBytes(t *testing.T) {
	// Each has 11 bytes, and ahead of them there are 5.
	l := slices.Repeat([]api.Ins{{Op: api.IPush, N: math.MinInt}}, 5454)
	written(t, one(l...), sealed('P', parts(one(l...))...))
	l = append(l, api.Ins{Op: api.IPop})
	if n := len(parts(one(l...))[1].body); n != api.MaxBody {
		t.Fatalf("there are %d bytes", n)
	}
	written(t, one(l...), sealed('P', parts(one(l...))...))
	l = append(l, api.Ins{Op: api.IPop})
	if s, err := code.Encode(one(l...)); s != "" || err != error(api.ErrLimit) {
		t.Errorf("of MaxBody and one there are %d bytes, %v", len(s), err)
	}
	unread(t, "one byte too many", sealed('P', parts(one(l...))...), api.ErrLimit)
	l[0] = api.Ins{}
	right(t, "right ahead of written", one(l...), api.ErrArg)
}

// 14.2: what wire tells of a text.
func TestDecodeOfWhatIsNoText(t *testing.T) {
	good := sealed('P', part{'a', "\x00"}, part{'b', "\x00\x00\x00\x00"})
	read(t, good, fns(1, api.Fn{}))
	for n := range len(good) {
		_, _, err := wire.Open(good[:n])
		unread(t, "cut off", good[:n], api.Tell(err))
		b := []byte(good)
		b[n] ^= 4
		_, _, err = wire.Open(string(b))
		unread(t, "bent", string(b), api.Tell(err))
	}
	unread(t, "nothing", "", api.ErrForm)
	unread(t, "more", good+"\x00", api.ErrSpoilt)
	unread(t, "not in order", sealed('P', part{'b', ""}, part{'a', ""}), api.ErrOrder)
	unread(t, "too many", sealed('K', make([]part, api.MaxParts+1)...), api.ErrLimit)
}

// 14.2: another kind, no part, and another first one.
func TestDecodeOfOtherTexts(t *testing.T) {
	for kind := range 256 {
		if kind != 'P' {
			unread(t, "a kind", sealed(byte(kind), part{'a', "\x00"}), api.ErrForm)
		}
	}
	unread(t, "no part", sealed('P'), api.ErrForm)
	for tag := range 256 {
		if tag != 'a' {
			unread(t, "a tag", sealed('P', part{byte(tag), "\x00"}), api.ErrForm)
		}
	}
	unread(t, "a part ahead", sealed('P', part{'A', ""}, part{'a', "\x00"}), api.ErrForm)
}

// 14.2: there are at most MaxFuncs others; that there are more is told ahead of all that is in them, and behind kind and first part.
func TestDecodeOfTooManyFunctions(t *testing.T) {
	var l []part
	for k := range api.MaxFuncs + 1 {
		l = append(l, part{byte('b' + k), "\x00\x00\x00\x00"})
	}
	first := part{'a', "\x00"}
	read(t, sealed('P', append([]part{first}, l[:api.MaxFuncs]...)...), fns(api.MaxFuncs, api.Fn{}))
	unread(t, "one too many", sealed('P', append([]part{first}, l...)...), api.ErrLimit)
	unread(t, "one too many, bad first", sealed('P', append([]part{{'a', ""}}, l...)...), api.ErrLimit)
	unread(t, "one too many, of another kind", sealed('Q', append([]part{first}, l...)...), api.ErrForm)
	unread(t, "one too many, another first one", sealed('P', append([]part{{'A', "\x00"}}, l...)...), api.ErrForm)
	l[3].body, l[12].tag = "", 200
	unread(t, "one too many, cut off", sealed('P', append([]part{first}, l...)...), api.ErrLimit)
}

// 14.2: the functions' tags are b and so on, none left out.
func TestDecodeOfOtherTags(t *testing.T) {
	first, empty := part{'a', "\x00"}, "\x00\x00\x00\x00"
	unread(t, "c alone", sealed('P', first, part{'c', empty}), api.ErrForm)
	unread(t, "no c", sealed('P', first, part{'b', empty}, part{'d', empty}), api.ErrForm)
	unread(t, "z", sealed('P', first, part{'b', empty}, part{'z', empty}), api.ErrForm)
	unread(t, "a tag ahead of a body", sealed('P', first, part{'c', "\x0d"}), api.ErrForm)
	unread(t, "a body ahead of the next tag", sealed('P', first, part{'b', "\x0d"}, part{'d', empty}), api.ErrLimit)
	unread(t, "the first body ahead of a tag", sealed('P', part{'a', "\x09"}, part{'d', empty}), api.ErrLimit)
}

// 14.2: what is cut off, what has more, and what is no number.
func TestDecodeOfWhatIsMissingOrMore(t *testing.T) {
	first := part{'a', "\x00"}
	for _, body := range []string{"", "\x80", "\x80\x00", "\x00\x00", "\x01x", "\x08\x08"} {
		unread(t, "the first part", sealed('P', part{'a', body}), api.ErrForm)
	}
	whole := parts(api.Program{Fns: []api.Fn{{Params: 1, Locals: []int{api.Int, api.Bool}, Code: []api.Ins{
		{Op: api.IPush, N: 1 << 40}, {Op: api.IPop}, {Op: api.IGet, N: 200}, {Op: api.IBool, N: 1},
	}}}})[1].body
	for n := range len(whole) {
		unread(t, "cut off", sealed('P', first, part{'b', whole[:n]}), api.ErrForm)
	}
	for _, more := range []string{"\x00", "\x0a", "\x01\x00", whole} {
		unread(t, "more", sealed('P', first, part{'b', whole + more}), api.ErrForm)
	}
	for _, body := range []string{
		"\x80\x00\x00\x00\x00", "\x00\x80\x00\x00\x00", "\x00\x00\x00\x80\x00", "\x00\x00\x00\x01\x01\x80\x00",
		"\x00\x00\x00\x01\x01" + strings.Repeat("\xff", 10),
	} {
		unread(t, "longer than it must be", sealed('P', first, part{'b', body}), api.ErrForm)
	}
}

// 14.2: how many there are is told to be above the bound where it stands: ahead of what is missing behind it.
func TestDecodeOfTooMany(t *testing.T) {
	first := part{'a', "\x00"}
	for _, n := range []uint64{13, 128, 1 << 32, 1<<63 + 1, math.MaxUint64} {
		unread(t, "globals", sealed('P', part{'a', number(n)}), api.ErrLimit)
		unread(t, "params", sealed('P', first, part{'b', number(n) + "\x00\x00\x00"}), api.ErrLimit)
		unread(t, "params, and nothing else", sealed('P', first, part{'b', number(n)}), api.ErrLimit)
		unread(t, "locals", sealed('P', first, part{'b', "\x00" + number(n) + strings.Repeat("\x01", 13) + "\x00\x00"}), api.ErrLimit)
		unread(t, "locals, and nothing else", sealed('P', first, part{'b', "\x00" + number(n)}), api.ErrLimit)
	}
	unread(t, "globals", sealed('P', part{'a', "\x09"}), api.ErrLimit)
	unread(t, "globals, and more", sealed('P', part{'a', "\x09\x00"}), api.ErrLimit)
	for _, n := range []uint64{9001, 1 << 32, 1<<63 + 1, math.MaxUint64} {
		unread(t, "instructions", sealed('P', first, part{'b', "\x00\x00\x00" + number(n) + strings.Repeat("\x0a", 9001)}), api.ErrLimit)
		unread(t, "instructions, and nothing else", sealed('P', first, part{'b', "\x00\x00\x00" + number(n)}), api.ErrLimit)
	}
	unread(t, "a part ahead is cut off", sealed('P', first, part{'b', ""}, part{'c', "\x0d"}), api.ErrForm)
}

// 14.2: in the end Right's errors: behind all that isn't read.
func TestDecodeOfWhatIsNotRight(t *testing.T) {
	first := part{'a', "\x00"}
	for _, l := range []struct {
		what, body string
		want       api.Errno
	}{
		{"more parameters than locals", "\x01\x00\x00\x00", api.ErrRange},
		{"a kind", "\x00\x00\x04\x00", api.ErrRange},
		{"a kind", "\x00\x00\xff\x00", api.ErrRange},
		{"a local of none", "\x00\x01\x00\x00\x00", api.ErrRange},
		{"a local's kind", "\x00\x01\xff\x00\x00", api.ErrRange},
		{"an Op that is none", "\x00\x00\x00\x01\x00", api.ErrArg},
		{"an Op that is none", "\x00\x00\x00\x01\x1b", api.ErrArg},
		{"an Op that is none", "\x00\x00\x00\x01\xff", api.ErrArg},
		{"a bool", "\x00\x00\x00\x01\x02\x04", api.ErrArg},
		{"a local below 0", "\x00\x00\x00\x01\x04\x01", api.ErrArg},
		{"an op of one as one of two", "\x00\x00\x00\x01\x08\x22", api.ErrArg},
		{"an op of two as one of one", "\x00\x00\x00\x01\x09\x20", api.ErrArg},
		{"an op that is none", "\x00\x00\x00\x01\x08\x00", api.ErrArg},
		{"an Op that is none, and a number", "\x00\x00\x00\x01\x1b\x00", api.ErrForm},
	} {
		unread(t, l.what, sealed('P', first, part{'b', l.body}), l.want)
		if l.want != api.ErrForm {
			unread(t, l.what+", and a part that is cut off", sealed('P', first, part{'b', l.body}, part{'c', "\x00"}), api.ErrForm)
			unread(t, l.what+", and a tag", sealed('P', first, part{'b', l.body}, part{'z', "\x00"}), api.ErrForm)
		}
	}
	ins := "\x00\x00\x00\x01\x00"
	unread(t, "one function ahead of the next one", sealed('P', first, part{'b', ins}, part{'c', "\x01\x00\x00\x00"}), api.ErrArg)
	unread(t, "one function ahead of the next one", sealed('P', first, part{'b', "\x01\x00\x00\x00"}, part{'c', ins}), api.ErrRange)
}
