package code_test

import (
	"bufio"
	"encoding/binary"
	"math"
	"reflect"
	"strings"
	"testing"

	"sluiceway/api"
	"sluiceway/code"
)

// die are numbers that look drawn, the same each time.
type die uint64

func (d *die) n(most int) int {
	*d = *d*6364136223846793005 + 1442695040888963407
	return int(uint64(*d>>33) % uint64(most))
}

// anyProgram is one that is right.
func (d *die) anyProgram() api.Program {
	p := api.Program{Globals: d.n(9)}
	for range d.n(5) {
		f := api.Fn{Kind: d.n(4)}
		for range d.n(api.MaxVars + 1) {
			f.Locals = append(f.Locals, 1+d.n(3))
		}
		f.Params = d.n(len(f.Locals) + 1)
		for range d.n(30) {
			f.Code = append(f.Code, d.anyIns())
		}
		p.Fns = append(p.Fns, f)
	}
	return p
}

func (d *die) anyIns() api.Ins {
	op := 1 + d.n(26)
	span := withN[op]
	n := []int{d.n(30), d.n(9000), ends[d.n(len(ends))], -d.n(200)}[d.n(4)]
	return api.Ins{Op: op, N: max(span[0], min(span[1], n))}
}

// bend changes bodies, tags, and how many parts there are, so that most of it is read yet.
func (d *die) bend(l []part) []part {
	for range 1 + d.n(2) {
		k := d.n(len(l))
		b := []byte(l[k].body)
		at := d.n(len(b) + 1)
		drawn := byte([]int{d.n(256), d.n(30), d.n(4), 128}[d.n(4)])
		switch d.n(10) {
		case 0:
			b = b[:at]
		case 1:
			b = append(b[:at:at], append([]byte{drawn}, b[at:]...)...)
		case 2:
			b = append(b, drawn)
		case 3:
			l[k].tag++
		case 4:
			l = append(l, part{l[len(l)-1].tag + 1, "\x00\x00\x00\x00"})
		default:
			if at < len(b) {
				b[at] = drawn
			}
		}
		l[k].body = string(b)
	}
	return l
}

// 14.2: what is written is as it is to be, and is read, of 3,000 drawn programs.
func TestDecodeReadsWhatEncodeWrites(t *testing.T) {
	d := die(14)
	for range 3000 {
		p := d.anyProgram()
		if err := code.Right(p); err != nil {
			t.Fatalf("Right(%v): %v", p, err)
		}
		written(t, p, sealed('P', parts(p)...))
	}
}

// paper reads a program as it is told, byte by byte, and throws the first thing that is wrong.
type paper struct{ *bufio.Reader }

func (p paper) end() {
	if _, err := p.ReadByte(); err == nil {
		panic(api.ErrForm)
	}
}

func (p paper) one() int {
	b, err := p.ReadByte()
	if err != nil {
		panic(api.ErrForm)
	}
	return int(b)
}

// number is one of seven bits a byte, the last byte of which is not 0, unless it is the only one.
func (p paper) number() uint64 {
	s := ""
	for {
		b := p.one()
		s += string([]byte{byte(b)})
		if b < 128 {
			break
		}
	}
	n, end := binary.Uvarint([]byte(s))
	if end != len(s) || number(n) != s {
		panic(api.ErrForm)
	}
	return n
}

func (p paper) most(n int) int {
	k := p.number()
	if k > uint64(n) {
		panic(api.ErrLimit)
	}
	return int(k)
}

func (p paper) fn() api.Fn {
	f := api.Fn{Params: p.most(12)}
	for range p.most(12) {
		f.Locals = append(f.Locals, p.one())
	}
	f.Kind = p.one()
	for range p.most(9000) {
		i := api.Ins{Op: p.one()}
		if _, has := withN[i.Op]; has {
			i.N, _ = unturned(p.number())
		}
		f.Code = append(f.Code, i)
	}
	p.end()
	return f
}

// unturned is the number that Int writes so.
func unturned(n uint64) (int, int) {
	v, end := binary.Varint(binary.AppendUvarint(nil, n))
	return int(v), end
}

// told is the program that parts are, or what is wrong with it.
func told(l []part) (p api.Program, err error) {
	defer func() {
		if e, ok := recover().(api.Errno); ok {
			p, err = api.Program{}, e
		}
	}()
	reader := func(s string) paper { return paper{bufio.NewReader(strings.NewReader(s))} }
	for k := 1; k < len(l); k++ {
		if l[k].tag <= l[k-1].tag {
			return p, api.ErrOrder
		}
	}
	if l[0].tag != 'a' {
		return p, api.ErrForm
	}
	if len(l) > 13 {
		return p, api.ErrLimit
	}
	first := reader(l[0].body)
	p.Globals = first.most(8)
	first.end()
	for k, x := range l[1:] {
		if x.tag != "bcdefghijklm"[k] {
			panic(api.ErrForm)
		}
		p.Fns = append(p.Fns, reader(x.body).fn())
	}
	if e := code.Right(p); e != nil {
		return api.Program{}, e
	}
	return p, nil
}

// 14.2: of texts that are nearly programs the same is read, or told, as by the paper; and just one text is a program.
func TestDecodeOfDrawnTexts(t *testing.T) {
	d := die(41)
	many := map[api.Errno]int{}
	for range 30_000 {
		l := d.bend(parts(d.anyProgram()))
		s := sealed('P', l...)
		want, wrong := told(l)
		p, err := code.Decode(s)
		if api.Tell(err) != api.Tell(wrong) || !same(p, want) {
			t.Fatalf("Decode of %q = %v, %v; want %v, %v", l, p, err, want, wrong)
		}
		many[api.Tell(err)]++
		if err != nil {
			continue
		}
		if again, err := code.Encode(p); again != s || err != nil {
			t.Fatalf("%v is written as %q, %v, and read of %q", p, again, err, s)
		}
	}
	for _, e := range []api.Errno{api.OK, api.ErrForm, api.ErrLimit, api.ErrRange, api.ErrArg, api.ErrOrder} {
		if many[e] < 100 {
			t.Errorf("just %d texts are told as %v", many[e], e)
		}
	}
}

// P4: a program that is handed in isn't written into, nor what is behind its lists' lengths; what comes out is fresh.
func TestListsStayTheCallers(t *testing.T) {
	p := api.Program{Globals: 1, Fns: make([]api.Fn, 2, 5)}
	for k := range p.Fns {
		f := api.Fn{Params: 1, Locals: make([]int, 2, 6), Code: make([]api.Ins, 3, 9)}
		copy(f.Locals[:6], []int{1, 2, 3, 4, 5, 6})
		copy(f.Code[:4], []api.Ins{{Op: api.IPush, N: math.MaxInt}, {Op: api.IPop}, {Op: api.IRet}, {Op: 99, N: 99}})
		p.Fns[k] = f
	}
	p.Fns[:3][2] = api.Fn{Params: 77}
	s, err := code.Encode(p)
	if err != nil || p.Fns[:3][2].Params != 77 || p.Fns[0].Locals[:6][5] != 6 || p.Fns[1].Code[:4][3].Op != 99 || p.Fns[0].Code[0].N != math.MaxInt {
		t.Errorf("Encode wrote into its program: %v, %v", p, err)
	}
	q, _ := code.Decode(s)
	r, _ := code.Decode(s)
	q.Fns[0].Locals[0], q.Fns[0].Code[0], q.Fns[1].Params = 3, api.Ins{}, 0
	_ = append(q.Fns[0].Locals, 9)
	if !same(r, p) || reflect.DeepEqual(q, r) {
		t.Errorf("Decode's programs share memory: %v, %v", q, r)
	}
	if again, _ := code.Decode(s); !same(again, p) {
		t.Errorf("Decode kept what it gave: %v", again)
	}
}
