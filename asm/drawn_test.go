package asm_test

import (
	"math"
	"math/big"
	"reflect"
	"regexp"
	"strconv"
	"strings"
	"testing"

	"sluiceway/api"
	"sluiceway/arith"
	"sluiceway/asm"
	"sluiceway/code"
	"sluiceway/plain"
)

// die are numbers that look drawn, the same each time.
type die uint64

func (d *die) n(most int) int {
	*d = *d*6364136223846793005 + 1442695040888963407
	return int(uint64(*d>>33) % uint64(most))
}

// anyProgram is one that is right.
func (d *die) anyProgram() api.Program {
	p := api.Program{Globals: d.n(9)}
	for range d.n(5) {
		f := api.Fn{Kind: d.n(4)}
		for range d.n(api.MaxVars + 1) {
			f.Locals = append(f.Locals, 1+d.n(3))
		}
		f.Params = d.n(len(f.Locals) + 1)
		for range d.n(20) {
			f.Code = append(f.Code, d.anyIns())
		}
		p.Fns = append(p.Fns, f)
	}
	return p
}

func (d *die) anyIns() api.Ins {
	i := api.Ins{Op: 1 + d.n(26)}
	n := []int{0, 1, 12, d.n(9000), math.MaxInt, d.n(math.MaxInt)}[d.n(6)]
	switch {
	case i.Op == api.IBin:
		i.N = 1 + d.n(16)
	case i.Op == api.IUn:
		i.N = 17 + d.n(3)
	case i.Op == api.IBool:
		i.N = d.n(2)
	case i.Op == api.IPush:
		i.N = []int{n, -n, -n - 1}[d.n(3)]
	case code.HasN(i.Op):
		i.N = n
	}
	return i
}

// loosen puts blanks and line feeds where they don't matter.
func (d *die) loosen(text string) string {
	blanks := func() string { return strings.Repeat(" ", d.n(3)) }
	s := strings.Repeat(blanks()+"\n", d.n(3))
	for line := range strings.Lines(text) {
		s += blanks() + strings.Join(strings.Fields(line), blanks()+" "+blanks()) + blanks() + "\n"
		s += strings.Repeat(blanks()+"\n", d.n(2))
	}
	return s
}

// 15.1, 15.2: what is written is read, of 3,000 drawn programs, and with other blanks.
func TestReadReadsWhatWriteWrites(t *testing.T) {
	d := die(15)
	for range 3000 {
		p := d.anyProgram()
		text, err := asm.Write(p)
		if err != nil {
			t.Fatalf("Write(%v): %v", p, err)
		}
		read(t, text, p)
		read(t, d.loosen(text), p)
		if q, line := paper(text); line != -1 || !same(p, q) {
			t.Fatalf("the paper reads %q of %v, line %d", text, p, line)
		}
	}
}

// bend changes a text, so that most of it is read yet.
func (d *die) bend(text string) string {
	words := strings.Split("push|bool|nil|bin|un|fn|globals|none|int|0|1|-1|01|-0|x|+|^|!|12|9223372036854775808|\n|\n\n|ret|caseelse|\t", "|")
	l := regexp.MustCompile(`\n| +|[^ \n]+`).FindAllString(text, -1)
	for range 1 + d.n(2) {
		k := d.n(len(l))
		switch d.n(6) {
		case 0:
			l[k] = ""
		case 1:
			l[k] = words[d.n(len(words))]
		case 2:
			l[k] += " " + words[d.n(len(words))]
		case 3:
			other := d.n(len(l))
			l[k], l[other] = l[other], l[k]
		case 4:
			l[k] += l[k]
		case 5:
			l = append(l, strings.Repeat("fn none 0\n", d.n(2*api.MaxFuncs)))
		}
	}
	return strings.Join(l, "")
}

// forms are the lines that there are, between single blanks.
var (
	firstForm = regexp.MustCompile(`^globals (0|-?[1-9][0-9]*)$`)
	fnForm    = regexp.MustCompile(`^fn (none|int|bool|chan) (0|-?[1-9][0-9]*)((?: (?:int|bool|chan))*)$`)
	bareForm  = regexp.MustCompile(`^(nil|pop|ret|make|send|recv|close|len|print|sleep)$`)
	numForm   = regexp.MustCompile(`^(push|bool|get|set|load|store|jump|false|call|go|select|casesend|caserecv|caseelse) (0|-?[1-9][0-9]*)$`)
	binForm   = regexp.MustCompile(`^(bin) (\+|-|\*|/|%|&|\||\^|<<|>>|<|<=|>|>=|==|!=)$`)
	unForm    = regexp.MustCompile(`^(un) ([-^!])$`)
)

// num is a number, if it has 64 bits.
func num(word string) (int, bool) {
	b, ok := new(big.Int).SetString(word, 10)
	if !ok || !b.IsInt64() {
		return 0, false
	}
	return int(b.Int64()), true
}

// paper reads a text line by line, by what each one may look like: the program, and the line that is wrong (-1: none is).
func paper(text string) (p api.Program, wrong int) {
	kind := map[string]int{"none": 0, "int": 1, "bool": 2, "chan": 3}
	lines := strings.Split(text, "\n")
	begun := false
	for at, line := range lines {
		line = regexp.MustCompile(` +`).ReplaceAllString(strings.Trim(line, " "), " ")
		ok := line == ""
		var i api.Ins
		if m := firstForm.FindStringSubmatch(line); m != nil && !begun {
			p.Globals, ok = num(m[1])
			begun = true
		} else if !begun {
			i.Op = 0
		} else if m := fnForm.FindStringSubmatch(line); m != nil {
			f := api.Fn{Kind: kind[m[1]]}
			f.Params, ok = num(m[2])
			for _, word := range strings.Fields(m[3]) {
				f.Locals = append(f.Locals, kind[word])
			}
			p.Fns = append(p.Fns, f)
		} else if m := bareForm.FindStringSubmatch(line); m != nil {
			i, ok = api.Ins{Op: opOf(m[1])}, true
		} else if m := numForm.FindStringSubmatch(line); m != nil {
			i.Op = opOf(m[1])
			i.N, ok = num(m[2])
		} else if m := binForm.FindStringSubmatch(line); m != nil {
			i, ok = api.Ins{Op: api.IBin, N: arith.Two(m[2])}, true
		} else if m := unForm.FindStringSubmatch(line); m != nil {
			i, ok = api.Ins{Op: api.IUn, N: arith.One(m[2])}, true
		}
		if !ok || i.Op != 0 && len(p.Fns) == 0 {
			return api.Program{}, at
		}
		if i.Op != 0 {
			f := &p.Fns[len(p.Fns)-1]
			f.Code = append(f.Code, i)
		}
	}
	if !begun {
		return api.Program{}, len(lines)
	}
	return p, -1
}

// 15.2: of texts that are nearly programs the same is read, or told, as by the paper.
func TestReadOfDrawnTexts(t *testing.T) {
	d := die(51)
	many := map[string]int{}
	for range 12_000 {
		text, _ := asm.Write(d.anyProgram())
		text = d.bend(text)
		want, line := paper(text)
		wrong := api.ErrForm
		if line == -1 {
			wrong = api.Tell(code.Right(want))
		}
		if wrong != api.OK {
			want = api.Program{}
		}
		p, err := asm.Read(text)
		if e, place := plain.Place(err); e != wrong || place != line || !same(p, want) {
			t.Fatalf("Read(%q) = %v, %d at %d; want %v, %d at %d", text, p, e, place, want, wrong, line)
		}
		many[strconv.Itoa(int(wrong))]++
	}
	for _, e := range []api.Errno{api.OK, api.ErrForm, api.ErrLimit, api.ErrRange, api.ErrArg} {
		if many[strconv.Itoa(int(e))] < 5 {
			t.Errorf("just %d texts are told as %v", many[strconv.Itoa(int(e))], e)
		}
	}
}

// P4: a program that is handed in isn't written into, nor what is behind its lists' lengths; what comes out is fresh.
func TestListsStayTheCallers(t *testing.T) {
	p := api.Program{Fns: make([]api.Fn, 1, 3)}
	f := api.Fn{Locals: make([]int, 1, 4), Code: make([]api.Ins, 1, 4)}
	copy(f.Locals[:4], []int{1, 2, 3, 4})
	copy(f.Code[:4], []api.Ins{{Op: api.IPop}, {Op: 88}, {Op: 99, N: 99}})
	p.Fns[0] = f
	p.Fns[:2][1] = api.Fn{Params: 77}
	text, err := asm.Write(p)
	if err != nil || p.Fns[:2][1].Params != 77 || !reflect.DeepEqual(f.Locals[:4], []int{1, 2, 3, 4}) || f.Code[:4][1].Op != 88 || f.Code[0].Op != api.IPop {
		t.Errorf("Write wrote into its program: %v, %v", p, err)
	}
	q, _ := asm.Read(text)
	r, _ := asm.Read(text)
	q.Fns[0].Locals[0], q.Fns[0].Code[0] = 3, api.Ins{}
	if !same(r, p) {
		t.Errorf("Read's programs share memory: %v", r)
	}
	if again, _ := asm.Read(text); !same(again, p) {
		t.Errorf("Read kept what it gave: %v", again)
	}
}
