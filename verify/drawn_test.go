package verify_test

import (
	"reflect"
	"slices"
	"strings"
	"testing"

	"sluiceway/api"
	"sluiceway/code"
	"sluiceway/plain"
	"sluiceway/verify"
)

// die are numbers that look drawn, the same each time.
type die uint64

func (d *die) n(most int) int {
	*d = *d*6364136223846793005 + 1442695040888963407
	return int(uint64(*d>>33) % uint64(most))
}

// writer writes a function that fits together: what waits ahead of each instruction ("?" if nothing comes to it), whether anything comes to the next one, and, by what waits there, those that lead to one that isn't written yet.
type writer struct {
	*die
	paper
	before []string
	live   bool
	open   map[string][]int
}

// anyProgram is one that fits together.
func (d *die) anyProgram() api.Program {
	p := api.Program{Globals: d.n(3)}
	for k := range 1 + d.n(4) {
		var f api.Fn
		for range d.n(4) {
			f.Locals = append(f.Locals, 1+d.n(3))
		}
		if k > 0 {
			f.Params, f.Kind = d.n(len(f.Locals)+1), d.n(4)
		}
		p.Fns = append(p.Fns, f)
	}
	for k, f := range p.Fns {
		w := writer{die: d, paper: paper{p: p, f: f}, open: map[string][]int{}}
		p.Fns[k].Code = w.function()
	}
	return p
}

// function is the code of one.
func (w *writer) function() []api.Ins {
	w.begin("")
	for range w.n(25) {
		if !w.live && !w.goOn() {
			break
		}
		switch w.n(9) {
		case 0:
			w.lead(api.IJump, w.waits, w.waits)
			w.live = false
		case 1:
			w.fork()
		case 2:
			w.choose()
		default:
			w.simple()
		}
	}
	for w.live || w.goOn() {
		w.ret()
	}
	return w.f.Code
}

// goOn begins where someone leads to, perhaps behind what nothing comes to.
func (w *writer) goOn() bool {
	var l []string
	for waits := range w.open {
		l = append(l, waits)
	}
	if len(l) == 0 {
		return false
	}
	if w.n(4) == 0 {
		w.add([]int{api.IPop, api.IJump, api.ICaseElse, api.ISelect, api.IGet}[w.n(5)], w.n(12), "?")
		w.f.Code[len(w.f.Code)-1].N *= w.f.Code[len(w.f.Code)-1].Op % 2
	}
	slices.Sort(l)
	w.begin(l[w.n(len(l))])
	return true
}

// begin goes on where this waits: all who led to where it does lead here.
func (w *writer) begin(waits string) {
	w.waits, w.live = waits, true
	for _, at := range w.open[waits] {
		w.f.Code[at].N = len(w.f.Code)
	}
	delete(w.open, waits)
}

func (w *writer) add(op, n int, before string) {
	w.f.Code = append(w.f.Code, api.Ins{Op: op, N: n})
	w.before = append(w.before, before)
}

// lead adds one that leads to where this waits: to one that is there already, or to a later one.
func (w *writer) lead(op int, before, waits string) {
	var back []int
	for at, other := range w.before {
		if other == waits {
			back = append(back, at)
		}
	}
	if len(back) > 0 && w.n(3) == 0 {
		w.add(op, back[w.n(len(back))], before)
		return
	}
	w.open[waits] = append(w.open[waits], len(w.f.Code))
	w.add(op, -1, before)
}

// behind is what waits behind an instruction, if it may stand here.
func (w *writer) behind(i api.Ins) (waits string, ok bool) {
	defer func() { ok = recover() == nil }()
	l := w.paper
	takes, puts, _ := l.change(i)
	l.take(takes)
	l.put(puts)
	return l.waits, true
}

// simple adds one behind which the next one comes.
func (w *writer) simple() {
	for range 40 {
		i := w.anyIns()
		if i.Op != api.IBin && i.Op != api.IUn {
			i.N %= 4
		}
		if i.Op == api.IJump || i.Op == api.IFalse || i.Op == api.IRet || i.Op >= api.ISelect {
			continue
		}
		if waits, ok := w.behind(i); ok {
			w.add(i.Op, i.N, w.waits)
			w.next(waits)
			return
		}
	}
}

// next goes on behind an instruction; perhaps others lead there, too.
func (w *writer) next(waits string) {
	if w.waits = waits; w.n(3) == 0 {
		w.begin(waits)
	}
}

// fork adds an IFalse, if a bool waits.
func (w *writer) fork() {
	if rest, ok := strings.CutSuffix(w.waits, "b"); ok {
		w.lead(api.IFalse, w.waits, rest)
		w.next(rest)
	}
}

// choose adds a select, if what waits is of use to one, or else perhaps one without cases.
func (w *writer) choose() {
	var cases []int
	rest, hasElse := w.waits, false
	for range 1 + w.n(4) {
		switch {
		case strings.HasSuffix(rest, "ci"):
			rest = strings.TrimSuffix(rest, "ci")
			cases = append(cases, api.ICaseSend)
		case !hasElse && w.n(3) == 0:
			hasElse = true
			cases = append(cases, api.ICaseElse)
		case strings.HasSuffix(rest, "c"):
			rest = strings.TrimSuffix(rest, "c")
			cases = append(cases, api.ICaseRecv)
		}
	}
	if len(cases) == 0 && w.n(20) > 0 {
		return
	}
	w.add(api.ISelect, len(cases), w.waits)
	for _, op := range slices.Backward(cases) {
		got := rest
		if op == api.ICaseRecv {
			got += "i"
		}
		w.lead(op, "?", got)
	}
	w.live = false
}

// ret ends the function.
func (w *writer) ret() {
	for ; w.waits != ""; w.waits = w.waits[:len(w.waits)-1] {
		w.add(api.IPop, 0, w.waits)
	}
	if w.f.Kind != api.None {
		w.add([]int{api.IPush, api.IBool, api.INil}[w.f.Kind-1], 0, "")
	}
	w.add(api.IRet, 0, letters([]int{w.f.Kind})[:min(w.f.Kind, 1)])
	w.live = false
}

// 16.1 to 16.3: 4,000 drawn programs that are written so that they fit do.
func TestDrawnProgramsThatFit(t *testing.T) {
	d := die(16)
	ops := map[int]int{}
	for range 4000 {
		p := d.anyProgram()
		asPaper(t, p)
		if err := verify.Verify(p); err != nil {
			t.Fatalf("%v: %v", p, err)
		}
		for _, f := range p.Fns {
			for _, i := range f.Code {
				ops[i.Op]++
			}
		}
	}
	for op := api.IPush; op <= api.ICaseElse; op++ {
		if ops[op] < 100 {
			t.Errorf("Op %d is there just %d times", op, ops[op])
		}
	}
}

// asPaper asks that a program is told as the paper tells it, and gives what is wrong with it.
func asPaper(t *testing.T, p api.Program) api.Errno {
	t.Helper()
	pictures, e, place := told(p)
	l, err := verify.Shapes(p)
	got, at := plain.Place(err)
	if got != e || at != place || len(l) != len(pictures) {
		t.Fatalf("%v: Shapes tells %d at %d; want %d at %d", p, got, at, e, place)
	}
	for k, want := range pictures {
		if s := picture(l[k]); s != want {
			t.Fatalf("%v: function %d has the shapes %s; want %s", p, k, s, want)
		}
	}
	if again, there := plain.Place(verify.Verify(p)); again != e || there != place {
		t.Fatalf("%v: Verify tells %d at %d; want %d at %d", p, again, there, e, place)
	}
	return e
}

// anyIns is any instruction that is right.
func (d *die) anyIns() api.Ins {
	i := api.Ins{Op: 1 + d.n(26)}
	switch {
	case i.Op == api.IBool:
		i.N = d.n(2)
	case i.Op == api.IBin:
		i.N = 1 + d.n(16)
	case i.Op == api.IUn:
		i.N = 17 + d.n(3)
	case code.HasN(i.Op):
		i.N = d.n(20)
	}
	return i
}

// bend changes a program.
func (d *die) bend(p *api.Program) {
	f := &p.Fns[d.n(len(p.Fns))]
	if len(f.Code) == 0 {
		return
	}
	at := d.n(len(f.Code))
	i := &f.Code[at]
	switch d.n(12) {
	case 0:
		f.Code = slices.Delete(f.Code, at, at+1)
	case 1:
		f.Code = slices.Insert(f.Code, at, f.Code[d.n(len(f.Code))])
	case 2:
		f.Code = f.Code[:at]
	case 3:
		*i = f.Code[d.n(len(f.Code))]
	case 4:
		*i = d.anyIns()
	case 5:
		if code.HasN(i.Op) {
			i.N += 1 - 2*d.n(2)
		}
	case 6:
		if code.HasN(i.Op) {
			i.N = d.n(30)
		}
	case 7:
		*i = api.Ins{Op: api.ISelect, N: d.n(8)}
	case 8:
		*i = api.Ins{Op: api.ICaseSend + d.n(3), N: d.n(len(f.Code) + 1)}
	case 9:
		if i.Op == api.ISelect {
			i.N++
			f.Code = slices.Insert(f.Code, at+1, api.Ins{Op: api.ICaseElse, N: d.n(len(f.Code))})
		}
	case 10:
		if len(f.Locals) > 0 {
			f.Locals[d.n(len(f.Locals))] = d.n(4)
		}
	default:
		f.Kind, p.Globals = d.n(4), d.n(2)
	}
}

// 16.1 to 16.3: 30,000 programs that nearly fit are told as the paper tells them.
func TestDrawnProgramsThatNearlyFit(t *testing.T) {
	d := die(61)
	many := map[api.Errno]int{}
	for range 30_000 {
		p := d.anyProgram()
		for range 1 + d.n(3) {
			d.bend(&p)
		}
		many[asPaper(t, p)]++
	}
	for _, e := range []api.Errno{api.OK, api.ErrArg, api.ErrRange, api.ErrForm, api.ErrLimit, api.ErrState, api.ErrMissing, api.ErrNone, api.ErrTwice, api.ErrFalse} {
		if many[e] < 50 {
			t.Errorf("just %d programs are told as %v", many[e], e)
		}
	}
}

// 16.2, 16.3: whoever goes on, with whatever is taken of several, finds ahead of each instruction what Shapes tells, and what it takes; what can be come to is live, and nothing else is.
func TestWhatFitsNeverComesToWhatMayNotBe(t *testing.T) {
	d := die(1616)
	fit := 0
	for range 4000 {
		p := d.anyProgram()
		d.bend(&p)
		l, err := verify.Shapes(p)
		if err != nil {
			continue
		}
		fit++
		for k, f := range p.Fns {
			w := writer{die: &d, paper: paper{p: p, f: f}}
			for range 40 {
				w.walk(t, l[k])
			}
			for at, can := range reached(f.Code) {
				if s := l[k][at]; s.Live != can || !can && !reflect.DeepEqual(s, verify.Shape{}) {
					t.Fatalf("%v: shape %d of function %d is %v; it can be come to: %t", p, at, k, s, can)
				}
			}
		}
	}
	if fit < 500 {
		t.Errorf("just %d programs fit", fit)
	}
}

// reached says which instructions can be come to.
func reached(l []api.Ins) []bool {
	can := make([]bool, len(l))
	todo := []int{0}
	for len(todo) > 0 {
		at := todo[0]
		todo = todo[1:]
		if can[at] {
			continue
		}
		can[at] = true
		switch i := l[at]; i.Op {
		case api.IRet:
		case api.IJump:
			todo = append(todo, i.N)
		case api.IFalse:
			todo = append(todo, i.N, at+1)
		case api.ISelect:
			for _, c := range l[at+1 : at+1+i.N] {
				todo = append(todo, c.N)
			}
		default:
			todo = append(todo, at+1)
		}
	}
	return can
}

// walk goes through a function, up to its end, or for some steps.
func (w *writer) walk(t *testing.T, l []verify.Shape) {
	at, waits := 0, ""
	for range 60 {
		if at >= len(l) || !l[at].Live || letters(l[at].Kinds) != waits {
			t.Fatalf("%v: at %d there waits %q, of %v", w.f, at, waits, l)
		}
		i := w.f.Code[at]
		w.waits = waits
		rest, ok := w.behind(i)
		if !ok {
			t.Fatalf("%v: at %d there waits %q, which isn't what it takes", w.f, at, waits)
		}
		switch {
		case i.Op == api.IRet:
			if rest != "" {
				t.Fatalf("%v: at its end %q waits", w.f, rest)
			}
			return
		case i.Op == api.ISelect && i.N == 0:
			return
		case i.Op == api.ISelect:
			at, waits = w.chosen(at, waits)
		case i.Op == api.IJump, i.Op == api.IFalse && w.n(2) == 0:
			at, waits = i.N, rest
		default:
			at, waits = at+1, rest
		}
	}
}

// chosen is where one of a select's cases leads, and what waits there.
func (w *writer) chosen(at int, waits string) (int, string) {
	cases := w.f.Code[at+1 : at+1+w.f.Code[at].N]
	for _, c := range slices.Backward(cases) {
		waits = waits[:len(waits)-map[int]int{api.ICaseSend: 2, api.ICaseRecv: 1}[c.Op]]
	}
	c := cases[w.n(len(cases))]
	if c.Op == api.ICaseRecv {
		waits += "i"
	}
	return c.N, waits
}
