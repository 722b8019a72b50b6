package emit_test

import (
	"reflect"
	"testing"

	"sluiceway/api"
	"sluiceway/check"
	"sluiceway/emit"
	"sluiceway/plain"
)

// bender bends a tree in one place.
type bender struct {
	*die
	exprs []*api.Expr
	slots []**api.Expr
	stmts []*api.Stmt
	cases []*api.Case
}

func (b *bender) gatherFuncs(src api.Source) {
	for _, f := range src.Funcs {
		b.gather(f.Body)
	}
}

func (b *bender) gather(l []api.Stmt) {
	for k := range l {
		s := &l[k]
		b.stmts = append(b.stmts, s)
		b.slot(&s.To)
		b.slot(&s.Value)
		b.gather(s.Then)
		b.gather(s.Else)
		for j := range s.Cases {
			c := &s.Cases[j]
			b.cases = append(b.cases, c)
			b.slot(&c.To)
			b.slot(&c.Value)
			b.gather(c.Body)
		}
	}
}

func (b *bender) slot(x **api.Expr) {
	b.slots = append(b.slots, x)
	if *x == nil {
		return
	}
	b.exprs = append(b.exprs, *x)
	b.slot(&(*x).Left)
	b.slot(&(*x).Right)
	for k := range (*x).Args {
		b.slot(&(*x).Args[k])
	}
}

func (b *bender) name() string {
	return b.one("", "a", "g", "x", "c", "main", "f0", "f1", "zz")
}

func (b *bender) bend() {
	switch b.n(4) {
	case 0:
		if len(b.exprs) > 0 {
			b.bendExpr(b.exprs[b.n(len(b.exprs))])
		}
	case 1:
		if len(b.slots) > 0 {
			x := b.slots[b.n(len(b.slots))]
			*x = []*api.Expr{nil, {}, {Code: api.Num, N: 5}, {Code: api.Nil}, {Code: 99}, {Code: api.Call, Name: "main"}}[b.n(6)]
		}
	case 2:
		if len(b.stmts) > 0 {
			b.bendStmt(b.stmts[b.n(len(b.stmts))])
		}
	default:
		if len(b.cases) > 0 {
			c := b.cases[b.n(len(b.cases))]
			c.Code = []int{0, -1, api.Send, api.Recv, api.Else, 7}[b.n(6)]
			c.Name = b.name()
		}
	}
}

func (b *bender) bendExpr(x *api.Expr) {
	switch b.n(5) {
	case 0:
		x.Code = b.n(13) - 1
	case 1:
		x.Op = b.n(35) - 1
	case 2:
		x.Name = b.name()
	case 3:
		x.Args = x.Args[:b.n(len(x.Args)+1)]
	default:
		x.N = -x.N
	}
}

func (b *bender) bendStmt(s *api.Stmt) {
	switch b.n(3) {
	case 0:
		s.Code = b.n(17) - 1
	case 1:
		s.Name = b.name()
	default:
		s.Then, s.Else = s.Else, s.Then
	}
}

// P1: trees that Parse never told are no reason to panic: Check's errors, or some program.
func TestOddTrees(t *testing.T) {
	d := die(71)
	taken := 0
	for range 8000 {
		src, _ := d.drawn(t)
		for range 1 + d.n(3) {
			b := bender{die: &d}
			b.gatherFuncs(src)
			b.bend()
		}
		p, err := emit.Emit(src)
		e, place := plain.Place(err)
		want, wantPlace := plain.Place(check.Check(src))
		if e != want || place != wantPlace || err != nil && !reflect.DeepEqual(p, api.Program{}) {
			t.Fatalf("%v: %v, %d at %d; want %d at %d", src, p, e, place, want, wantPlace)
		}
		if err == nil {
			taken++
		}
	}
	if taken < 800 {
		t.Errorf("just %d were taken", taken)
	}
	for _, src := range []api.Source{
		{Funcs: []api.Func{{Name: "main", Body: []api.Stmt{{}, {Code: 99}, {Code: -1}, {Code: api.Do, Value: &api.Expr{}}, {Code: api.Go, Value: &api.Expr{Code: api.Num}}, {Code: api.Select}}}}},
		{Funcs: []api.Func{{Name: "main", Body: []api.Stmt{{Code: api.Go, Value: &api.Expr{Code: api.Num, Args: []*api.Expr{nil}}}}}}},
		{Funcs: []api.Func{{Name: "main"}, {Kind: 77, Params: []api.Param{{Kind: -5}, {Name: "x", Kind: 1 << 40}}}}},
		{Funcs: []api.Func{{Name: "main", Body: []api.Stmt{{Code: api.For, Value: nil}}}}},
		{Globals: make([]api.Global, 1), Funcs: []api.Func{{Name: "main", Body: []api.Stmt{{Code: api.Set, Value: &api.Expr{Code: api.Name}}}}}},
	} {
		if _, err := emit.Emit(src); api.Tell(err) != api.Tell(check.Check(src)) {
			t.Errorf("%v: %v", src, err)
		}
	}
}

// P1: trees of as many parts in one another as the document's limits have.
func TestDeepTrees(t *testing.T) {
	const deep = 60_000
	x := &api.Expr{Code: api.Num, N: 1}
	inner := []api.Stmt{{Code: api.Break}}
	for range deep {
		x = &api.Expr{Code: api.Un, Op: api.Neg, Left: x}
		inner = []api.Stmt{{Code: api.For, Value: &api.Expr{Code: api.True, N: 1}, Then: inner}}
	}
	src := api.Source{Funcs: []api.Func{{Name: "main", Body: append([]api.Stmt{{Code: api.Print, Value: x}}, inner...)}}}
	p, err := emit.Emit(src)
	if err != nil || len(p.Fns) != 1 || len(p.Fns[0].Code) != deep+2+3*deep+2 {
		t.Errorf("%d functions, %v", len(p.Fns), err)
	}
}
