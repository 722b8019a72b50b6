package check_test

import (
	"reflect"
	"strconv"
	"testing"

	"sluiceway/api"
	"sluiceway/check"
	"sluiceway/plain"
	"sluiceway/tree"
)

// die: numbers that look drawn, the same each time.
type die uint64

func (d *die) n(most int) int {
	*d = *d*6364136223846793005 + 1442695040888963407
	return int(uint64(*d>>33) % uint64(most))
}

// seen is a name that is there, and its kind; own says that it was let in the innermost block.
type seen struct {
	name string
	kind int
	own  bool
}

// mason builds programs whose names are there, and whose kinds fit, and now and then puts a fault into one. It builds in the order in which they are looked at: the first fault is what must be told.
type mason struct {
	die
	src    api.Source
	names  []seen // of the function that is built, the last one hides the others
	kind   int
	lets   int
	loops  int
	rate   int // one fault of so many chances
	places int
	fault  api.At // the first one
	missed bool   // there is no main
}

// at is a place that no other part has (even: it is never -1, which stands for none); a part may well have a smaller one than what is ahead of it.
func (m *mason) at() int {
	m.places++
	return (m.places*7919%10007 - 5000) * 2
}

// bad says whether there is to be a fault here.
func (m *mason) bad() bool {
	return m.rate > 0 && m.n(m.rate) == 0
}

// told notes a fault, if it is the first one.
func (m *mason) told(e api.Errno, place int) {
	if m.fault.Err == api.OK {
		m.fault = api.At{Err: e, Place: place}
	}
}

// program builds a program.
func (m *mason) program() {
	for k := range m.n(4) {
		g := api.Global{Name: "g" + strconv.Itoa(k), At: m.at()}
		if m.bad() && k > 0 {
			g.Name = m.src.Globals[m.n(k)].Name
			m.told(api.ErrTwice, g.At)
		}
		m.src.Globals = append(m.src.Globals, g)
	}
	m.heads()
	for k := range m.src.Funcs {
		m.function(&m.src.Funcs[k])
	}
}

// heads builds the functions without what is in them; main is any of them.
func (m *mason) heads() {
	count := 1 + m.n(5)
	first := m.n(count)
	var start api.At
	for k := range count {
		f := api.Func{Name: "f" + strconv.Itoa(k), At: m.at(), Kind: m.n(4)}
		for i := range m.n(4) {
			f.Params = append(f.Params, api.Param{Name: "p" + strconv.Itoa(i), Kind: 1 + m.n(3), At: m.at()})
		}
		switch {
		case k == first && m.bad():
			m.missed = true
		case k == first:
			f.Name, f.Kind, f.Params = "main", api.None, nil
			if m.bad() {
				f.Kind = 1 + m.n(3)
				start = api.At{Err: api.ErrFalse, Place: f.At}
			}
		case m.bad() && k > 0 && m.n(2) == 0:
			f.Name = m.src.Funcs[m.n(k)].Name
			m.told(api.ErrTwice, f.At)
		case m.bad() && len(m.src.Globals) > 0:
			f.Name = m.src.Globals[m.n(len(m.src.Globals))].Name
			m.told(api.ErrTwice, f.At)
		}
		m.src.Funcs = append(m.src.Funcs, f)
	}
	if m.missed {
		m.told(api.ErrMissing, -1)
	}
	if start.Err != api.OK {
		m.told(start.Err, start.Place)
	}
}

// function builds what is in a function.
func (m *mason) function(f *api.Func) {
	m.kind, m.lets, m.loops, m.names = f.Kind, 0, 0, nil
	for k := range f.Params {
		p := &f.Params[k]
		if m.bad() && k > 0 {
			p.Name = f.Params[m.n(k)].Name
			m.told(api.ErrTwice, p.At)
		}
		m.let(p.Name, p.Kind)
	}
	f.Body = m.stmts(2)
}

// let has a name there from then on.
func (m *mason) let(name string, kind int) {
	m.names = append(m.names, seen{name, kind, true})
	m.lets++
}

// block builds what is in a block of its own, whose names are gone behind it.
func (m *mason) block(inside func()) {
	outer := append([]seen(nil), m.names...)
	for k := range m.names {
		m.names[k].own = false
	}
	inside()
	m.names = outer
}

// inner builds a block.
func (m *mason) inner(deep int) (l []api.Stmt) {
	m.block(func() { l = m.stmts(deep) })
	return l
}

// hidden says whether one that was let later hides a name.
func (m *mason) hidden(k int) bool {
	for _, later := range m.names[k+1:] {
		if later.name == m.names[k].name {
			return true
		}
	}
	return false
}

// known is the kind of a name (None: it isn't there), and whether it was let in the innermost block.
func (m *mason) known(name string) (kind int, own bool) {
	for k := len(m.names) - 1; k >= 0; k-- {
		if m.names[k].name == name {
			return m.names[k].kind, m.names[k].own
		}
	}
	for _, g := range m.src.Globals {
		if g.Name == name {
			return api.Int, false
		}
	}
	return api.None, false
}

// of are the names of a kind that are there.
func (m *mason) of(kind int) []string {
	var l []string
	for k, one := range m.names {
		if one.kind == kind && !m.hidden(k) {
			l = append(l, one.name)
		}
	}
	for _, g := range m.src.Globals {
		if k, _ := m.known(g.Name); k == kind && kind == api.Int && !m.local(g.Name) {
			l = append(l, g.Name)
		}
	}
	return l
}

// local says whether a name was let.
func (m *mason) local(name string) bool {
	for _, one := range m.names {
		if one.name == name {
			return true
		}
	}
	return false
}

// want builds an expression that must be of a kind.
func (m *mason) want(kind, deep int) *api.Expr {
	if !m.bad() {
		return m.expr(kind, deep)
	}
	other := (kind + 1 + m.n(3)) % 4
	x := m.expr(other, deep)
	m.told(api.ErrFalse, x.At)
	return x
}

// expr builds an expression of a kind.
func (m *mason) expr(kind, deep int) *api.Expr {
	x := &api.Expr{At: m.at()}
	if m.bad() && m.n(2) == 0 {
		x.Code, x.Name = api.Name, "zz"
		m.told(api.ErrName, x.At)
		return x
	}
	if kind == api.None || deep > 0 && m.n(4) == 0 {
		m.call(x, kind, deep)
		return x
	}
	if l := m.of(kind); len(l) > 0 && m.n(2) == 0 {
		x.Code, x.Name = api.Name, l[m.n(len(l))]
		return x
	}
	switch kind {
	case api.Int:
		m.number(x, deep)
	case api.Bool:
		m.truth(x, deep)
	case api.Chan:
		x.Code = api.Nil
		if deep > 0 && m.n(2) == 0 {
			x.Code, x.Left = api.Make, m.want(api.Int, deep-1)
		}
	}
	return x
}

// number builds a number.
func (m *mason) number(x *api.Expr, deep int) {
	switch k := m.n(5); {
	case deep == 0:
		x.Code, x.N = api.Num, m.n(100)
	case k == 0:
		x.Code, x.Left = api.Recv, m.want(api.Chan, deep-1)
	case k == 1:
		x.Code, x.Left = api.Len, m.want(api.Chan, deep-1)
	case k == 2:
		x.Code, x.Op = api.Un, api.Neg+m.n(2)
		x.Left = m.want(api.Int, deep-1)
	default:
		m.pair(x, api.Add+m.n(10), api.Int, deep)
	}
}

// truth builds a bool.
func (m *mason) truth(x *api.Expr, deep int) {
	switch k := m.n(4); {
	case deep == 0:
		x.Code, x.N = api.True, m.n(2)
	case k == 0:
		x.Code, x.Op, x.Left = api.Un, api.Bang, m.want(api.Bool, deep-1)
	case k == 1:
		m.pair(x, api.AndAnd+m.n(2), api.Bool, deep)
	default:
		m.pair(x, api.Lt+m.n(6), api.Int, deep)
	}
}

// pair builds an op of two.
func (m *mason) pair(x *api.Expr, op, takes, deep int) {
	x.Code, x.Op = api.Bin, op
	x.Left = m.want(takes, deep-1)
	x.Right = m.want(takes, deep-1)
}

// call builds a call of a function of a kind, or, if there is none, another expression.
func (m *mason) call(x *api.Expr, kind, deep int) {
	var fit []api.Func
	for _, f := range m.src.Funcs {
		if f.Kind == kind {
			fit = append(fit, f)
		}
	}
	x.Code, x.Name = api.Call, "zz"
	if m.bad() || kind == api.None && len(fit) == 0 {
		m.told(api.ErrMissing, x.At)
		return
	}
	if len(fit) == 0 {
		*x = *m.expr(kind, 0)
		return
	}
	f := fit[m.n(len(fit))]
	x.Name = f.Name
	args := len(f.Params)
	if m.bad() {
		args = m.n(len(f.Params) + 3)
	}
	if args != len(f.Params) {
		m.told(api.ErrArg, x.At)
	}
	for k := range args {
		kind := api.Int
		if k < len(f.Params) {
			kind = f.Params[k].Kind
		}
		x.Args = append(x.Args, m.want(kind, max(0, deep-1)))
	}
}

// stmts builds statements.
func (m *mason) stmts(deep int) []api.Stmt {
	var l []api.Stmt
	most := 5
	if m.rate > 100 {
		most = 9 // where faults are few, too many names are let
	}
	for range m.n(most) {
		l = append(l, m.stmt(deep))
	}
	return l
}

// stmt builds a statement.
func (m *mason) stmt(deep int) api.Stmt {
	s := api.Stmt{At: m.at(), Code: api.Let + m.n(14)}
	if m.rate > 100 && m.n(2) == 0 {
		s.Code = api.Let
	}
	if deep == 0 && s.Code >= api.If {
		s.Code = api.Print
	}
	switch s.Code {
	case api.Let:
		m.begin(&s)
	case api.Set:
		m.set(&s)
	case api.Send:
		s.To = m.want(api.Chan, 2)
		s.Value = m.want(api.Int, 2)
	case api.Close:
		s.Value = m.want(api.Chan, 2)
	case api.Print, api.Sleep:
		s.Value = m.want(api.Int, 3)
	case api.Return:
		m.giveBack(&s)
	case api.Break, api.Continue:
		m.leave(&s)
	case api.Go, api.Do:
		s.Value = m.done(s.Code)
	case api.If:
		s.Value = m.want(api.Bool, 2)
		s.Then = m.inner(deep - 1)
		s.Else = m.inner(deep - 1)
	case api.For:
		s.Value = m.want(api.Bool, 2)
		m.loops++
		s.Then = m.inner(deep - 1)
		m.loops--
	case api.Select:
		m.choose(&s, deep)
	}
	return s
}

// fresh is a name that may be let here, or one that may not, as a fault.
func (m *mason) fresh(place int) string {
	name := ""
	for {
		name = []string{"a", "b", "c", "d", "e", "g0", "g1", "p0", "f1", "main", "h" + strconv.Itoa(m.n(9))}[m.n(11)]
		if _, own := m.known(name); !own {
			break
		}
		if m.bad() {
			m.told(api.ErrTwice, place)
			break
		}
	}
	if m.lets >= api.MaxVars {
		m.told(api.ErrLimit, place)
	}
	return name
}

// begin builds a let; without faults it is a set, if no more names may be let.
func (m *mason) begin(s *api.Stmt) {
	if m.lets >= api.MaxVars && m.rate == 0 {
		s.Code = api.Print
		s.Value = m.expr(api.Int, 2)
		return
	}
	kind := 1 + m.n(3)
	if m.bad() {
		s.Value = m.expr(api.None, 2)
		m.told(api.ErrFalse, s.Value.At)
	} else {
		s.Value = m.expr(kind, 2)
	}
	s.Name = m.fresh(s.At)
	m.let(s.Name, kind)
}

// set builds a set.
func (m *mason) set(s *api.Stmt) {
	kind := 1 + m.n(3)
	if l := m.of(kind); len(l) > 0 && !m.bad() {
		s.Name = l[m.n(len(l))]
	} else if m.rate == 0 {
		s.Code = api.Sleep
		kind = api.Int
	} else {
		s.Name = "zz"
		m.told(api.ErrName, s.At)
	}
	s.Value = m.want(kind, 2)
}

// giveBack builds a return.
func (m *mason) giveBack(s *api.Stmt) {
	has := m.kind != api.None
	if m.bad() {
		has = !has
		m.told(api.ErrFalse, s.At)
	}
	if has {
		s.Value = m.want(max(m.kind, api.Int), 2)
	}
}

// leave builds a break or a continue.
func (m *mason) leave(s *api.Stmt) {
	if m.loops > 0 {
		return
	}
	if m.bad() {
		m.told(api.ErrState, s.At)
		return
	}
	s.Code, s.Value = api.Print, m.want(api.Int, 1)
}

// done builds what is called, or received, and not asked for.
func (m *mason) done(code int) *api.Expr {
	if code == api.Do && m.n(2) == 0 {
		x := &api.Expr{Code: api.Recv, At: m.at()}
		x.Left = m.want(api.Chan, 2)
		return x
	}
	x := &api.Expr{At: m.at()}
	m.call(x, m.src.Funcs[m.n(len(m.src.Funcs))].Kind, 2)
	return x
}

// choose builds a select.
func (m *mason) choose(s *api.Stmt, deep int) {
	other := false
	for range m.n(4) {
		c := api.Case{At: m.at()}
		switch k := m.n(4); {
		case k == 0 && (!other || m.bad()):
			c.Code = api.Else
			if other {
				m.told(api.ErrTwice, c.At)
			}
			other = true
		case k == 1:
			c.Code = api.Send
			c.To = m.want(api.Chan, 1)
			c.Value = m.want(api.Int, 2)
		default:
			c.Code = api.Recv
			c.To = m.want(api.Chan, 1)
		}
		m.block(func() {
			if c.Code == api.Recv && m.n(2) == 0 && (m.lets < api.MaxVars || m.rate > 0) {
				c.Name = m.fresh(c.At)
				m.let(c.Name, api.Int)
			}
			c.Body = m.stmts(deep - 1)
		})
		s.Cases = append(s.Cases, c)
	}
}

// built is a drawn program.
func built(seed, rate int) *mason {
	m := &mason{die: die(seed), rate: rate}
	m.program()
	return m
}

// read says whether a program is, but for its places, one that Parse tells.
func read(t *testing.T, src api.Source) bool {
	t.Helper()
	text := tree.Print(src)
	if len(text) > api.MaxText {
		return false
	}
	got, err := tree.Parse(text)
	if err != nil {
		return false
	}
	if again := tree.Print(got); again != text {
		t.Fatalf("%q is printed as %q", text, again)
	}
	return true
}

// 9.1 to 9.4: with nothing that is told is a program in which all names are there, and all kinds fit, wherever its parts are.
func TestCheckOfDrawnPrograms(t *testing.T) {
	count := 0
	for k := range 4000 {
		m := built(k, 0)
		if m.fault.Err != api.OK || !read(t, m.src) {
			continue
		}
		count++
		if e, place := plain.Place(check.Check(m.src)); e != api.OK {
			t.Fatalf("Check(%s): %d at %d", tree.Print(m.src), e, place)
		}
	}
	if count < 1500 {
		t.Errorf("just %d of them can be read", count)
	}
}

// 9.1 to 9.4, P3: of several faults the one that is met first is told, with its place, whatever number that is.
func TestCheckOfDrawnFaults(t *testing.T) {
	count := map[api.Errno]int{}
	for k := range 12000 {
		m := built(k, []int{3, 10, 30, 60, 1000}[k%5])
		if !read(t, m.src) {
			continue
		}
		count[m.fault.Err]++
		want, at := m.fault.Err, m.fault.Place
		if want == api.OK {
			at = -1
		}
		if e, place := plain.Place(check.Check(m.src)); e != want || place != at {
			t.Fatalf("Check(%s): %d at %d; want %d at %d", tree.Print(m.src), e, place, want, at)
		}
	}
	for _, e := range []api.Errno{api.OK, api.ErrTwice, api.ErrMissing, api.ErrFalse, api.ErrName, api.ErrArg, api.ErrState, api.ErrLimit} {
		if count[e] < 20 {
			t.Errorf("%d is told just %d times", e, count[e])
		}
	}
}

// placed has all places of a program made others.
func placed(src *api.Source, place func(int) int) {
	for k := range src.Globals {
		src.Globals[k].At = place(src.Globals[k].At)
	}
	for k := range src.Funcs {
		f := &src.Funcs[k]
		f.At = place(f.At)
		for i := range f.Params {
			f.Params[i].At = place(f.Params[i].At)
		}
		placedStmts(f.Body, place)
	}
}

func placedStmts(l []api.Stmt, place func(int) int) {
	for k := range l {
		s := &l[k]
		s.At = place(s.At)
		placedExpr(s.To, place)
		placedExpr(s.Value, place)
		placedStmts(s.Then, place)
		placedStmts(s.Else, place)
		for i := range s.Cases {
			c := &s.Cases[i]
			c.At = place(c.At)
			placedExpr(c.To, place)
			placedExpr(c.Value, place)
			placedStmts(c.Body, place)
		}
	}
}

func placedExpr(x *api.Expr, place func(int) int) {
	if x == nil {
		return
	}
	x.At = place(x.At)
	placedExpr(x.Left, place)
	placedExpr(x.Right, place)
	for _, arg := range x.Args {
		placedExpr(arg, place)
	}
}

// 9.1: places are but what is told, even if all are the same one.
func TestCheckWithAnyPlaces(t *testing.T) {
	for _, one := range []int{0, -1, -1 << 63, 1<<63 - 1} {
		for k := range 1500 {
			m := built(k, 12)
			if !read(t, m.src) {
				continue
			}
			placed(&m.src, func(int) int { return one })
			want, at := m.fault.Err, one
			if want == api.OK || m.fault.Place == -1 && want == api.ErrMissing {
				at = -1
			}
			if e, place := plain.Place(check.Check(m.src)); e != want || place != at {
				t.Fatalf("Check(%s): %d at %d; want %d at %d", tree.Print(m.src), e, place, want, at)
			}
		}
	}
}

// P4: what is looked at isn't written into, and the same is told of it again.
func TestCheckWritesNothing(t *testing.T) {
	for k := range 300 {
		m, same := built(k, 20), built(k, 20)
		e, place := plain.Place(check.Check(m.src))
		check.Numbers(m.src)
		again, placeAgain := plain.Place(check.Check(m.src))
		if e != again || place != placeAgain {
			t.Fatalf("Check(%s): %d at %d, and then %d at %d", tree.Print(m.src), e, place, again, placeAgain)
		}
		if !reflect.DeepEqual(m.src, same.src) {
			t.Fatalf("%s was written into", tree.Print(m.src))
		}
	}
}

// odd takes parts away from a program, and makes others what Parse never tells.
func (d *die) odd(src *api.Source) {
	for k := range src.Globals {
		if d.n(9) == 0 {
			src.Globals[k].Name = ""
		}
	}
	for k := range src.Funcs {
		f := &src.Funcs[k]
		switch d.n(9) {
		case 0:
			f.Kind = d.n(9) - 3
		case 1:
			f.Name = ""
		case 2:
			f.Params = append(f.Params, api.Param{Kind: d.n(9) - 3})
		}
		d.oddStmts(f.Body)
	}
}

func (d *die) oddStmts(l []api.Stmt) {
	for k := range l {
		s := &l[k]
		switch d.n(12) {
		case 0:
			s.Code = d.n(50) - 3
		case 1:
			s.Name = ""
		}
		s.To, s.Value = d.oddExpr(s.To), d.oddExpr(s.Value)
		d.oddStmts(s.Then)
		d.oddStmts(s.Else)
		for i := range s.Cases {
			c := &s.Cases[i]
			if d.n(9) == 0 {
				c.Code = d.n(50) - 3
			}
			c.To, c.Value = d.oddExpr(c.To), d.oddExpr(c.Value)
			d.oddStmts(c.Body)
		}
	}
}

func (d *die) oddExpr(x *api.Expr) *api.Expr {
	if d.n(20) == 0 {
		return nil
	}
	if x == nil {
		return &api.Expr{}
	}
	switch d.n(16) {
	case 0:
		x.Code = d.n(50) - 3
	case 1:
		x.Op = d.n(50) - 3
	case 2:
		x.Name = ""
	case 3:
		x.Args = append(x.Args, nil)
	}
	x.Left, x.Right = d.oddExpr(x.Left), d.oddExpr(x.Right)
	for k := range x.Args {
		x.Args[k] = d.oddExpr(x.Args[k])
	}
	return x
}

// P1: whatever is handed in, something is told of it.
func TestCheckOfOddTrees(t *testing.T) {
	for k := range 6000 {
		m := built(k, []int{0, 40}[k%2])
		m.odd(&m.src)
		if e, _ := plain.Place(check.Check(m.src)); e < 0 {
			t.Fatalf("Check tells %d", e)
		}
		check.Numbers(m.src)
	}
	bare := []api.Stmt{}
	for code := range 60 {
		bare = append(bare, api.Stmt{Code: code - 5})
		src := api.Source{Funcs: []api.Func{{Name: "main", Body: bare[code:]}}}
		check.Check(src)
		src.Funcs[0].Body = []api.Stmt{{Code: api.Print, Value: &api.Expr{Code: code - 5}}}
		check.Check(src)
		src.Funcs[0].Body = []api.Stmt{{Code: api.Select, Cases: []api.Case{{Code: code - 5}}}}
		check.Check(src)
	}
}

// P1, Limits: parts may lie deep in one another.
func TestCheckOfDeepTrees(t *testing.T) {
	deep := 1<<16 - 10
	x := &api.Expr{Code: api.Num, At: 1}
	for k := range deep {
		x = &api.Expr{Code: api.Un, Op: api.Neg, At: k + 2, Left: x}
	}
	stmts := []api.Stmt{{Code: api.Print, Value: x}, {Code: api.Close, Value: x}}
	src := api.Source{Funcs: []api.Func{{Name: "main", Body: stmts}}}
	if e, place := plain.Place(check.Check(src)); e != api.ErrFalse || place != deep+1 {
		t.Errorf("Check: %d at %d", e, place)
	}
	stmts = []api.Stmt{{Code: api.Break, At: 7}}
	for range deep {
		stmts = []api.Stmt{{Code: api.If, Value: &api.Expr{Code: api.True}, Then: stmts}}
	}
	src.Funcs[0].Body = stmts
	if e, place := plain.Place(check.Check(src)); e != api.ErrState || place != 7 {
		t.Errorf("Check: %d at %d", e, place)
	}
}
