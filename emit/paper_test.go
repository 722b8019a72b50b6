package emit_test

import (
	"slices"
	"strconv"
	"strings"

	"sluiceway/api"
	"sluiceway/arith"
)

// paper writes a program as the chapter tells it, as text. Where an instruction leads to is a mark at first, which is a line's number in the end. Names lie in one list, the last one first to be found.
type paper struct {
	src    api.Source
	names  []named
	kinds  []int // of the locals
	lines  []string
	marks  map[string]int
	made   int
	agains []string
	ends   []string
}

// named is a name, and its local.
type named struct {
	name string
	n    int
}

// onPaper is a program that Check takes, as text.
func onPaper(src api.Source) string {
	text := "globals " + strconv.Itoa(len(src.Globals)) + "\n"
	l := paper{src: src}
	for _, f := range l.funcs() {
		text += l.function(f)
	}
	return text
}

// funcs are the functions by their numbers.
func (l *paper) funcs() []api.Func {
	k := l.index("main")
	return slices.Concat(l.src.Funcs[k:k+1], l.src.Funcs[:k], l.src.Funcs[k+1:])
}

func (l *paper) index(name string) int {
	return slices.IndexFunc(l.src.Funcs, func(f api.Func) bool { return f.Name == name })
}

// number is a function's, as text.
func (l *paper) number(name string) string {
	k := slices.IndexFunc(l.funcs(), func(f api.Func) bool { return f.Name == name })
	return strconv.Itoa(k)
}

func (l *paper) function(f api.Func) string {
	*l = paper{src: l.src, marks: map[string]int{}}
	for _, p := range f.Params {
		l.name(p.Name, p.Kind)
	}
	l.stmts(f.Body)
	l.add([]string{"", "push 0", "bool 0", "nil"}[f.Kind])
	l.add("ret")
	word := []string{"none", "int", "bool", "chan"}
	text := "fn " + word[f.Kind] + " " + strconv.Itoa(len(f.Params))
	for _, kind := range l.kinds {
		text += " " + word[kind]
	}
	for _, line := range l.lines {
		if op, mark, marked := strings.Cut(line, " @"); marked {
			line = op + " " + strconv.Itoa(l.marks["@"+mark])
		}
		text += "\n  " + line
	}
	return text + "\n"
}

// add adds a line, if there is anything in it.
func (l *paper) add(line string) {
	if line != "" {
		l.lines = append(l.lines, line)
	}
}

func (l *paper) mark() string {
	l.made++
	return "@" + strconv.Itoa(l.made)
}

// here has a mark be the line that comes next.
func (l *paper) here(mark string) {
	l.marks[mark] = len(l.lines)
}

// name lets a name, and tells its local.
func (l *paper) name(name string, kind int) string {
	l.names = append(l.names, named{name, len(l.kinds)})
	l.kinds = append(l.kinds, kind)
	return strconv.Itoa(len(l.kinds) - 1)
}

// find is the local of a name that is there (-1: it is a global's).
func (l *paper) find(name string) int {
	for k := len(l.names) - 1; k >= 0; k-- {
		if l.names[k].name == name {
			return l.names[k].n
		}
	}
	return -1
}

// of is an instruction of what a name is: a local's, or a global's.
func (l *paper) of(name, local, global string) string {
	if n := l.find(name); n >= 0 {
		return local + " " + strconv.Itoa(n)
	}
	return global + " " + strconv.Itoa(slices.IndexFunc(l.src.Globals, func(g api.Global) bool { return g.Name == name }))
}

// kind is an expression's.
func (l *paper) kind(x *api.Expr) int {
	switch x.Code {
	case api.True:
		return api.Bool
	case api.Nil, api.Make:
		return api.Chan
	case api.Name:
		if n := l.find(x.Name); n >= 0 {
			return l.kinds[n]
		}
	case api.Bin, api.Un:
		if x.Op == api.AndAnd || x.Op == api.OrOr {
			return api.Bool
		}
		_, makes := arith.Kinds(x.Op)
		return makes
	case api.Call:
		return l.src.Funcs[l.index(x.Name)].Kind
	}
	return api.Int
}

func (l *paper) exprs(xs ...*api.Expr) {
	for _, x := range xs {
		if x != nil {
			l.expr(x)
		}
	}
}

func (l *paper) expr(x *api.Expr) {
	if x.Op == api.AndAnd || x.Op == api.OrOr {
		l.lazy(x)
		return
	}
	l.exprs(x.Args...)
	l.exprs(x.Left, x.Right)
	switch x.Code {
	case api.Num:
		l.add("push " + strconv.Itoa(x.N))
	case api.True:
		l.add("bool " + strconv.Itoa(x.N))
	case api.Nil:
		l.add("nil")
	case api.Name:
		l.add(l.of(x.Name, "get", "load"))
	case api.Bin:
		l.add("bin " + arith.Sign(x.Op))
	case api.Un:
		l.add("un " + arith.Sign(x.Op))
	case api.Call:
		l.add("call " + l.number(x.Name))
	case api.Make:
		l.add("make")
	case api.Len:
		l.add("len")
	case api.Recv:
		l.add("recv")
	}
}

func (l *paper) lazy(x *api.Expr) {
	a, end := l.mark(), l.mark()
	l.expr(x.Left)
	l.add("false " + a)
	if x.Op == api.AndAnd {
		l.expr(x.Right)
		l.add("jump " + end)
		l.here(a)
		l.add("bool 0")
	} else {
		l.add("bool 1")
		l.add("jump " + end)
		l.here(a)
		l.expr(x.Right)
	}
	l.here(end)
}

// block writes statements; what they let is there up to their end.
func (l *paper) block(stmts []api.Stmt) {
	height := len(l.names)
	l.stmts(stmts)
	l.names = l.names[:height]
}

func (l *paper) stmts(stmts []api.Stmt) {
	for _, s := range stmts {
		l.stmt(s)
	}
}

func (l *paper) stmt(s api.Stmt) {
	switch s.Code {
	case api.If:
		l.branch(s)
		return
	case api.For:
		l.loop(s)
		return
	case api.Select:
		l.choose(s)
		return
	case api.Go:
		l.exprs(s.Value.Args...)
		l.add("go " + l.number(s.Value.Name))
		return
	}
	l.exprs(s.To, s.Value)
	switch s.Code {
	case api.Let:
		l.add("set " + l.name(s.Name, l.kind(s.Value)))
	case api.Set:
		l.add(l.of(s.Name, "set", "store"))
	case api.Do:
		l.add([]string{"", "pop", "pop", "pop"}[l.kind(s.Value)])
	case api.Break:
		l.add("jump " + l.ends[len(l.ends)-1])
	case api.Continue:
		l.add("jump " + l.agains[len(l.agains)-1])
	default:
		l.add(map[int]string{api.Send: "send", api.Close: "close", api.Print: "print", api.Sleep: "sleep", api.Return: "ret"}[s.Code])
	}
}

func (l *paper) branch(s api.Stmt) {
	other, end := l.mark(), l.mark()
	l.expr(s.Value)
	l.add("false " + other)
	l.block(s.Then)
	if len(s.Else) > 0 {
		l.add("jump " + end)
	}
	l.here(other)
	l.block(s.Else)
	l.here(end)
}

func (l *paper) loop(s api.Stmt) {
	again, end := l.mark(), l.mark()
	l.here(again)
	l.expr(s.Value)
	l.add("false " + end)
	l.agains, l.ends = append(l.agains, again), append(l.ends, end)
	l.block(s.Then)
	l.agains, l.ends = l.agains[:len(l.agains)-1], l.ends[:len(l.ends)-1]
	l.add("jump " + again)
	l.here(end)
}

func (l *paper) choose(s api.Stmt) {
	end := l.mark()
	var heads, marks []string
	for _, c := range s.Cases {
		l.exprs(c.To, c.Value)
		mark := l.mark()
		marks = append(marks, mark)
		heads = append(heads, map[int]string{api.Send: "casesend ", api.Recv: "caserecv ", api.Else: "caseelse "}[c.Code]+mark)
	}
	l.add("select " + strconv.Itoa(len(heads)))
	l.lines = append(l.lines, heads...)
	for k, c := range s.Cases {
		l.here(marks[k])
		height := len(l.names)
		if c.Code == api.Recv && c.Name == "" {
			l.add("pop")
		} else if c.Code == api.Recv {
			l.add("set " + l.name(c.Name, api.Int))
		}
		l.stmts(c.Body)
		l.names = l.names[:height]
		l.add("jump " + end)
	}
	l.here(end)
}
