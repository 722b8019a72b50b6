package emit_test

import (
	"slices"
	"strconv"
	"strings"

	"sluiceway/api"
	"sluiceway/arith"
)

// die: numbers that look drawn, the same each time.
type die uint64

func (d *die) n(most int) int {
	*d = *d*6364136223846793005 + 1442695040888963407
	return int(uint64(*d>>33) % uint64(most))
}

// one is one of several texts.
func (d *die) one(texts ...string) string {
	return texts[d.n(len(texts))]
}

// writer writes programs that are drawn, of which nothing is wrong.
type writer struct {
	die
	funcs []api.Func
	names []named // that are there, the last one hides the others; n is its kind
	block int     // how many of them were there where the innermost block began
	lets  int
	loops int
	kind  int
}

var kinds = []string{api.Int: "int", api.Bool: "bool", api.Chan: "chan"}

// program writes a program; main is any of its functions.
func (w *writer) program() string {
	text := "var a\nvar g\n"
	w.funcs = []api.Func{{Name: "main"}}
	for k := range 1 + w.n(4) {
		f := api.Func{Name: "f" + strconv.Itoa(k), Kind: w.n(4)}
		for _, name := range []string{"a", "x", "c"}[:w.n(4)] {
			f.Params = append(f.Params, api.Param{Name: name, Kind: 1 + w.n(3)})
		}
		w.funcs = append(w.funcs, f)
	}
	first := w.n(len(w.funcs))
	w.funcs[0], w.funcs[first] = w.funcs[first], w.funcs[0]
	for _, f := range w.funcs {
		text += w.function(f)
	}
	return text
}

func (w *writer) function(f api.Func) string {
	w.names = []named{{"a", api.Int}, {"g", api.Int}}
	w.block, w.lets, w.loops, w.kind = 2, len(f.Params), 0, f.Kind
	var params []string
	for _, p := range f.Params {
		params = append(params, p.Name+" "+kinds[p.Kind])
		w.names = append(w.names, named{p.Name, p.Kind})
	}
	kind := ""
	if f.Kind != api.None {
		kind = kinds[f.Kind] + " "
	}
	s := "func " + f.Name + "(" + strings.Join(params, ", ") + ") " + kind + "{\n"
	if f.Name == "main" {
		s += w.let("c", api.Chan, w.one("make(0)", "make(1)", "make(2)"))
	}
	return s + w.stmts(2) + w.stmts(2) + "}\n"
}

// let writes a name that is let, if it may be.
func (w *writer) let(name string, kind int, value string) string {
	isHere := func(l named) bool { return l.name == name }
	if w.lets == api.MaxVars || slices.ContainsFunc(w.names[w.block:], isHere) {
		return ""
	}
	w.lets++
	w.names = append(w.names, named{name, kind})
	return name + " := " + value + "\n"
}

// of writes a name that is there, of a kind ("": there is none).
func (w *writer) of(kind int) string {
	var l []string
	for k, one := range w.names {
		hides := func(other named) bool { return other.name == one.name }
		if one.n == kind && !slices.ContainsFunc(w.names[k+1:], hides) {
			l = append(l, one.name)
		}
	}
	if len(l) == 0 {
		return ""
	}
	return w.one(l...)
}

// expr writes an expression of a kind, so deep.
func (w *writer) expr(kind, deep int) string {
	if name := w.of(kind); name != "" && w.n(3) == 0 {
		return name
	}
	if deep > 0 && w.n(3) == 0 {
		if call := w.call(kind, deep-1); call != "" {
			return call
		}
	}
	switch kind {
	case api.Int:
		return w.number(deep)
	case api.Bool:
		return w.truth(deep)
	}
	if deep > 0 && w.n(3) == 0 {
		return "make(" + w.one("0", "1", "2", w.expr(api.Int, deep-1)) + ")"
	}
	return w.one("nil", w.channel())
}

// channel writes a channel's name, or nil.
func (w *writer) channel() string {
	if name := w.of(api.Chan); name != "" {
		return name
	}
	return "nil"
}

func (w *writer) number(deep int) string {
	if deep <= 0 {
		return w.one("0", "1", "2", "3", "7", "100")
	}
	switch w.n(8) {
	case 0:
		return w.one("-", "^") + "(" + w.expr(api.Int, deep-1) + ")"
	case 1:
		return "<-" + w.channel()
	case 2:
		return "len(" + w.expr(api.Chan, deep-1) + ")"
	case 3:
		return "(" + w.expr(api.Int, deep-1) + ") " + arith.Sign(api.Add+w.n(10)) + " (" + w.expr(api.Int, deep-1) + ")"
	}
	return "(" + w.expr(api.Int, deep-1) + ") " + w.one("+", "-", "*", "^") + " (" + w.expr(api.Int, deep-1) + ")"
}

func (w *writer) truth(deep int) string {
	if deep <= 0 {
		return w.one("true", "false")
	}
	switch w.n(4) {
	case 0:
		return "!(" + w.expr(api.Bool, deep-1) + ")"
	case 1:
		return "(" + w.expr(api.Bool, deep-1) + ") " + w.one("&&", "||") + " (" + w.expr(api.Bool, deep-1) + ")"
	}
	return "(" + w.expr(api.Int, deep-1) + ") " + arith.Sign(api.Lt+w.n(6)) + " (" + w.expr(api.Int, deep-1) + ")"
}

// call writes a call of a function of a kind ("": none was found).
func (w *writer) call(kind, deep int) string {
	f := w.funcs[w.n(len(w.funcs))]
	if f.Kind != kind {
		return ""
	}
	var args []string
	for _, p := range f.Params {
		args = append(args, w.expr(p.Kind, deep))
	}
	return f.Name + "(" + strings.Join(args, ", ") + ")"
}

// inner writes statements that are a block; ahead of them is done what is done in it.
func (w *writer) inner(deep int, ahead func()) string {
	height, block := len(w.names), w.block
	w.block = height
	ahead()
	s := w.stmts(deep)
	w.names, w.block = w.names[:height], block
	return s
}

func nothing() {}

func (w *writer) stmts(deep int) string {
	s := ""
	for range w.n(5) {
		s += w.stmt(deep)
	}
	return s
}

func (w *writer) stmt(deep int) string {
	kind := 1 + w.n(3)
	switch w.n(17) {
	case 0, 1:
		value := w.expr(kind, 2)
		return w.let(w.one("a", "x", "y", "c", "g", "b"), kind, value)
	case 2, 3:
		if name := w.of(kind); name != "" {
			return name + " = " + w.expr(kind, 2) + "\n"
		}
	case 4:
		return w.channel() + " <- " + w.expr(api.Int, 2) + "\n"
	case 5:
		return w.one("<-"+w.channel(), "sleep "+w.expr(api.Int, 1), "close("+w.channel()+")", "sleep 3", "<-"+w.channel()) + "\n"
	case 6, 7:
		if call := w.call(w.n(4), 1); call != "" {
			return w.one("", "go ") + call + "\n"
		}
	case 8:
		return w.leave()
	case 9, 10, 11:
		if deep > 0 {
			return w.one(w.branch(deep-1), w.loop(deep-1), w.choose(deep-1))
		}
	}
	return "print " + w.expr(api.Int, 2) + "\n"
}

// leave writes what leaves a loop, or the function.
func (w *writer) leave() string {
	if w.loops > 0 && w.n(3) > 0 {
		return w.one("break\n", "continue\n")
	}
	if w.n(2) == 0 {
		return ""
	}
	if w.kind == api.None {
		return "return\n"
	}
	return "return " + w.expr(w.kind, 2) + "\n"
}

func (w *writer) branch(deep int) string {
	s := "if " + w.expr(api.Bool, 2) + " {\n" + w.inner(deep, nothing) + "}"
	if w.n(2) == 0 {
		s += " else {\n" + w.inner(deep, nothing) + "}"
	}
	return s + "\n"
}

func (w *writer) loop(deep int) string {
	s := "for " + w.one("true", w.expr(api.Bool, 2)) + " {\n"
	w.loops++
	s += w.inner(deep, nothing) + "}\n"
	w.loops--
	return s
}

func (w *writer) choose(deep int) string {
	s := "select {\n"
	other := w.n(3)
	for k := range w.n(4) {
		head := "default:\n"
		body := w.inner(deep, func() {
			if k != other {
				head = w.head()
			}
		})
		s += head + body
	}
	return s + "}\n"
}

// head writes what a case sends or receives, in the case's block: the name of what is received is the first one in it.
func (w *writer) head() string {
	channel := w.channel()
	if w.n(2) == 0 {
		return "case " + channel + " <- " + w.expr(api.Int, 1) + ":\n"
	}
	name := w.one("", "x", "v", "a", "g")
	if name == "" || w.let(name, api.Int, "") == "" {
		return "case <-" + channel + ":\n"
	}
	return "case " + name + " := <-" + channel + ":\n"
}
