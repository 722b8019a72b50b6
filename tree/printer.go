package tree

import (
	"strconv"
	"strings"

	"sluiceway/api"
	"sluiceway/arith"
)

// printer is a text that is being written.
type printer struct {
	text strings.Builder
}

// written is an expression as it is written where just ops of at least this level may stand without brackets.
func written(x *api.Expr, least int) string {
	var p printer
	p.expr(x, least)
	return p.text.String()
}

// put writes texts, one behind the other.
func (p *printer) put(parts ...string) {
	for _, part := range parts {
		p.text.WriteString(part)
	}
}

// line writes texts as a line that stands so deep.
func (p *printer) line(depth int, parts ...string) {
	for range depth {
		p.put("  ")
	}
	p.put(parts...)
	p.put("\n")
}

// expr writes an expression, in brackets, if it is an op of two of less than this level.
func (p *printer) expr(x *api.Expr, least int) {
	if x == nil {
		return
	}
	if x.Code == api.Bin && level(x.Op) < least {
		p.put("(")
		p.bare(x)
		p.put(")")
		return
	}
	p.bare(x)
}

// bare writes an expression without brackets about it.
func (p *printer) bare(x *api.Expr) {
	switch x.Code {
	case api.Num:
		p.put(strconv.Itoa(x.N))
	case api.True:
		p.put(strconv.FormatBool(x.N != 0))
	case api.Nil:
		p.put("nil")
	case api.Name:
		p.put(x.Name)
	case api.Bin:
		// Ops of one level tie from the left.
		p.expr(x.Left, level(x.Op))
		p.put(" ", sign(x.Op), " ")
		p.expr(x.Right, level(x.Op)+1)
	case api.Un:
		p.put(arith.Sign(x.Op))
		p.expr(x.Left, levelOne)
	case api.Recv:
		p.put("<-")
		p.expr(x.Left, levelOne)
	case api.Make:
		p.call("make", x.Left)
	case api.Len:
		p.call("len", x.Left)
	case api.Call:
		p.call(x.Name, x.Args...)
	}
}

// call writes a name, and brackets with what lies in them.
func (p *printer) call(name string, args ...*api.Expr) {
	p.put(name, "(")
	for k, arg := range args {
		if k > 0 {
			p.put(", ")
		}
		p.expr(arg, levelAny)
	}
	p.put(")")
}

// function writes a function.
func (p *printer) function(f api.Func) {
	p.put("func ", f.Name, "(")
	for k, param := range f.Params {
		if k > 0 {
			p.put(", ")
		}
		p.put(param.Name, " ", kindText(param.Kind))
	}
	p.put(") ")
	if f.Kind != api.None {
		p.put(kindText(f.Kind), " ")
	}
	p.put("{\n")
	p.stmts(f.Body, 1)
	p.line(0, "}")
}

// stmts writes statements that stand so deep.
func (p *printer) stmts(l []api.Stmt, depth int) {
	for _, s := range l {
		p.stmt(s, depth)
	}
}

// stmt writes a statement.
func (p *printer) stmt(s api.Stmt, depth int) {
	switch s.Code {
	case api.Let:
		p.line(depth, s.Name, " := ", Text(s.Value))
	case api.Set:
		p.line(depth, s.Name, " = ", Text(s.Value))
	case api.Send:
		p.line(depth, sent(s.To, s.Value))
	case api.Close:
		p.line(depth, "close(", Text(s.Value), ")")
	case api.Print:
		p.line(depth, "print ", Text(s.Value))
	case api.Sleep:
		p.line(depth, "sleep ", Text(s.Value))
	case api.Go:
		p.line(depth, "go ", Text(s.Value))
	case api.Return:
		p.giveBack(s, depth)
	case api.Break:
		p.line(depth, "break")
	case api.Continue:
		p.line(depth, "continue")
	case api.Do:
		p.line(depth, Text(s.Value))
	case api.If:
		p.choice(s, depth)
	case api.For:
		p.line(depth, "for ", Text(s.Value), " {")
		p.stmts(s.Then, depth+1)
		p.line(depth, "}")
	case api.Select:
		p.choose(s, depth)
	}
}

// sent is what is written where a value is sent.
func sent(to, value *api.Expr) string {
	return written(to, levelOne) + " <- " + Text(value)
}

// giveBack writes return, and what is answered, if anything is.
func (p *printer) giveBack(s api.Stmt, depth int) {
	if s.Value == nil {
		p.line(depth, "return")
		return
	}
	p.line(depth, "return ", Text(s.Value))
}

// choice writes if, and else, if there is anything in it.
func (p *printer) choice(s api.Stmt, depth int) {
	p.line(depth, "if ", Text(s.Value), " {")
	p.stmts(s.Then, depth+1)
	if len(s.Else) > 0 {
		p.line(depth, "} else {")
		p.stmts(s.Else, depth+1)
	}
	p.line(depth, "}")
}

// choose writes a select. Its cases stand as far to the right as it does.
func (p *printer) choose(s api.Stmt, depth int) {
	p.line(depth, "select {")
	for _, c := range s.Cases {
		p.line(depth, talk(c), ":")
		p.stmts(c.Body, depth+1)
	}
	p.line(depth, "}")
}

// talk is what a case sends or receives, as it is written.
func talk(c api.Case) string {
	switch {
	case c.Code == api.Send:
		return "case " + sent(c.To, c.Value)
	case c.Code == api.Recv && c.Name != "":
		return "case " + c.Name + " := <-" + written(c.To, levelOne)
	case c.Code == api.Recv:
		return "case <-" + written(c.To, levelOne)
	}
	return "default"
}
