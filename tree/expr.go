package tree

import (
	"strconv"

	"sluiceway/api"
	"sluiceway/arith"
)

// expr reads an expression that lies in so many ops of one and brackets.
func (r *reader) expr(depth int) *api.Expr {
	return r.tied(levelAny, depth)
}

// tied reads what ops of a level, and those above it, tie together.
func (r *reader) tied(least, depth int) *api.Expr {
	if least == levelOne {
		return r.one(depth)
	}
	left := r.tied(least+1, depth)
	for level(two(r.peek().Text)) == least {
		op := r.skip()
		right := r.tied(least+1, depth)
		left = &api.Expr{Code: api.Bin, At: op.At, Op: two(op.Text), Left: left, Right: right}
	}
	return left
}

// one reads a ONE that lies in so many ops of one and brackets.
func (r *reader) one(depth int) *api.Expr {
	if depth > api.MaxDepth {
		r.fail(api.ErrLimit)
	}
	switch r.peek().Kind {
	case api.Number:
		return r.number()
	case api.Word:
		return r.named(depth)
	}
	begin := r.peek()
	x := &api.Expr{At: begin.At}
	switch begin.Text {
	case "(":
		return r.bracketed(depth)
	case "-", "^", "!":
		r.skip()
		x.Code, x.Op, x.Left = api.Un, arith.One(begin.Text), r.one(depth+1)
	case "<-":
		r.skip()
		x.Code, x.Left = api.Recv, r.one(depth+1)
	case "make":
		r.skip()
		x.Code, x.Left = api.Make, r.bracketed(depth)
	case "len":
		r.skip()
		x.Code, x.Left = api.Len, r.bracketed(depth)
	case "true":
		r.skip()
		x.Code, x.N = api.True, 1
	case "false":
		r.skip()
		x.Code = api.True
	case "nil":
		r.skip()
		x.Code = api.Nil
	default:
		r.fail(api.ErrForm)
	}
	return x
}

// bracketed reads brackets, and the expression in them.
func (r *reader) bracketed(depth int) *api.Expr {
	r.take("(")
	x := r.expr(depth + 1)
	r.take(")")
	return x
}

// number reads a number.
func (r *reader) number() *api.Expr {
	t := r.takeKind(api.Number)
	n, err := strconv.Atoi(t.Text)
	if err != nil {
		// A Number of lex's has 63 bits: no text comes here.
		panic(&api.At{Err: api.ErrRange, Place: t.At})
	}
	return &api.Expr{Code: api.Num, At: t.At, N: n}
}

// named reads a name, and, if there are brackets behind it, a call.
func (r *reader) named(depth int) *api.Expr {
	name := r.takeKind(api.Word)
	if r.is("(") {
		return r.call(name, depth)
	}
	return &api.Expr{Code: api.Name, At: name.At, Name: name.Text}
}

// call reads what a call has behind its name.
func (r *reader) call(name api.Token, depth int) *api.Expr {
	x := &api.Expr{Code: api.Call, At: name.At, Name: name.Text}
	r.list(func() {
		x.Args = append(x.Args, r.expr(depth+1))
	})
	return x
}
