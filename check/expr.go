package check

import (
	"sluiceway/api"
	"sluiceway/arith"
)

// want looks at an expression that must be of a kind.
func (l *looker) want(kind int, x *api.Expr) {
	if l.expr(x) != kind {
		fail(api.ErrFalse, x.At)
	}
}

// expr looks at an expression, and tells its kind (None: a call of a function that answers nothing).
func (l *looker) expr(x *api.Expr) int {
	switch x.Code {
	case api.Num:
		return api.Int
	case api.True:
		return api.Bool
	case api.Nil:
		return api.Chan
	case api.Name:
		return l.find(x.Name, x.At)
	case api.Bin:
		takes, makes := kinds(x.Op)
		l.want(takes, x.Left)
		l.want(takes, x.Right)
		return makes
	case api.Un:
		takes, makes := kinds(x.Op)
		l.want(takes, x.Left)
		return makes
	case api.Call:
		return l.call(x)
	case api.Make:
		l.want(api.Int, x.Left)
		return api.Chan
	case api.Len, api.Recv:
		l.want(api.Chan, x.Left)
		return api.Int
	}
	return api.None
}

// kinds is of which kind what an op takes is, and what it makes.
func kinds(op int) (takes, makes int) {
	if op == api.AndAnd || op == api.OrOr {
		return api.Bool, api.Bool
	}
	return arith.Kinds(op)
}

// call looks at a call, and tells the kind of what the function answers.
func (l *looker) call(x *api.Expr) int {
	f, found := l.funcs[x.Name]
	if !found {
		fail(api.ErrMissing, x.At)
	}
	if len(x.Args) != len(f.Params) {
		fail(api.ErrArg, x.At)
	}
	for k, arg := range x.Args {
		l.want(f.Params[k].Kind, arg)
	}
	return f.Kind
}
