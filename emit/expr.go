package emit

import (
	"sluiceway/api"
	"sluiceway/arith"
)

// expr writes an expression, and tells its kind (None: nothing waits behind it).
func (w *writer) expr(x *api.Expr) int {
	switch x.Code {
	case api.Num:
		w.add(api.IPush, x.N)
		return api.Int
	case api.True:
		w.add(api.IBool, x.N)
		return api.Bool
	case api.Nil:
		w.add(api.INil, 0)
		return api.Chan
	case api.Name:
		return w.name(x.Name)
	case api.Bin:
		return w.bin(x)
	case api.Un:
		w.expr(x.Left)
		w.add(api.IUn, x.Op)
		return makes(x.Op)
	case api.Call:
		return w.call(x)
	case api.Make:
		w.expr(x.Left)
		w.add(api.IMake, 0)
		return api.Chan
	case api.Len:
		w.expr(x.Left)
		w.add(api.ILen, 0)
		return api.Int
	case api.Recv:
		w.expr(x.Left)
		w.add(api.IRecv, 0)
		return api.Int
	}
	return api.None
}

// makes is the kind of what an op makes.
func makes(op int) int {
	_, kind := arith.Kinds(op)
	return kind
}

// name writes what a name is.
func (w *writer) name(name string) int {
	if local, found := w.local(name); found {
		w.add(api.IGet, local)
		return w.fn.Locals[local]
	}
	w.add(api.ILoad, w.places[name])
	return api.Int
}

// bin writes an op of two.
func (w *writer) bin(x *api.Expr) int {
	switch x.Op {
	case api.AndAnd:
		return w.andAnd(x)
	case api.OrOr:
		return w.orOr(x)
	}
	w.expr(x.Left)
	w.expr(x.Right)
	w.add(api.IBin, x.Op)
	return makes(x.Op)
}

// andAnd writes what is false, if its left part is, and else what the right one is.
func (w *writer) andAnd(x *api.Expr) int {
	w.expr(x.Left)
	isFalse := w.open(api.IFalse)
	w.expr(x.Right)
	end := w.open(api.IJump)
	w.lead(isFalse)
	w.add(api.IBool, 0)
	w.lead(end)
	return api.Bool
}

// orOr writes what is true, if its left part is, and else what the right one is.
func (w *writer) orOr(x *api.Expr) int {
	w.expr(x.Left)
	isFalse := w.open(api.IFalse)
	w.add(api.IBool, 1)
	end := w.open(api.IJump)
	w.lead(isFalse)
	w.expr(x.Right)
	w.lead(end)
	return api.Bool
}

// args writes a call's arguments, and tells the function's number.
func (w *writer) args(x *api.Expr) int {
	for _, arg := range x.Args {
		w.expr(arg)
	}
	return w.numbers[x.Name]
}

// call writes a call.
func (w *writer) call(x *api.Expr) int {
	fn := w.args(x)
	w.add(api.ICall, fn)
	return w.funcs[fn].Kind
}
