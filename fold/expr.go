package fold

import (
	"math"

	"sluiceway/api"
	"sluiceway/arith"
)

// expr folds an expression behind its parts. (What isn't there stays so.)
func expr(x *api.Expr) *api.Expr {
	if x == nil {
		return nil
	}
	folded := *x
	folded.Left, folded.Right = expr(x.Left), expr(x.Right)
	folded.Args = each(x.Args, func(arg *api.Expr) (*api.Expr, bool) {
		return expr(arg), true
	})
	switch x.Code {
	case api.Bin:
		return two(&folded)
	case api.Un:
		return one(&folded)
	}
	return &folded
}

// two folds an op of two whose parts are folded.
func two(x *api.Expr) *api.Expr {
	switch {
	case x.Op == api.AndAnd:
		return choice(x, true)
	case x.Op == api.OrOr:
		return choice(x, false)
	case x.Op >= api.Add && x.Op <= api.Ne:
		return reckoned(x)
	}
	return x
}

// choice folds an op that is its right part where its left one is as through tells, and else its left one.
func choice(x *api.Expr, through bool) *api.Expr {
	if left, known := truth(x.Left); known {
		if left == through {
			return x.Right
		}
		return x.Left
	}
	// The left part is asked for, whatever the right one is: just that one may be left out.
	if right, known := truth(x.Right); known && right == through {
		return x.Left
	}
	return x
}

// reckoned folds an op of arith of two.
func reckoned(x *api.Expr) *api.Expr {
	left, leftKnown := number(x.Left)
	right, rightKnown := number(x.Right)
	switch {
	case leftKnown && rightKnown:
		n, way := arith.Bin(x.Op, left, right)
		if way == api.Going {
			return made(x, n)
		}
	case rightKnown && idleRight(x.Op, right):
		return x.Left
	case leftKnown && idleLeft(x.Op, left):
		return x.Right
	}
	return x
}

// made is what an op of two makes of what is known; the op itself, if that can't be written.
func made(x *api.Expr, n int) *api.Expr {
	if _, makes := arith.Kinds(x.Op); makes == api.Bool {
		return newTruth(n != 0, x.At)
	}
	return numberOr(x, n)
}

// idleRight says whether an op makes of any left part just that, if its right one is n.
func idleRight(op, n int) bool {
	switch op {
	case api.Add, api.Sub, api.Or, api.Xor, api.Shl, api.Shr:
		return n == 0
	case api.Mul, api.Div:
		return n == 1
	}
	return false
}

// idleLeft says whether an op makes of any right part just that, if its left one is n.
func idleLeft(op, n int) bool {
	switch op {
	case api.Add, api.Or, api.Xor:
		return n == 0
	case api.Mul:
		return n == 1
	}
	return false
}

// one folds an op of one whose part is folded.
func one(x *api.Expr) *api.Expr {
	if _, known := number(x); known {
		// It is written as it must be: nothing in it is new.
		return x
	}
	if so, known := truth(x.Left); known {
		return newTruth(!so, x.At)
	}
	if n, known := number(x.Left); known {
		return numberOr(x, arith.Un(x.Op, n))
	}
	return x
}

// truth is the bool that an expression is, and whether it is one that is known.
func truth(x *api.Expr) (so, known bool) {
	if x == nil || x.Code != api.True {
		return false, false
	}
	return x.N != 0, true
}

// number is the number that an expression is, and whether it is one that is known.
func number(x *api.Expr) (n int, known bool) {
	if x == nil {
		return 0, false
	}
	if x.Code == api.Num {
		return x.N, true
	}
	below := x.Code == api.Un && x.Op == api.Neg && x.Left != nil && x.Left.Code == api.Num && x.Left.N > 0
	if !below {
		return 0, false
	}
	return -x.Left.N, true
}

// newTruth is a bool as an expression.
func newTruth(so bool, place int) *api.Expr {
	x := &api.Expr{Code: api.True, At: place}
	if so {
		x.N = 1
	}
	return x
}

// numberOr is a number in an op's place; the op itself, if the number can't be written: nothing stands for the least one of all, the one that turned round is itself.
func numberOr(op *api.Expr, n int) *api.Expr {
	switch {
	case n == math.MinInt:
		return op
	case n < 0:
		return &api.Expr{Code: api.Un, At: op.At, Op: api.Neg, Left: &api.Expr{Code: api.Num, At: op.At, N: -n}}
	}
	return &api.Expr{Code: api.Num, At: op.At, N: n}
}
