// Package clone copies expressions, so that what a call answers shares no memory with what it was given.
package clone

import "regrater/expr"

// Expr: a copy, with copies of its operands.
func Expr(e expr.Expr) expr.Expr {
	e.L = Exprs(e.L)
	return e
}

// Exprs: copies of some.
func Exprs(l []expr.Expr) []expr.Expr {
	if len(l) == 0 {
		return nil
	}
	out := make([]expr.Expr, 0, len(l))
	for _, e := range l {
		out = append(out, Expr(e))
	}
	return out
}
