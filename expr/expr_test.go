package expr_test

import (
	"slices"
	"strings"
	"testing"

	"regrater/api"
	"regrater/expr"
	"regrater/value"
)

func lit(v value.Value) expr.Expr      { return expr.Expr{Kind: expr.Lit, V: v} }
func num(n int64) expr.Expr            { return lit(value.OfInt(n)) }
func col(table, name string) expr.Expr { return expr.Expr{Kind: expr.Col, Table: table, Name: name} }
func bin(op int, a, b expr.Expr) expr.Expr {
	return expr.Expr{Kind: expr.Bin, Op: op, L: []expr.Expr{a, b}}
}
func one(kind int, a expr.Expr) expr.Expr  { return expr.Expr{Kind: kind, L: []expr.Expr{a}} }
func agg(op int, l ...expr.Expr) expr.Expr { return expr.Expr{Kind: expr.Agg, Op: op, L: l} }
func long(s string, n int) string          { return strings.Repeat(s, n) }
func nots(n int, e expr.Expr) expr.Expr {
	for range n {
		e = one(expr.Not, e)
	}
	return e
}

var good = []struct {
	e     expr.Expr
	show  string
	depth int
}{
	{lit(value.Value{}), "NULL", 1},
	{lit(value.OfBool(true)), "TRUE", 1},
	{lit(value.OfBool(false)), "FALSE", 1},
	{num(0), "0", 1},
	{num(1<<63 - 1), "9223372036854775807", 1},
	{lit(value.OfText("it's")), "'it''s'", 1},
	{lit(value.OfText(long("x", 64))), "'" + long("x", 64) + "'", 1},
	{col("", "a"), "a", 1},
	{col("b", "a_1"), "b.a_1", 1},
	{col(long("t", 16), long("n", 16)), long("t", 16) + "." + long("n", 16), 1},
	{bin(value.Add, num(1), col("a", "b")), "(1 + a.b)", 2},
	{bin(value.Eq, num(1), num(2)), "(1 = 2)", 2},
	{bin(value.Ne, num(1), num(2)), "(1 <> 2)", 2},
	{bin(value.Lt, num(1), num(2)), "(1 < 2)", 2},
	{bin(value.Le, num(1), num(2)), "(1 <= 2)", 2},
	{bin(value.Gt, num(1), num(2)), "(1 > 2)", 2},
	{bin(value.Ge, num(1), num(2)), "(1 >= 2)", 2},
	{bin(value.Sub, num(1), num(2)), "(1 - 2)", 2},
	{bin(value.Mul, num(1), num(2)), "(1 * 2)", 2},
	{bin(value.Div, num(1), num(2)), "(1 / 2)", 2},
	{bin(value.Mod, num(1), num(2)), "(1 % 2)", 2},
	{bin(value.Concat, num(1), num(2)), "(1 || 2)", 2},
	{bin(value.And, num(1), bin(value.Or, num(2), num(3))), "(1 AND (2 OR 3))", 3},
	{one(expr.Not, num(1)), "(NOT 1)", 2},
	{one(expr.Neg, one(expr.Neg, num(1))), "(- (- 1))", 3},
	{one(expr.IsNull, col("", "a")), "(a IS NULL)", 2},
	{one(expr.NotNull, one(expr.IsNull, num(1))), "((1 IS NULL) IS NOT NULL)", 3},
	{agg(expr.Count), "COUNT(*)", 1},
	{agg(expr.Count, col("", "a")), "COUNT(a)", 2},
	{agg(expr.Sum, bin(value.Add, col("", "a"), num(1))), "SUM((a + 1))", 3},
	{agg(expr.Min, num(1)), "MIN(1)", 2},
	{agg(expr.Max, num(1)), "MAX(1)", 2},
	{bin(value.Add, agg(expr.Sum, num(1)), agg(expr.Count)), "(SUM(1) + COUNT(*))", 3},
	{nots(19, num(1)), long("(NOT ", 19) + "1" + long(")", 19), 20},
}

func with(e expr.Expr, change func(e *expr.Expr)) expr.Expr {
	change(&e)
	return e
}

// bad: expressions that are not valid, and their depths.
func bad() []expr.Expr {
	l := []expr.Expr{
		{}, {Kind: 9}, {Kind: -1}, lit(value.OfInt(-1)), lit(value.Value{Kind: 1, N: 2}), lit(value.OfText(long("x", 65))),
		col("", ""), col("a", ""), col("", "A"), col("A", "a"), col("", long("a", 17)), col(long("a", 17), "a"), col("a.b", "c"),
		bin(0, num(1), num(2)), bin(15, num(1), num(2)), bin(-1, num(1), num(2)),
		{Kind: expr.Bin, Op: value.Add}, {Kind: expr.Bin, Op: value.Add, L: []expr.Expr{num(1)}},
		{Kind: expr.Bin, Op: value.Add, L: []expr.Expr{num(1), num(1), num(1)}},
		bin(value.Add, num(1), expr.Expr{}), bin(value.Add, num(-1), num(1)),
		agg(0, num(1)), agg(5, num(1)), agg(expr.Sum), agg(expr.Min), agg(expr.Max), agg(expr.Count, num(1), num(2)), agg(expr.Sum, num(-1)),
		agg(expr.Sum, agg(expr.Count)), agg(expr.Count, bin(value.Add, num(1), agg(expr.Max, num(1)))),
		nots(20, num(1)), bin(value.And, num(1), nots(19, num(1))), agg(expr.Sum, nots(19, num(1))),
	}
	for _, kind := range []int{expr.Not, expr.Neg, expr.IsNull, expr.NotNull} {
		l = append(l, expr.Expr{Kind: kind}, one(kind, expr.Expr{}), expr.Expr{Kind: kind, L: []expr.Expr{num(1), num(1)}},
			with(one(kind, num(1)), func(e *expr.Expr) { e.Op = 1 }))
	}
	for _, e := range []expr.Expr{num(1), col("a", "b"), bin(value.Add, num(1), num(1)), one(expr.Not, num(1)), one(expr.IsNull, num(1)), agg(expr.Count), agg(expr.Sum, num(1))} {
		if e.Kind != expr.Lit {
			l = append(l, with(e, func(e *expr.Expr) { e.V = value.OfInt(1) }), with(e, func(e *expr.Expr) { e.V = value.OfBool(false) }))
		}
		if e.Kind != expr.Col {
			l = append(l, with(e, func(e *expr.Expr) { e.Name = "a" }), with(e, func(e *expr.Expr) { e.Table = "a" }))
		}
		if len(e.L) == 0 {
			l = append(l, with(e, func(e *expr.Expr) { e.L = []expr.Expr{num(1), num(2)} }))
		}
		if e.Kind < expr.Bin {
			l = append(l, with(e, func(e *expr.Expr) { e.Op = 1 }), with(e, func(e *expr.Expr) { e.L = []expr.Expr{num(1)} }))
		}
	}
	return l
}

// The numbers of kinds and aggregates.
func TestNumbers(t *testing.T) {
	kinds := [...]int{expr.Lit, expr.Col, expr.Bin, expr.Not, expr.Neg, expr.IsNull, expr.NotNull, expr.Agg}
	if kinds != [...]int{1, 2, 3, 4, 5, 6, 7, 8} {
		t.Error(kinds)
	}
	if [...]int{expr.Count, expr.Sum, expr.Min, expr.Max} != [...]int{1, 2, 3, 4} {
		t.Error("aggregates")
	}
}

// P15.1, P15.2: valid expressions.
func TestGood(t *testing.T) {
	for _, c := range good {
		if !expr.Good(c.e) {
			t.Error("not good:", c.show)
		}
		if got := expr.Show(c.e); got != c.show {
			t.Errorf("Show = %s; want %s", got, c.show)
		}
		if got := expr.Depth(c.e); got != c.depth {
			t.Errorf("Depth of %s = %d", c.show, got)
		}
	}
	empty := with(num(1), func(e *expr.Expr) { e.L = []expr.Expr{} })
	if !expr.Good(empty) || !expr.Same(empty, num(1)) || expr.Show(agg(expr.Count, []expr.Expr{}...)) != "COUNT(*)" {
		t.Error("a list that is empty, though not nil")
	}
}

// P15.1, P15.2: expressions that are not valid.
func TestBad(t *testing.T) {
	for i, e := range bad() {
		if expr.Good(e) || expr.Show(e) != "" {
			t.Error(i, e)
		}
	}
}

// P15.1: the depth of any expression.
func TestDepth(t *testing.T) {
	deep := nots(100, expr.Expr{})
	odd := expr.Expr{Kind: 77, L: []expr.Expr{num(1), nots(3, num(1)), num(2)}}
	if expr.Depth(expr.Expr{}) != 1 || expr.Depth(deep) != 101 || expr.Depth(odd) != 5 || api.MaxNest != 20 {
		t.Error(expr.Depth(deep), expr.Depth(odd))
	}
}

// P15.1: Same of all pairs.
func TestSame(t *testing.T) {
	var l []expr.Expr
	for _, c := range good {
		l = append(l, c.e)
	}
	l = append(l, bin(value.Add, col("a", "b"), num(1)), agg(expr.Sum, num(1)), one(expr.IsNull, num(1)), col("", "b"), col("a", "a_1"))
	l = append(l, expr.Expr{}, expr.Expr{Kind: 9}, expr.Expr{L: []expr.Expr{{}}}, expr.Expr{Op: 1}, lit(value.Value{N: 1}), lit(value.Value{S: "1"}))
	for i, a := range l {
		for j, b := range l {
			if expr.Same(a, b) != (i == j) {
				t.Error("Same", a, b)
			}
		}
	}
	for _, c := range good { // the same, but not in the same memory
		copied := with(c.e, func(e *expr.Expr) { e.L = slices.Clone(e.L) })
		if !expr.Same(c.e, copied) {
			t.Error(c.show)
		}
	}
}

// P15.1: All goes to an expression, and then operand by operand.
func TestAll(t *testing.T) {
	e := bin(value.Add, bin(value.Mul, num(1), agg(expr.Sum, col("", "a"))), one(expr.Neg, num(2)))
	want := []string{"((1 * SUM(a)) + (- 2))", "(1 * SUM(a))", "1", "SUM(a)", "a", "(- 2)", "2"}
	all := expr.All(e)
	for _, n := range []int{1, 4, 5, 7} {
		var got []string
		for x := range all {
			got = append(got, expr.Show(x))
			if len(got) == n {
				break
			}
		}
		if !slices.Equal(got, want[:n]) {
			t.Error(got)
		}
	}
	n := 0
	for range expr.All(expr.Expr{L: []expr.Expr{{}, {}, {}}}) {
		n++
	}
	if n != 4 {
		t.Error("of an expression that is not valid:", n)
	}
}
