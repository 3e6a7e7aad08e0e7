package parse_test

import (
	"math/rand/v2"
	"strings"
	"testing"

	"regrater/api"
	"regrater/expr"
	"regrater/lex"
	"regrater/parse"
	"regrater/value"
)

func many(s string, n int) string { return strings.Repeat(s, n) }

// P16.1, P16.2: how texts are parsed, as layer 15 shows it.
func TestExpr(t *testing.T) {
	for _, c := range [][2]string{
		{"1 + a * 2", "(1 + (a * 2))"},
		{"a", "a"}, {"a . b", "a.b"}, {"007", "7"}, {"'it''s'", "'it''s'"}, {"TRUE", "TRUE"}, {"FALSE", "FALSE"}, {"NULL", "NULL"},
		{"((a))", "a"},
		{"a - b - c", "((a - b) - c)"}, {"a - (b - c)", "(a - (b - c))"}, {"a / b % c * d", "(((a / b) % c) * d)"}, {"a + b - c + d", "(((a + b) - c) + d)"},
		{"a || b || c", "((a || b) || c)"}, {"a || b + c", "(a || (b + c))"}, {"a + b || c", "((a + b) || c)"},
		{"a OR b OR c", "((a OR b) OR c)"}, {"a AND b AND c", "((a AND b) AND c)"}, {"a OR b AND c", "(a OR (b AND c))"}, {"a AND b OR c", "((a AND b) OR c)"},
		{"NOT a AND b", "((NOT a) AND b)"}, {"NOT a = b", "(NOT (a = b))"}, {"NOT NOT a", "(NOT (NOT a))"}, {"a AND NOT b", "(a AND (NOT b))"},
		{"(NOT a) = b", "((NOT a) = b)"}, {"NOT a IS NULL", "(NOT (a IS NULL))"},
		{"a = b", "(a = b)"}, {"a <> b", "(a <> b)"}, {"a < b", "(a < b)"}, {"a <= b", "(a <= b)"}, {"a > b", "(a > b)"}, {"a >= b", "(a >= b)"},
		{"a || b = c || d", "((a || b) = (c || d))"}, {"a = b AND c < d", "((a = b) AND (c < d))"}, {"(a = b) = c", "((a = b) = c)"},
		{"a IS NULL", "(a IS NULL)"}, {"a IS NOT NULL", "(a IS NOT NULL)"}, {"a || b IS NULL", "((a || b) IS NULL)"}, {"(a IS NULL) IS NULL", "((a IS NULL) IS NULL)"}, {"a IS NULL OR b", "((a IS NULL) OR b)"},
		{"- a", "(- a)"}, {"- - a", "(- (- a))"}, {"a - - b", "(a - (- b))"}, {"- a * b", "((- a) * b)"}, {"a * - b", "(a * (- b))"}, {"--1", "(- (- 1))"},
		{"COUNT(*)", "COUNT(*)"}, {"COUNT(a)", "COUNT(a)"}, {"SUM(a + 1)", "SUM((a + 1))"}, {"MIN(a)", "MIN(a)"}, {"MAX(NOT a)", "MAX((NOT a))"}, {"SUM(a) + COUNT(*) * 2", "(SUM(a) + (COUNT(*) * 2))"},
		{"SUM(a) = SUM(b)", "(SUM(a) = SUM(b))"}, {"COUNT((a))", "COUNT(a)"},
		{" a\n+\nb ", "(a + b)"},
		{many("(", 40) + "a" + many(")", 40), "a"},
		{many("-", 19) + "a", many("(- ", 19) + "a" + many(")", 19)},
	} {
		e, at, err := parse.Expr(c[0])
		if err != api.OK || at != 0 || expr.Show(e) != c[1] || !expr.Good(e) {
			t.Errorf("Expr(%q) = %s, %d, %d; want %s", c[0], expr.Show(e), at, err, c[1])
		}
	}
}

// P16.2: errors, each at its index.
func TestErrors(t *testing.T) {
	for _, c := range []struct {
		s    string
		at   int
		want api.Errno
	}{
		{"", 0, api.ErrForm}, {" ", 1, api.ErrForm}, {"#", 0, api.ErrForm}, {"a #", 2, api.ErrForm}, {"1 + " + many("a", 17), 4, api.ErrRange},
		{many(" ", 2001), 0, api.ErrLong},
		{"+", 0, api.ErrForm}, {"* a", 0, api.ErrForm}, {"1 +", 3, api.ErrForm}, {"1 + ", 4, api.ErrForm}, {"1 + * 2", 4, api.ErrForm}, {"1 + )", 4, api.ErrForm},
		{"a b", 2, api.ErrForm}, {"a 1", 2, api.ErrForm}, {"a 'b'", 2, api.ErrForm}, {"a (b)", 2, api.ErrForm}, {"a )", 2, api.ErrForm}, {"a , b", 2, api.ErrForm}, {"a NOT", 2, api.ErrForm}, {"a TRUE", 2, api.ErrForm},
		{"(a", 2, api.ErrForm}, {"(a b)", 3, api.ErrForm}, {"()", 1, api.ErrForm}, {"(a,b)", 2, api.ErrForm}, {"(", 1, api.ErrForm},
		{"a = b = c", 6, api.ErrForm}, {"a < b > c", 6, api.ErrForm}, {"a = b IS NULL", 6, api.ErrForm}, {"a IS NULL IS NULL", 10, api.ErrForm}, {"a IS NULL = b", 10, api.ErrForm},
		{"a = NOT b", 4, api.ErrForm}, {"a + NOT b", 4, api.ErrForm}, {"- NOT a", 2, api.ErrForm}, {"a = ", 4, api.ErrForm}, {"a OR", 4, api.ErrForm}, {"a AND AND b", 6, api.ErrForm}, {"NOT", 3, api.ErrForm}, {"-", 1, api.ErrForm},
		{"a IS", 4, api.ErrForm}, {"a IS TRUE", 5, api.ErrForm}, {"a IS NOT", 8, api.ErrForm}, {"a IS NOT 1", 9, api.ErrForm}, {"a IS 'NULL'", 5, api.ErrForm},
		{"a.", 2, api.ErrForm}, {"a.1", 2, api.ErrForm}, {"a.B", 2, api.ErrForm}, {"a.b.c", 3, api.ErrForm}, {"1.2", 1, api.ErrForm}, {".a", 0, api.ErrForm}, {"(a).b", 3, api.ErrForm},
		{"SELECT", 0, api.ErrForm}, {"AND", 0, api.ErrForm}, {"IS", 0, api.ErrForm}, {"COUNTS(a)", 0, api.ErrForm}, {"a + FROM", 4, api.ErrForm},
		{"COUNT", 5, api.ErrForm}, {"COUNT a", 6, api.ErrForm}, {"COUNT(", 6, api.ErrForm}, {"COUNT()", 6, api.ErrForm}, {"COUNT(*", 7, api.ErrForm}, {"COUNT(* a)", 8, api.ErrForm}, {"COUNT(*) * ", 11, api.ErrForm}, {"COUNT(a b)", 8, api.ErrForm},
		{"SUM(*)", 4, api.ErrForm}, {"MIN(*)", 4, api.ErrForm}, {"MAX(*)", 4, api.ErrForm}, {"SUM()", 4, api.ErrForm}, {"SUM", 3, api.ErrForm}, {"(COUNT *)", 7, api.ErrForm},
		{"SUM(SUM(a))", 4, api.ErrForm}, {"COUNT(a + MAX(b))", 10, api.ErrForm}, {"MIN((COUNT(*)))", 5, api.ErrForm}, {"SUM(a) + SUM(SUM", 13, api.ErrForm},
		{"'AND'", 0, api.OK}, {"'a' 'AND' 'b'", 4, api.ErrForm},
		// A (, a NOT or a - inside 40 others.
		{many("(", 41) + "a" + many(")", 41), 40, api.ErrNest}, {many("(", 41), 40, api.ErrNest}, {many("(", 40) + "a", 41, api.ErrForm}, {many("(", 40), 40, api.ErrForm},
		{many("-", 41) + "1", 40, api.ErrNest}, {many("NOT ", 41) + "1", 160, api.ErrNest}, {many("(-", 20) + "(1", 40, api.ErrNest}, {many("(", 40) + "-1", 40, api.ErrNest}, {many("(", 40) + "NOT 1", 40, api.ErrNest},
		{"SUM(" + many("(", 40), 43, api.ErrNest}, {many("(", 40) + "SUM(a)", 43, api.ErrNest}, {many("(", 40) + "COUNT(*)", 45, api.ErrNest}, {many("(", 40) + "SUM a", 44, api.ErrForm},
		{"SUM(" + many("(", 39) + "SUM(", 43, api.ErrForm}, {many("(", 41) + "#", 41, api.ErrForm},
		{many("(", 40) + "1 - 1" + many(")", 40), 0, api.OK}, {many("(", 40) + "a IS NOT NULL" + many(")", 40), 0, api.OK},
		{many("(", 30) + many("(a) + ", 9) + many("(", 11), 30 + 54 + 10, api.ErrNest},
		// An expression that is too deep.
		{many("-", 19) + "1", 0, api.OK}, {many("-", 20) + "1", 0, api.ErrNest}, {" " + many("NOT ", 20) + "1", 1, api.ErrNest},
		{"1" + many(" + 1", 19), 0, api.OK}, {"1" + many(" + 1", 20), 0, api.ErrNest}, {"  (1" + many(" + 1", 20) + ")", 2, api.ErrNest},
		{"1" + many(" + 1", 18) + " = SUM(a)", 0, api.OK}, {"SUM(1" + many(" + 1", 19) + ")", 0, api.ErrNest},
		{"1" + many(" + 1", 20) + " +", 83, api.ErrForm}, {many("-", 40) + "1", 0, api.ErrNest}, {many("-", 40) + "", 40, api.ErrForm},
		{"1" + many(" + 1", 20) + " b", 0, api.ErrNest}, // the expression itself goes ahead of what is behind it
	} {
		e, at, err := parse.Expr(c.s)
		if err != c.want || at != c.at || err != api.OK && !expr.Same(e, expr.Expr{}) {
			t.Errorf("Expr(%q) = %s, %d, %d; want %d, %d", c.s, expr.Show(e), at, err, c.at, c.want)
		}
	}
}

// P16.1: At begins anywhere, and ends behind the longest expression.
func TestAt(t *testing.T) {
	l, _, _ := lex.Split("SELECT a + b FROM t WHERE SUM ( a ) = 1 = 2 , 3 + , - 1 IS NULL )")
	for _, c := range []struct {
		at, next int
		err      api.Errno
		show     string
	}{
		{0, 0, api.ErrForm, ""}, {1, 4, api.OK, "(a + b)"}, {2, 2, api.ErrForm, ""}, {3, 4, api.OK, "b"}, {4, 4, api.ErrForm, ""}, {5, 6, api.OK, "t"},
		{7, 13, api.OK, "(SUM(a) = 1)"}, {8, 13, api.OK, "(a = 1)"}, {9, 10, api.OK, "a"}, {12, 15, api.OK, "(1 = 2)"}, {14, 15, api.OK, "2"}, {15, 15, api.ErrForm, ""},
		{16, 18, api.ErrForm, ""}, {19, 23, api.OK, "((- 1) IS NULL)"}, {23, 23, api.ErrForm, ""}, {24, 24, api.ErrForm, ""},
	} {
		e, next, err := parse.At(l, c.at)
		if err != c.err || next != c.next || expr.Show(e) != c.show {
			t.Errorf("At(%d) = %s, %d, %d; want %v", c.at, expr.Show(e), next, err, c)
		}
	}
	if _, next, err := parse.At(nil, 0); next != 0 || err != api.ErrForm {
		t.Error("no tokens", next, err)
	}
	l, _, _ = lex.Split("a , 1" + many(" + 1", 20) + " , (")
	if _, next, err := parse.At(l, 2); next != 2 || err != api.ErrNest {
		t.Error("too deep", next, err)
	}
	if _, next, err := parse.At(l, len(l)-1); next != len(l) || err != api.ErrForm {
		t.Error("the end", next, err)
	}
}

// random expression of at most some depth.
func random(r *rand.Rand, depth int, aggregates bool) expr.Expr {
	what := r.IntN(12)
	if depth == 1 || what < 3 {
		switch r.IntN(8) {
		case 0:
			return expr.Expr{Kind: expr.Lit, V: value.OfInt(r.Int64())}
		case 1:
			return expr.Expr{Kind: expr.Lit, V: value.OfText([]string{"", "it's", "AND", "x"}[r.IntN(4)])}
		case 2:
			return expr.Expr{Kind: expr.Lit, V: value.OfBool(r.IntN(2) == 0)}
		case 3:
			return expr.Expr{Kind: expr.Lit}
		case 4:
			if aggregates {
				return expr.Expr{Kind: expr.Agg, Op: expr.Count}
			}
		}
		return expr.Expr{Kind: expr.Col, Table: []string{"", "t", "u_2"}[r.IntN(3)], Name: []string{"a", "b1"}[r.IntN(2)]}
	}
	switch {
	case what < 8:
		return expr.Expr{Kind: expr.Bin, Op: 1 + r.IntN(14), L: []expr.Expr{random(r, depth-1, aggregates), random(r, depth-1, aggregates)}}
	case what < 11 || !aggregates:
		return expr.Expr{Kind: expr.Not + r.IntN(4), L: []expr.Expr{random(r, depth-1, aggregates)}}
	}
	return expr.Expr{Kind: expr.Agg, Op: 1 + r.IntN(4), L: []expr.Expr{random(r, depth-1, false)}}
}

// level of the rule of the grammar that makes an expression, from that of OR on.
func level(e expr.Expr) int {
	switch e.Kind {
	case expr.Bin:
		return []int{0, 4, 4, 4, 4, 4, 4, 6, 6, 7, 7, 7, 5, 2, 1}[e.Op]
	case expr.Not:
		return 3
	case expr.IsNull, expr.NotNull:
		return 4
	case expr.Neg:
		return 8
	}
	return 9
}

// sparse writes an expression with no more brackets than it takes.
func sparse(e expr.Expr, least int) string {
	s, own := "", level(e)
	switch e.Kind {
	case expr.Bin:
		first := own
		if own == 4 {
			first = 5
		}
		sign := []string{"", "=", "<>", "<", "<=", ">", ">=", "+", "-", "*", "/", "%", "||", "AND", "OR"}[e.Op]
		s = sparse(e.L[0], first) + " " + sign + " " + sparse(e.L[1], own+1)
	case expr.Not:
		s = "NOT " + sparse(e.L[0], 3)
	case expr.Neg:
		s = "-" + sparse(e.L[0], 8)
	case expr.IsNull:
		s = sparse(e.L[0], 5) + " IS NULL"
	case expr.NotNull:
		s = sparse(e.L[0], 5) + " IS NOT NULL"
	case expr.Agg:
		s = "COUNT(*)"
		if len(e.L) > 0 {
			s = []string{"", "COUNT", "SUM", "MIN", "MAX"}[e.Op] + " ( " + sparse(e.L[0], 1) + ")"
		}
	default:
		s = expr.Show(e)
	}
	if own < least {
		return "(" + s + ")"
	}
	return s
}

// P16.2: Expr of Show returns the expression, and so does that of a text with few brackets.
func TestShown(t *testing.T) {
	r := rand.New(rand.NewPCG(16, 2))
	n := 0
	for range 4000 {
		e := random(r, 1+r.IntN(6), true)
		for _, s := range []string{expr.Show(e), sparse(e, 1)} {
			if len(s) > api.MaxStmt {
				continue
			}
			n++
			if got, at, err := parse.Expr(s); err != api.OK || at != 0 || !expr.Same(got, e) {
				t.Fatalf("Expr(%q) = %s, %d, %d", s, expr.Show(got), at, err)
			}
		}
	}
	if n < 6000 {
		t.Error("too few", n)
	}
}

// P16.1: any tokens are answered, and an error's index is one of a token, or the end.
func TestAnyTokens(t *testing.T) {
	r := rand.New(rand.NewPCG(16, 1))
	words := strings.Fields("a b 1 'x' ( ( ) ) . + - * = < || AND OR NOT NOT IS NULL TRUE COUNT SUM , FROM")
	for range 20000 {
		var l []string
		for range r.IntN(12) {
			l = append(l, words[r.IntN(len(words))])
		}
		s := strings.Join(l, " ")
		tokens, _, _ := lex.Split(s)
		e, next, err := parse.At(tokens, 0)
		if next < 0 || next > len(tokens) || (err == api.OK) != expr.Good(e) {
			t.Fatal(s, next, err)
		}
		if err == api.OK { // what was parsed stands alone, and nothing longer does
			for n := range len(tokens) + 1 {
				_, _, alone := parse.Expr(lex.Join(tokens[:n]))
				if n == next && alone != api.OK || n > next && alone == api.OK {
					t.Fatal(s, n, next)
				}
			}
		} else if next < len(tokens) && err == api.ErrForm {
			// Nothing that begins with the tokens up to the wrong one is an expression.
			for _, end := range []string{"", "1", ")", "NULL", "a )", "( 1 )", "( * )"} {
				if _, _, alone := parse.Expr(lex.Join(tokens[:next+1]) + " " + end); alone == api.OK {
					t.Fatal(s, next, end)
				}
			}
		}
	}
}
