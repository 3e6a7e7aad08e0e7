package stmt_test

import (
	"testing"

	"regrater/expr"
	"regrater/stmt"
	"regrater/value"
)

func num(n int64) expr.Expr            { return expr.Expr{Kind: expr.Lit, V: value.OfInt(n)} }
func text(s string) expr.Expr          { return expr.Expr{Kind: expr.Lit, V: value.OfText(s)} }
func col(table, name string) expr.Expr { return expr.Expr{Kind: expr.Col, Table: table, Name: name} }
func eq(a, b expr.Expr) expr.Expr {
	return expr.Expr{Kind: expr.Bin, Op: value.Eq, L: []expr.Expr{a, b}}
}
func list(l ...expr.Expr) []expr.Expr       { return l }
func item(e expr.Expr, as string) stmt.Item { return stmt.Item{E: e, As: as} }

var count = expr.Expr{Kind: expr.Agg, Op: expr.Count}

// cores, each with the text that shows it.
var cores = []struct {
	c    stmt.Core
	show string
}{
	{stmt.Core{From: "t"}, "SELECT * FROM t"},
	{stmt.Core{From: "t", Distinct: true, Alias: "u"}, "SELECT DISTINCT * FROM t u"},
	{stmt.Core{From: "t", Items: []stmt.Item{item(col("", "a"), ""), item(eq(num(1), count), "k")}}, "SELECT a, (1 = COUNT(*)) AS k FROM t"},
	{stmt.Core{From: "t", Join: true, Other: "u", On: [2]expr.Expr{col("", "a"), col("u", "b")}}, "SELECT * FROM t JOIN u ON a = u.b"},
	{stmt.Core{From: "t", Alias: "l", Join: true, Left: true, Other: "u", Named: "r", On: [2]expr.Expr{col("l", "a"), col("r", "b")}}, "SELECT * FROM t l LEFT JOIN u r ON l.a = r.b"},
	{stmt.Core{From: "t", Left: true, Other: "u", Named: "r", On: [2]expr.Expr{col("l", "a"), col("r", "b")}}, "SELECT * FROM t"},
	{stmt.Core{From: "t", Where: list(eq(col("", "a"), num(1)))}, "SELECT * FROM t WHERE (a = 1)"},
	{stmt.Core{From: "t", Group: list(col("", "a"), col("t", "b"))}, "SELECT * FROM t GROUP BY a, t.b"},
	{stmt.Core{From: "t", Distinct: true, Items: []stmt.Item{item(col("", "a"), "x")}, Alias: "p", Join: true, Other: "u", Named: "q", On: [2]expr.Expr{col("", "a"), col("", "b")},
		Where: list(col("", "c")), Group: list(col("", "a")), Having: list(eq(count, num(2)))},
		"SELECT DISTINCT a AS x FROM t p JOIN u q ON a = b WHERE c GROUP BY a HAVING (COUNT(*) = 2)"},
}

var queries = []struct {
	q    stmt.Query
	show string
}{
	{stmt.Query{Cores: []stmt.Core{{From: "t"}, {From: "u"}, {From: "w"}}}, "SELECT * FROM t UNION ALL SELECT * FROM u UNION ALL SELECT * FROM w"},
	{stmt.Query{Cores: []stmt.Core{{From: "t"}}, Order: []stmt.Order{{Name: "a"}}}, "SELECT * FROM t ORDER BY a"},
	{stmt.Query{Cores: []stmt.Core{{From: "t"}}, Order: []stmt.Order{{"a", true}, {"b", false}, {"c", true}}, Limit: []int64{0}}, "SELECT * FROM t ORDER BY a DESC, b, c DESC LIMIT 0"},
	{stmt.Query{Cores: []stmt.Core{{From: "t"}}, Limit: []int64{1<<63 - 1}}, "SELECT * FROM t LIMIT 9223372036854775807"},
}

// The numbers of kinds.
func TestKinds(t *testing.T) {
	if [...]int{stmt.Create, stmt.Drop, stmt.Insert, stmt.Delete, stmt.Update, stmt.View, stmt.DropView, stmt.Select, stmt.Read, stmt.Propagate} != [...]int{1, 2, 3, 4, 5, 6, 7, 8, 9, 10} {
		t.Error("kinds")
	}
}

// P17.1: statements by their kinds.
func TestShow(t *testing.T) {
	where := list(eq(col("", "a"), num(1)))
	query := stmt.Query{Cores: []stmt.Core{{From: "t"}}, Limit: []int64{5}}
	for _, c := range []struct {
		s    stmt.Stmt
		want string
	}{
		{stmt.Stmt{Kind: stmt.Create, Name: "t", Columns: []stmt.Column{{"a", 2, true}}}, "CREATE TABLE t (a INT PRIMARY KEY)"},
		{stmt.Stmt{Kind: stmt.Create, Name: "t", Columns: []stmt.Column{{"a", 1, false}, {"b", 2, false}, {"c", 3, true}, {"d", 3, false}}}, "CREATE TABLE t (a BOOL, b INT, c TEXT PRIMARY KEY, d TEXT)"},
		{stmt.Stmt{Kind: stmt.Drop, Name: "t"}, "DROP TABLE t"},
		{stmt.Stmt{Kind: stmt.Insert, Name: "t", Rows: [][]expr.Expr{{num(1)}}}, "INSERT INTO t VALUES (1)"},
		{stmt.Stmt{Kind: stmt.Insert, Name: "t", Rows: [][]expr.Expr{{num(1), text("it's")}, {eq(num(2), num(3)), {Kind: expr.Lit}}}}, "INSERT INTO t VALUES (1, 'it''s'), ((2 = 3), NULL)"},
		{stmt.Stmt{Kind: stmt.Delete, Name: "t"}, "DELETE FROM t"},
		{stmt.Stmt{Kind: stmt.Delete, Name: "t", Where: where}, "DELETE FROM t WHERE (a = 1)"},
		{stmt.Stmt{Kind: stmt.Update, Name: "t", Sets: []stmt.Set{{"a", num(1)}}}, "UPDATE t SET a = 1"},
		{stmt.Stmt{Kind: stmt.Update, Name: "t", Sets: []stmt.Set{{"a", num(1)}, {"b", eq(col("", "a"), num(2))}}, Where: where}, "UPDATE t SET a = 1, b = (a = 2) WHERE (a = 1)"},
		{stmt.Stmt{Kind: stmt.View, Name: "v", Query: query}, "CREATE VIEW v AS SELECT * FROM t LIMIT 5"},
		{stmt.Stmt{Kind: stmt.DropView, Name: "v"}, "DROP VIEW v"},
		{stmt.Stmt{Kind: stmt.Select, Query: query}, "SELECT * FROM t LIMIT 5"},
		{stmt.Stmt{Kind: stmt.Read, Name: "v"}, "READ v"},
		{stmt.Stmt{Kind: stmt.Propagate, N: 0}, "PROPAGATE 0"},
		{stmt.Stmt{Kind: stmt.Propagate, N: 1000}, "PROPAGATE 1000"},
	} {
		if got := stmt.Show(c.s); got != c.want {
			t.Errorf("%q; want %q", got, c.want)
		}
	}
	for _, kind := range []int{0, -1, 11, 1 << 40} {
		if got := stmt.Show(stmt.Stmt{Kind: kind, Name: "t", Query: query, Where: where, N: 5}); got != "" {
			t.Error(kind, got)
		}
	}
}

// P17.2: queries and cores.
func TestQuery(t *testing.T) {
	for _, c := range cores {
		q := stmt.Query{Cores: []stmt.Core{c.c}}
		if got := q.Show(); got != c.show {
			t.Errorf("%q; want %q", got, c.show)
		}
		q.Cores = append(q.Cores, stmt.Core{From: "z"})
		if got := q.Show(); got != c.show+" UNION ALL SELECT * FROM z" {
			t.Errorf("%q", got)
		}
	}
	for _, c := range queries {
		if got := c.q.Show(); got != c.show {
			t.Errorf("%q; want %q", got, c.show)
		}
		if got := stmt.Show(stmt.Stmt{Kind: stmt.Select, Query: c.q}); got != c.show {
			t.Errorf("%q; want %q", got, c.show)
		}
	}
}
