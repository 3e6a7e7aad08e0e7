package sql_test

import (
	"fmt"
	"math/rand/v2"
	"strings"
	"testing"

	"regrater/api"
	"regrater/expr"
	"regrater/sql"
	"regrater/stmt"
	"regrater/value"
)

func num(n int64) expr.Expr            { return expr.Expr{Kind: expr.Lit, V: value.OfInt(n)} }
func col(table, name string) expr.Expr { return expr.Expr{Kind: expr.Col, Table: table, Name: name} }
func eq(a, b expr.Expr) expr.Expr {
	return expr.Expr{Kind: expr.Bin, Op: value.Eq, L: []expr.Expr{a, b}}
}

func column(name string, kind int, key bool) stmt.Column {
	return stmt.Column{Name: name, Kind: kind, Key: key}
}

func columns(l ...stmt.Column) []stmt.Column { return l }

// same tells whether two statements are the same, where a list that is empty may be nil.
func same(a, b stmt.Stmt) bool { return fmt.Sprintf("%+v", a) == fmt.Sprintf("%+v", b) }

func many(s string, n int) string { return strings.Repeat(s, n) }

// lists of n elements.
func listed(s string, n int, between string) string {
	return strings.TrimSuffix(many(s+between, n), between)
}

// P18.1: the fields of statements.
func TestParse(t *testing.T) {
	a, b := col("", "a"), col("", "b")
	all := []stmt.Core{{From: "t"}}
	full := stmt.Core{Distinct: true, Items: []stmt.Item{{E: a}, {E: eq(a, num(1)), As: "x"}}, From: "t", Alias: "l", Join: true, Left: true, Other: "u", Named: "r",
		On: [2]expr.Expr{col("l", "a"), b}, Where: []expr.Expr{a}, Group: []expr.Expr{a, col("r", "b")}, Having: []expr.Expr{b}}
	for _, c := range []struct {
		s    string
		want stmt.Stmt
	}{
		{"CREATE TABLE t (a INT PRIMARY KEY)", stmt.Stmt{Kind: stmt.Create, Name: "t", Columns: columns(column("a", value.Int, true))}},
		{"CREATE TABLE t (a BOOL, b TEXT PRIMARY KEY, c INT, d BOOL PRIMARY KEY)", stmt.Stmt{Kind: stmt.Create, Name: "t", Columns: columns(column("a", value.Bool, false), column("b", value.Text, true), column("c", value.Int, false), column("d", value.Bool, true))}},
		{"DROP TABLE t", stmt.Stmt{Kind: stmt.Drop, Name: "t"}},
		{"INSERT INTO t VALUES (1)", stmt.Stmt{Kind: stmt.Insert, Name: "t", Rows: [][]expr.Expr{{num(1)}}}},
		{"INSERT INTO t VALUES (1, a = 1), (b, 2)", stmt.Stmt{Kind: stmt.Insert, Name: "t", Rows: [][]expr.Expr{{num(1), eq(a, num(1))}, {b, num(2)}}}},
		{"DELETE FROM t WHERE a = 1", stmt.Stmt{Kind: stmt.Delete, Name: "t", Where: []expr.Expr{eq(a, num(1))}}},
		{"DELETE FROM t", stmt.Stmt{Kind: stmt.Delete, Name: "t"}},
		{"UPDATE t SET a = 1", stmt.Stmt{Kind: stmt.Update, Name: "t", Sets: []stmt.Set{{Name: "a", E: num(1)}}}},
		{"UPDATE t SET a = a = 1, b = 2 WHERE b", stmt.Stmt{Kind: stmt.Update, Name: "t", Sets: []stmt.Set{{Name: "a", E: eq(a, num(1))}, {Name: "b", E: num(2)}}, Where: []expr.Expr{b}}},
		{"CREATE VIEW v AS SELECT * FROM t", stmt.Stmt{Kind: stmt.View, Name: "v", Query: stmt.Query{Cores: all}}},
		{"DROP VIEW v", stmt.Stmt{Kind: stmt.DropView, Name: "v"}},
		{"READ v", stmt.Stmt{Kind: stmt.Read, Name: "v"}},
		{"PROPAGATE 12", stmt.Stmt{Kind: stmt.Propagate, N: 12}},
		{"PROPAGATE 0", stmt.Stmt{Kind: stmt.Propagate}},
		{"SELECT * FROM t", stmt.Stmt{Kind: stmt.Select, Query: stmt.Query{Cores: all}}},
		{"\nSELECT*FROM\nt u", stmt.Stmt{Kind: stmt.Select, Query: stmt.Query{Cores: []stmt.Core{{From: "t", Alias: "u"}}}}},
		{"SELECT * FROM t JOIN u ON a = b", stmt.Stmt{Kind: stmt.Select, Query: stmt.Query{Cores: []stmt.Core{{From: "t", Join: true, Other: "u", On: [2]expr.Expr{a, b}}}}}},
		{"SELECT * FROM t GROUP BY a", stmt.Stmt{Kind: stmt.Select, Query: stmt.Query{Cores: []stmt.Core{{From: "t", Group: []expr.Expr{a}}}}}},
		{"SELECT DISTINCT a, a = 1 AS x FROM t l LEFT JOIN u r ON l.a = b WHERE a GROUP BY a, r.b HAVING b", stmt.Stmt{Kind: stmt.Select, Query: stmt.Query{Cores: []stmt.Core{full}}}},
		{"SELECT * FROM t UNION ALL SELECT DISTINCT a, a = 1 AS x FROM t l LEFT JOIN u r ON l.a = b WHERE a GROUP BY a, r.b HAVING b ORDER BY a, b DESC LIMIT 3", stmt.Stmt{Kind: stmt.Select,
			Query: stmt.Query{Cores: []stmt.Core{all[0], full}, Order: []stmt.Order{{Name: "a", Desc: false}, {Name: "b", Desc: true}}, Limit: []int64{3}}}},
		{"SELECT a FROM t LIMIT 0", stmt.Stmt{Kind: stmt.Select, Query: stmt.Query{Cores: []stmt.Core{{From: "t", Items: []stmt.Item{{E: a}}}}, Limit: []int64{0}}}},
	} {
		got, at, err := sql.Parse(c.s)
		if err != api.OK || at != 0 || !same(got, c.want) {
			t.Errorf("Parse(%q) = %+v, %d, %d", c.s, got, at, err)
		}
	}
}

// P18.1: errors, each at its index. A ! marks it, and is not a part of the statement.
func TestErrors(t *testing.T) {
	for _, c := range []struct {
		s    string
		want api.Errno
	}{
		{"!", api.ErrForm}, {"  !", api.ErrForm}, {"!t", api.ErrForm}, {"!1", api.ErrForm}, {"!'SELECT'", api.ErrForm}, {"!FROM t", api.ErrForm}, {"!*", api.ErrForm},
		{"SELECT a FROM!", api.ErrForm}, {"SELECT !# FROM t", api.ErrForm}, {"SELECT !abcdefghijklmnopq", api.ErrRange}, {"SELECT a FROM !'t", api.ErrForm}, {"!" + many("x", 2001), api.ErrLong},
		{"CREATE!", api.ErrForm}, {"CREATE !t", api.ErrForm}, {"CREATE TABLE!", api.ErrForm}, {"CREATE TABLE !T", api.ErrForm}, {"CREATE TABLE t !a", api.ErrForm}, {"CREATE TABLE t (!)", api.ErrForm},
		{"CREATE TABLE t (a!)", api.ErrForm}, {"CREATE TABLE t (a !FLOAT)", api.ErrForm}, {"CREATE TABLE t (a !b INT)", api.ErrForm}, {"CREATE TABLE t (a INT PRIMARY!)", api.ErrForm}, {"CREATE TABLE t (a INT PRIMARY !INT)", api.ErrForm},
		{"CREATE TABLE t (a INT !KEY)", api.ErrForm}, {"CREATE TABLE t (a INT,!)", api.ErrForm}, {"CREATE TABLE t (a INT !b INT)", api.ErrForm}, {"CREATE TABLE t (a INT!", api.ErrForm}, {"CREATE TABLE t (a INT) !x", api.ErrForm},
		{"CREATE TABLE t (a INT PRIMARY KEY !PRIMARY KEY)", api.ErrForm}, {"CREATE !INDEX t", api.ErrForm},
		{"DROP!", api.ErrForm}, {"DROP !t", api.ErrForm}, {"DROP TABLE!", api.ErrForm}, {"DROP TABLE t!, u", api.ErrForm}, {"DROP VIEW !1", api.ErrForm},
		{"INSERT!", api.ErrForm}, {"INSERT !t", api.ErrForm}, {"INSERT INTO !VALUES", api.ErrForm}, {"INSERT INTO t !(1)", api.ErrForm}, {"INSERT INTO t VALUES!", api.ErrForm}, {"INSERT INTO t VALUES !1", api.ErrForm},
		{"INSERT INTO t VALUES (!)", api.ErrForm}, {"INSERT INTO t VALUES (1!", api.ErrForm}, {"INSERT INTO t VALUES (1 !2)", api.ErrForm}, {"INSERT INTO t VALUES (1,!)", api.ErrForm}, {"INSERT INTO t VALUES (1) !(2)", api.ErrForm}, {"INSERT INTO t VALUES (1), !2", api.ErrForm},
		{"INSERT INTO t VALUES (!1" + many("+1", 20) + ")", api.ErrNest}, {"INSERT INTO t VALUES (" + many("(", 40) + "!(1", api.ErrNest},
		{"DELETE !t", api.ErrForm}, {"DELETE FROM!", api.ErrForm}, {"DELETE FROM t !a = 1", api.ErrForm}, {"DELETE FROM t WHERE!", api.ErrForm}, {"DELETE FROM t WHERE a = 1 != 2", api.ErrForm}, {"DELETE FROM t WHERE a !WHERE b", api.ErrForm},
		{"UPDATE !SET", api.ErrForm}, {"UPDATE t !a = 1", api.ErrForm}, {"UPDATE t SET!", api.ErrForm}, {"UPDATE t SET a!", api.ErrForm}, {"UPDATE t SET a !< 1", api.ErrForm}, {"UPDATE t SET a!.b = 1", api.ErrForm}, {"UPDATE t SET a =!", api.ErrForm}, {"UPDATE t SET a = 1,!", api.ErrForm}, {"UPDATE t SET a = 1 !b = 2", api.ErrForm}, {"UPDATE t SET !1 = a", api.ErrForm},
		{"CREATE VIEW !AS", api.ErrForm}, {"CREATE VIEW v !SELECT", api.ErrForm}, {"CREATE VIEW v AS !READ v", api.ErrForm}, {"CREATE VIEW v AS !(SELECT * FROM t)", api.ErrForm},
		{"READ!", api.ErrForm}, {"READ v !w", api.ErrForm}, {"PROPAGATE!", api.ErrForm}, {"PROPAGATE !a", api.ErrForm}, {"PROPAGATE !- 1", api.ErrForm}, {"PROPAGATE 1 !+ 1", api.ErrForm}, {"PROPAGATE !9223372036854775808", api.ErrRange},
		{"SELECT!", api.ErrForm}, {"SELECT !FROM t", api.ErrForm}, {"SELECT a!", api.ErrForm}, {"SELECT a !b FROM t", api.ErrForm}, {"SELECT a, !FROM t", api.ErrForm}, {"SELECT *!, a FROM t", api.ErrForm}, {"SELECT a, !* FROM t", api.ErrForm}, {"SELECT * !AS a", api.ErrForm},
		{"SELECT a AS!", api.ErrForm}, {"SELECT a AS !1 FROM t", api.ErrForm}, {"SELECT a AS b!.c FROM t", api.ErrForm}, {"SELECT DISTINCT !DISTINCT a FROM t", api.ErrForm}, {"SELECT SUM(!SUM(a)) FROM t", api.ErrForm}, {"SELECT a = b != c FROM t", api.ErrForm},
		{"SELECT * FROM !1", api.ErrForm}, {"SELECT * FROM t!, u", api.ErrForm}, {"SELECT * FROM t u !v", api.ErrForm}, {"SELECT * FROM t !AS u", api.ErrForm}, {"SELECT * FROM t LEFT!", api.ErrForm}, {"SELECT * FROM t LEFT !u", api.ErrForm}, {"SELECT * FROM t JOIN!", api.ErrForm},
		{"SELECT * FROM t JOIN u!", api.ErrForm}, {"SELECT * FROM t JOIN u r !a = b", api.ErrForm}, {"SELECT * FROM t JOIN u ON!", api.ErrForm}, {"SELECT * FROM t JOIN u ON !1 = a", api.ErrForm}, {"SELECT * FROM t JOIN u ON !(a) = b", api.ErrForm}, {"SELECT * FROM t JOIN u ON a!", api.ErrForm},
		{"SELECT * FROM t JOIN u ON a !< b", api.ErrForm}, {"SELECT * FROM t JOIN u ON a = !1", api.ErrForm}, {"SELECT * FROM t JOIN u ON a.!1 = b", api.ErrForm}, {"SELECT * FROM t JOIN u ON a = b !AND c", api.ErrForm}, {"SELECT * FROM t JOIN u ON a = b !JOIN w", api.ErrForm}, {"SELECT * FROM t JOIN u ON a.b!.c = b", api.ErrForm},
		{"SELECT * FROM t WHERE!", api.ErrForm}, {"SELECT * FROM t WHERE !GROUP BY a", api.ErrForm}, {"SELECT * FROM t GROUP !a", api.ErrForm}, {"SELECT * FROM t GROUP BY!", api.ErrForm}, {"SELECT * FROM t GROUP BY !1", api.ErrForm}, {"SELECT * FROM t GROUP BY a !+ 1", api.ErrForm},
		{"SELECT * FROM t !HAVING a", api.ErrForm}, {"SELECT * FROM t GROUP BY a HAVING!", api.ErrForm}, {"SELECT * FROM t GROUP BY a !WHERE b", api.ErrForm}, {"SELECT * FROM t GROUP BY a HAVING !1" + many("+1", 20), api.ErrNest},
		{"SELECT * FROM t UNION!", api.ErrForm}, {"SELECT * FROM t UNION !SELECT", api.ErrForm}, {"SELECT * FROM t UNION ALL!", api.ErrForm}, {"SELECT * FROM t UNION ALL !READ v", api.ErrForm}, {"SELECT * FROM t ORDER BY a !UNION ALL SELECT * FROM t", api.ErrForm},
		{"SELECT * FROM t ORDER!", api.ErrForm}, {"SELECT * FROM t ORDER BY!", api.ErrForm}, {"SELECT * FROM t ORDER BY !1", api.ErrForm}, {"SELECT * FROM t ORDER BY t!.a", api.ErrForm}, {"SELECT * FROM t ORDER BY a DESC !DESC", api.ErrForm}, {"SELECT * FROM t ORDER BY a !ASC", api.ErrForm}, {"SELECT * FROM t ORDER BY a,!", api.ErrForm},
		{"SELECT * FROM t LIMIT!", api.ErrForm}, {"SELECT * FROM t LIMIT !a", api.ErrForm}, {"SELECT * FROM t LIMIT 1 !2", api.ErrForm}, {"SELECT * FROM t LIMIT 1 !ORDER BY a", api.ErrForm}, {"SELECT * FROM t!; ", api.ErrForm},
	} {
		at := strings.Index(c.s, "!")
		s := c.s[:at] + c.s[at+1:]
		got, place, err := sql.Parse(s)
		if err != c.want || place != at || !same(got, stmt.Stmt{}) {
			t.Errorf("Parse(%q) = %+v, %d, %d; want %d, %d", s, got, place, err, at, c.want)
		}
	}
}

// P18.1: lists of MaxItems elements, and of more.
func TestCount(t *testing.T) {
	for _, c := range []struct{ before, element, between, after string }{
		{"CREATE TABLE t (", "a INT", ", ", ")"},
		{"INSERT INTO t VALUES ", "(1)", ", ", ""},
		{"INSERT INTO t VALUES (", "1", ", ", ")"},
		{"UPDATE t SET ", "a = 1", ", ", " WHERE b"},
		{"SELECT ", "a", ", ", " FROM t"},
		{"", "SELECT * FROM t", " UNION ALL ", " LIMIT 1"},
		{"SELECT * FROM t GROUP BY ", "t.a", ", ", ""},
		{"SELECT * FROM t ORDER BY ", "a DESC", ", ", " LIMIT 1"},
	} {
		if _, at, err := sql.Parse(c.before + listed(c.element, 8, c.between) + c.after); err != api.OK || at != 0 {
			t.Error(c, at, err)
		}
		// The ninth element is not looked at, whatever it is, or if there is none.
		begin := c.before + many(c.element+c.between, 8)
		for _, rest := range []string{c.element + c.after, ")", "1 1", "+"} {
			if _, at, err := sql.Parse(begin + rest); err != api.ErrCount || at != len(begin) {
				t.Error(c, rest, at, err)
			}
		}
		if s := strings.TrimSuffix(begin, " "); true {
			if _, at, err := sql.Parse(s); err != api.ErrCount || at != len(s) {
				t.Error(c, "the end", at, err)
			}
		}
	}
	if _, at, err := sql.Parse(listed("SELECT a FROM t", 8, " UNION ALL ") + " UNION SELECT"); err != api.ErrForm || at != 8*15+7*11+7 {
		t.Error("UNION without ALL", at, err)
	}
}

// words of random statements.
type writer struct {
	*rand.Rand
	b strings.Builder
}

func (w *writer) put(words ...string) {
	for _, word := range words {
		w.b.WriteString(word + " ")
	}
}

func (w *writer) maybe() bool { return w.IntN(2) == 0 }

func (w *writer) one(words ...string) { w.put(words[w.IntN(len(words))]) }

func (w *writer) list(element func()) {
	element()
	for w.IntN(3) == 0 {
		w.put(",")
		element()
	}
}

func (w *writer) expr() {
	w.one("1", "'a''b'", "a", "t . b", "NULL", "TRUE", "- 1", "a + b * 2", "NOT a", "a IS NULL", "( a OR b ) AND c", "COUNT ( * )", "SUM ( a ) + 1", "a || 'x' = b")
}

func (w *writer) name() { w.one("a", "b", "t", "u_1") }

func (w *writer) ref() {
	w.name()
	if w.maybe() {
		w.put(".")
		w.name()
	}
}

func (w *writer) where() {
	if w.maybe() {
		w.put("WHERE")
		w.expr()
	}
}

func (w *writer) core() {
	w.put("SELECT")
	w.one("", "DISTINCT")
	if w.IntN(4) == 0 {
		w.put("*")
	} else {
		w.list(func() {
			w.expr()
			w.one("", "AS x", "AS y")
		})
	}
	w.put("FROM")
	w.name()
	w.one("", "l")
	if w.maybe() {
		w.one("", "LEFT")
		w.put("JOIN")
		w.name()
		w.one("", "r")
		w.put("ON")
		w.ref()
		w.put("=")
		w.ref()
	}
	w.where()
	if w.maybe() {
		w.put("GROUP", "BY")
		w.list(w.ref)
		if w.maybe() {
			w.put("HAVING")
			w.expr()
		}
	}
}

func (w *writer) query() {
	w.core()
	for w.IntN(3) == 0 {
		w.put("UNION", "ALL")
		w.core()
	}
	if w.maybe() {
		w.put("ORDER", "BY")
		w.list(func() {
			w.name()
			w.one("", "DESC")
		})
	}
	w.one("", "LIMIT 5", "LIMIT 0")
}

func (w *writer) statement() {
	switch w.IntN(8) {
	case 0:
		w.put("CREATE", "TABLE")
		w.name()
		w.put("(")
		w.list(func() {
			w.name()
			w.one("INT", "BOOL", "TEXT")
			w.one("", "PRIMARY KEY")
		})
		w.put(")")
	case 1:
		w.put("INSERT", "INTO")
		w.name()
		w.put("VALUES")
		w.list(func() {
			w.put("(")
			w.list(w.expr)
			w.put(")")
		})
	case 2:
		w.put("DELETE", "FROM")
		w.name()
		w.where()
	case 3:
		w.put("UPDATE")
		w.name()
		w.put("SET")
		w.list(func() {
			w.name()
			w.put("=")
			w.expr()
		})
		w.where()
	case 4:
		w.put("CREATE", "VIEW")
		w.name()
		w.put("AS")
		w.query()
	case 5:
		w.one("READ", "DROP VIEW", "DROP TABLE")
		w.name()
	default:
		w.query()
	}
}

// P18.2: Parse of Show of what Parse returned yields it again.
func TestShown(t *testing.T) {
	r := rand.New(rand.NewPCG(18, 2))
	for range 3000 {
		w := &writer{Rand: r}
		w.statement()
		s := w.b.String()
		first, at, err := sql.Parse(s)
		if err != api.OK || at != 0 {
			if err == api.ErrCount || err == api.ErrLong {
				continue
			}
			t.Fatalf("Parse(%q): %d, %d", s, at, err)
		}
		again, at, err := sql.Parse(stmt.Show(first))
		if err != api.OK || at != 0 || !same(first, again) {
			t.Fatalf("%q: %q: %d, %d", s, stmt.Show(first), at, err)
		}
		// Cut anywhere, a statement is answered, too, and an error stands at one of its bytes, or at the end.
		n := r.IntN(len(s))
		if _, at, err := sql.Parse(s[:n]); at < 0 || at > n || err == api.OK && at != 0 {
			t.Fatalf("Parse(%q): %d, %d", s[:n], at, err)
		}
	}
}
