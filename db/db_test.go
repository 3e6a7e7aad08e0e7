package db_test

import (
	"fmt"
	"math/rand/v2"
	"reflect"
	"slices"
	"strconv"
	"strings"
	"testing"

	"regrater/api"
	"regrater/audit"
	"regrater/cell"
	"regrater/db"
	"regrater/row"
	"regrater/sql"
	"regrater/stmt"
	"regrater/table"
	"regrater/trace"
	"regrater/value"
	"regrater/view"
)

func show(l []row.Row) string {
	var texts []string
	for _, r := range l {
		texts = append(texts, row.Show(r))
	}
	return strings.Join(texts, " ")
}

// told: an answer in short.
func told(a db.Answer) string {
	if a.Err != api.OK {
		return fmt.Sprintf("error %d at %d", a.Err, a.At)
	}
	if len(a.Columns) > 0 {
		var names []string
		for _, c := range a.Columns {
			names = append(names, c.Name+":"+strconv.Itoa(c.Kind))
		}
		return strings.Join(names, " ") + " | " + show(a.Rows)
	}
	return fmt.Sprintf("%d %v", a.N, a.Done)
}

// do statements, each with what it must be answered.
func do(t *testing.T, d *db.DB, l ...[2]string) {
	t.Helper()
	for _, x := range l {
		before := state(d)
		a := d.Exec(x[0])
		if got := told(a); got != x[1] {
			t.Errorf("%s: %s; want %s", x[0], got, x[1])
		}
		if a.Err != api.OK && (state(d) != before || a.N != 0 || a.Done || len(a.Columns)+len(a.Rows) != 0) {
			t.Errorf("%s: an error has changed something: %+v", x[0], a)
		}
	}
}

// state of a db: all that can be seen of it.
func state(d *db.DB) string {
	var b strings.Builder
	tables, views := d.Names()
	fmt.Fprintf(&b, "%q %q %d\n", tables, views, d.Store().Watches())
	for name, text := range d.Store().All() {
		fmt.Fprintf(&b, "%q %q %v\n", name, text, d.Store().Watched(name))
	}
	for _, name := range views {
		v, _ := d.View(name)
		runs, made, dropped := v.Traced().Counts()
		fmt.Fprintln(&b, name, runs, made, dropped, v.Traced().Dirty(), v.Traced().Live())
	}
	return b.String()
}

// P28.1, P28.2: the example of the chapter, and those of the whole.
func TestExamples(t *testing.T) {
	d := db.New(1)
	do(t, d, [2]string{"CREATE TABLE t (a INT PRIMARY KEY)", "0 false"}, [2]string{"CREATE VIEW v AS SELECT a FROM t", "0 false"}, [2]string{"INSERT INTO t VALUES (1)", "1 false"},
		[2]string{"READ v", "error 12 at 0"}, [2]string{"PROPAGATE 99", "3 true"}, [2]string{"READ v", "a:2 | (1)"})
	d = db.New(2)
	do(t, d, [2]string{"CREATE TABLE t (a INT PRIMARY KEY, b TEXT)", "0 false"}, [2]string{"INSERT INTO t VALUES (1, 'x'), (2, 'x')", "2 false"},
		[2]string{"CREATE VIEW v AS SELECT b, COUNT(*) AS k FROM t GROUP BY b", "0 false"}, [2]string{"READ v", "b:3 k:2 | ('x', 2)"},
		[2]string{"INSERT INTO t VALUES (3, 'y')", "1 false"}, [2]string{"READ v", "error 12 at 0"},
		[2]string{"PROPAGATE 0", "0 false"}, [2]string{"PROPAGATE 1000", "3 true"}, [2]string{"PROPAGATE 1000", "0 true"}, [2]string{"READ v", "b:3 k:2 | ('x', 2) ('y', 1)"},
		[2]string{"INSERT INTO t VALUES (4, 'z'), (1, 'q')", "error 7 at 0"}, [2]string{"READ v", "b:3 k:2 | ('x', 2) ('y', 1)"},
		[2]string{"UPDATE t SET a = a + 1 WHERE b = 'x'", "error 7 at 0"}, [2]string{"UPDATE t SET a = a + 10", "3 false"},
		[2]string{"DROP TABLE t", "error 15 at 0"}, [2]string{"DROP VIEW v", "0 false"}, [2]string{"DROP TABLE t", "0 false"})
	if d.Store().Len() != 0 || d.Store().Watches() != 0 {
		t.Error("something is left")
	}
	do(t, d, [2]string{"CREATE TABLE t (a INT PRIMARY KEY, n INT)", "0 false"}, [2]string{"INSERT INTO t VALUES (1, 2), (2, NULL), (3, 9)", "3 false"},
		[2]string{"SELECT l.a, r.n FROM t l LEFT JOIN t r ON l.n = r.a ORDER BY a DESC", "a:2 n:2 | (3, NULL) (2, NULL) (1, NULL)"},
		[2]string{"SELECT 1 / (a - 1) FROM t", "error 9 at 0"}, [2]string{"SELECT SUM(n) + 9223372036854775807 FROM t", "error 8 at 0"}, [2]string{"SELECT COUNT(*) AS k FROM t WHERE a > 9", "k:2 | (0)"},
		[2]string{"SELECT a FROM", "error 4 at 13"}, [2]string{"SELECT # FROM t", "error 4 at 7"}, [2]string{"READ v", "error 6 at 0"})
}

// base: tables t and u with some rows, and a view w of t.
func base(t *testing.T) *db.DB {
	t.Helper()
	d := db.New(3)
	do(t, d, [2]string{"CREATE TABLE t (a INT PRIMARY KEY, b TEXT, n INT, f BOOL)", "0 false"}, [2]string{"CREATE TABLE u (c TEXT PRIMARY KEY)", "0 false"},
		[2]string{"INSERT INTO t VALUES (1, 'x', 5, TRUE), (2, 'y', NULL, FALSE), (3, NULL, 7, NULL)", "3 false"}, [2]string{"CREATE VIEW w AS SELECT a, n FROM t", "0 false"})
	return d
}

// P28.2: errors of each kind of statement, in their order; none changes anything.
func TestErrors(t *testing.T) {
	d := base(t)
	for _, c := range []struct {
		s    string
		want api.Errno
	}{
		// CREATE TABLE, DROP TABLE
		{"CREATE TABLE t (z INT)", api.ErrTwice}, {"CREATE TABLE w (a INT PRIMARY KEY)", api.ErrTwice}, {"CREATE TABLE z (a INT)", api.ErrCount}, {"CREATE TABLE z (a INT PRIMARY KEY, b INT PRIMARY KEY)", api.ErrCount}, {"CREATE TABLE z (a INT PRIMARY KEY, a TEXT)", api.ErrTwice},
		{"DROP TABLE z", api.ErrName}, {"DROP TABLE w", api.ErrName}, {"DROP TABLE t", api.ErrUse},
		// INSERT
		{"INSERT INTO z VALUES (1 + 'x')", api.ErrName}, {"INSERT INTO w VALUES (1)", api.ErrName},
		{"INSERT INTO t VALUES (1 / 0), (1 + 'x')", api.ErrType}, {"INSERT INTO t VALUES (a), (1 + 'x')", api.ErrName}, {"INSERT INTO t VALUES (COUNT(*))", api.ErrForm}, {"INSERT INTO t VALUES (SUM(a))", api.ErrForm}, {"INSERT INTO t VALUES (1 + 'x', a)", api.ErrType}, {"INSERT INTO t VALUES (NOT 1, COUNT(*))", api.ErrType},
		{"INSERT INTO t VALUES (1, 2), (1 / 0)", api.ErrZero}, {"INSERT INTO t VALUES (1), (9223372036854775807 + 1, 1 / 0)", api.ErrRange}, {"INSERT INTO t VALUES (1 / 0, 9223372036854775807 + 1)", api.ErrZero}, {"INSERT INTO t VALUES (4, 'x' || 'yyyyyyyyyyyyyyyyyyyyyyyyyyyyyyyyyyyyyyyyyyyyyyyyyyyyyyyyyyyyyyyy', 1, TRUE)", api.ErrRange},
		{"INSERT INTO t VALUES (4)", api.ErrCount}, {"INSERT INTO t VALUES (4, 'x', 5, TRUE, 1)", api.ErrCount}, {"INSERT INTO t VALUES ('q', 'x', 5, TRUE)", api.ErrType}, {"INSERT INTO t VALUES (4, 'x', 5, 1)", api.ErrType}, {"INSERT INTO t VALUES (NULL, 'x', 5, TRUE)", api.ErrNull}, {"INSERT INTO t VALUES (NULL, 5, 5, TRUE)", api.ErrNull},
		{"INSERT INTO t VALUES (1, 'x', 5, TRUE)", api.ErrTwice}, {"INSERT INTO t VALUES (4, 'x', 5, TRUE), (5, NULL, NULL, NULL), (4, 'y', 5, TRUE)", api.ErrTwice}, {"INSERT INTO t VALUES (2 - 1, 'x', 5, TRUE), (4)", api.ErrTwice}, {"INSERT INTO t VALUES (4), (1, 'x', 5, TRUE)", api.ErrCount}, {"INSERT INTO t VALUES (4, 'x', 5, TRUE), (NULL, 'x', 5, TRUE)", api.ErrNull},
		// DELETE
		{"DELETE FROM z WHERE q", api.ErrName}, {"DELETE FROM w", api.ErrName}, {"DELETE FROM t WHERE z", api.ErrName}, {"DELETE FROM t WHERE a", api.ErrType}, {"DELETE FROM t WHERE b", api.ErrType}, {"DELETE FROM t WHERE a + b = 1", api.ErrType}, {"DELETE FROM t WHERE COUNT(*) = 1", api.ErrForm}, {"DELETE FROM t WHERE u.a = 1", api.ErrName},
		{"DELETE FROM t WHERE 1 / (a - 3) = 1", api.ErrZero}, {"DELETE FROM t WHERE 1 / (a - 3) + (9223372036854775805 + a) = 1", api.ErrZero}, {"DELETE FROM t WHERE 1 / (a - 3) + (9223372036854775806 + a) = 1", api.ErrRange},
		// UPDATE
		{"UPDATE z SET a = q", api.ErrName}, {"UPDATE w SET a = 1", api.ErrName}, {"UPDATE t SET z = 1", api.ErrName}, {"UPDATE t SET n = 1, n = z", api.ErrTwice}, {"UPDATE t SET n = z, z = 1", api.ErrName}, {"UPDATE t SET n = 1 + b, n = 1", api.ErrType}, {"UPDATE t SET n = COUNT(*)", api.ErrForm}, {"UPDATE t SET n = 'x'", api.ErrType}, {"UPDATE t SET n = f, z = 1", api.ErrType}, {"UPDATE t SET b = 1 WHERE z", api.ErrType},
		{"UPDATE t SET n = 1 WHERE z", api.ErrName}, {"UPDATE t SET n = 1 WHERE a", api.ErrType}, {"UPDATE t SET n = 1 WHERE b", api.ErrType}, {"UPDATE t SET n = 1 / 0 WHERE SUM(a) = 1", api.ErrForm}, {"UPDATE t SET n = u.a", api.ErrName},
		{"UPDATE t SET n = 1 WHERE 1 / (a - 2) = 0", api.ErrZero}, {"UPDATE t SET n = 9223372036854775805 + a WHERE a < 3 OR 1 / (a - 3) = 0", api.ErrZero}, {"UPDATE t SET n = 9223372036854775806 + a WHERE a < 3 OR 1 / (a - 3) = 0", api.ErrRange}, {"UPDATE t SET n = 9223372036854775807 + a, a = 1 / 0", api.ErrRange}, {"UPDATE t SET a = 1 / 0, n = 9223372036854775807 + a", api.ErrZero},
		{"UPDATE t SET a = n", api.ErrNull}, {"UPDATE t SET a = NULL WHERE a = 3", api.ErrNull}, {"UPDATE t SET a = 1", api.ErrTwice}, {"UPDATE t SET a = 1 WHERE a = 2", api.ErrTwice}, {"UPDATE t SET a = a + 1 WHERE a < 3", api.ErrTwice}, {"UPDATE t SET a = NULL, n = 1 / (a - 3)", api.ErrZero}, {"UPDATE t SET a = 9 - a * n WHERE a <> 3", api.ErrNull},
		// CREATE VIEW, DROP VIEW
		{"CREATE VIEW v AS SELECT * FROM z", api.ErrName}, {"CREATE VIEW v AS SELECT * FROM w", api.ErrName}, {"CREATE VIEW w AS SELECT q FROM t", api.ErrName}, {"CREATE VIEW w AS SELECT a FROM t", api.ErrTwice}, {"CREATE VIEW t AS SELECT a FROM t", api.ErrTwice}, {"CREATE VIEW v AS SELECT b FROM t GROUP BY a", api.ErrForm},
		{"DROP VIEW z", api.ErrName}, {"DROP VIEW t", api.ErrName},
		// SELECT, READ
		{"SELECT z FROM t", api.ErrName}, {"SELECT a + b FROM t", api.ErrType}, {"SELECT a FROM t UNION ALL SELECT a, b FROM t", api.ErrCount}, {"SELECT 1 / (n - 5) FROM t", api.ErrZero}, {"SELECT * FROM w", api.ErrName}, {"READ z", api.ErrName}, {"READ t", api.ErrName},
	} {
		do(t, d, [2]string{c.s, fmt.Sprintf("error %d at 0", c.want)})
	}
	// Without rows, types matter all the same, and values do not.
	for _, c := range []struct {
		s    string
		want api.Errno
	}{
		{"DELETE FROM u WHERE z", api.ErrName}, {"DELETE FROM u WHERE COUNT(*) = 1", api.ErrForm}, {"DELETE FROM u WHERE c", api.ErrType}, {"DELETE FROM u WHERE c + 1 = 1", api.ErrType}, {"UPDATE u SET c = z", api.ErrName}, {"UPDATE u SET c = MAX(c)", api.ErrForm}, {"UPDATE u SET c = 1", api.ErrType}, {"UPDATE u SET c = 'x' WHERE MIN(c) = 'x'", api.ErrForm}, {"UPDATE u SET c = 'x' WHERE 1 + 1", api.ErrType},
	} {
		do(t, d, [2]string{c.s, fmt.Sprintf("error %d at 0", c.want)})
	}
	do(t, d, [2]string{"DELETE FROM u WHERE 1 / 0 = 1", "0 false"}, [2]string{"UPDATE u SET c = NULL", "0 false"})
	do(t, d, [2]string{"SELECT a FROM t WHERE a = ", "error 4 at 26"}, [2]string{"", "error 4 at 0"}, [2]string{strings.Repeat(" ", 2001), "error 3 at 0"}, [2]string{"CREATE TABLE x (a INT, b INT, c INT, d INT, e INT, f INT, g INT, h INT, i", "error 17 at 72"}, [2]string{"PROPAGATE 9223372036854775808", "error 8 at 10"})
}

// P28.2: what statements do to tables.
func TestRows(t *testing.T) {
	d := base(t)
	for _, c := range []struct {
		s, want, rows string
	}{
		{"UPDATE t SET n = a * 2, b = 'q' WHERE f", "1 false", "(1, 'q', 2, TRUE) (2, 'y', NULL, FALSE) (3, NULL, 7, NULL)"},
		{"UPDATE t SET n = a, a = n WHERE n IS NOT NULL", "error 7 at 0", "(1, 'q', 2, TRUE) (2, 'y', NULL, FALSE) (3, NULL, 7, NULL)"}, // 2 is the key of a row that stays
		{"UPDATE t SET a = a + 1", "3 false", "(2, 'q', 2, TRUE) (3, 'y', NULL, FALSE) (4, NULL, 7, NULL)"},
		{"UPDATE t SET a = 10 - a, n = a", "3 false", "(6, NULL, 4, NULL) (7, 'y', 3, FALSE) (8, 'q', 2, TRUE)"},
		{"UPDATE t SET n = NULL WHERE FALSE", "0 false", "(6, NULL, 4, NULL) (7, 'y', 3, FALSE) (8, 'q', 2, TRUE)"},
		{"UPDATE t SET n = NULL WHERE NULL", "0 false", "(6, NULL, 4, NULL) (7, 'y', 3, FALSE) (8, 'q', 2, TRUE)"},
		{"UPDATE t SET b = NULL, f = NULL, n = NULL WHERE t.a = 7", "1 false", "(6, NULL, 4, NULL) (7, NULL, NULL, NULL) (8, 'q', 2, TRUE)"},
		{"INSERT INTO t VALUES (1 + 1, 'a' || 'b', - 5, NOT FALSE), (1, NULL, NULL, NULL)", "2 false", "(1, NULL, NULL, NULL) (2, 'ab', -5, TRUE) (6, NULL, 4, NULL) (7, NULL, NULL, NULL) (8, 'q', 2, TRUE)"},
		{"DELETE FROM t WHERE n < 0 OR f", "2 false", "(1, NULL, NULL, NULL) (6, NULL, 4, NULL) (7, NULL, NULL, NULL)"},
		{"DELETE FROM t WHERE n > 100", "0 false", "(1, NULL, NULL, NULL) (6, NULL, 4, NULL) (7, NULL, NULL, NULL)"},
		{"DELETE FROM t WHERE NULL", "0 false", "(1, NULL, NULL, NULL) (6, NULL, 4, NULL) (7, NULL, NULL, NULL)"},
		{"DELETE FROM t", "3 false", ""},
		{"UPDATE t SET a = 1", "0 false", ""},
		{"DELETE FROM t", "0 false", ""},
	} {
		do(t, d, [2]string{c.s, c.want})
		if got, ok := d.Rows("t"); !ok || show(got) != c.rows {
			t.Errorf("%s: %s; want %s", c.s, show(got), c.rows)
		}
	}
	// The nodes of the three rows that were there, and the one of the keys and those above.
	do(t, d, [2]string{"PROPAGATE 1000", "6 true"}, [2]string{"READ w", "a:2 n:2 | "})
}

// P28.2: SELECT and READ tell columns and rows.
func TestSelect(t *testing.T) {
	d := base(t)
	do(t, d, [2]string{"SELECT * FROM t WHERE a > 1", "a:2 b:3 n:2 f:1 | (2, 'y', NULL, FALSE) (3, NULL, 7, NULL)"}, [2]string{"SELECT c FROM u", "c:3 | "}, [2]string{"SELECT NULL, a + 1, b AS q FROM t UNION ALL SELECT 1, NULL, c FROM u LIMIT 1", ":2 :2 q:3 | (NULL, 2, 'x')"},
		[2]string{"CREATE VIEW v AS SELECT NULL, a + 1, b AS q FROM t UNION ALL SELECT 1, NULL, c FROM u ORDER BY q LIMIT 1", "0 false"}, [2]string{"READ v", ":2 :2 q:3 | (NULL, 4, NULL)"})
	a := d.Exec("READ v")
	a.Rows[0][0], a.Columns[0].Name = value.OfInt(7), "changed"
	do(t, d, [2]string{"READ v", ":2 :2 q:3 | (NULL, 4, NULL)"})
	// A view that tells an error is not stale.
	do(t, d, [2]string{"CREATE VIEW e AS SELECT 1 / (n - 5) FROM t", "0 false"}, [2]string{"READ e", "error 9 at 0"}, [2]string{"UPDATE t SET n = 6 WHERE n = 5", "1 false"}, [2]string{"READ e", "error 12 at 0"}, [2]string{"PROPAGATE 1000", "10 true"}, [2]string{"READ e", ":2 | (NULL) (0) (1)"})
}

// P28.2: PROPAGATE shares its number among the views, in the order of their names.
func TestPropagate(t *testing.T) {
	d := db.New(0)
	do(t, d, [2]string{"PROPAGATE 0", "0 true"}, [2]string{"PROPAGATE 5", "0 true"}, [2]string{"CREATE TABLE t (a INT PRIMARY KEY)", "0 false"})
	for _, name := range []string{"c", "a", "b"} {
		do(t, d, [2]string{"CREATE VIEW " + name + " AS SELECT a FROM t", "0 false"})
	}
	do(t, d, [2]string{"INSERT INTO t VALUES (1)", "1 false"}, [2]string{"PROPAGATE 0", "0 false"}, [2]string{"PROPAGATE 4", "4 false"}, [2]string{"READ a", "a:2 | (1)"}, [2]string{"READ b", "error 12 at 0"}, [2]string{"READ c", "error 12 at 0"},
		[2]string{"PROPAGATE 2", "2 false"}, [2]string{"READ b", "a:2 | (1)"}, [2]string{"READ c", "error 12 at 0"}, [2]string{"PROPAGATE 9223372036854775807", "3 true"}, [2]string{"READ c", "a:2 | (1)"}, [2]string{"PROPAGATE 9", "0 true"})
}

// P28.2: MaxRows rows of a table.
func TestFull(t *testing.T) {
	d := db.New(0)
	do(t, d, [2]string{"CREATE TABLE t (a INT PRIMARY KEY)", "0 false"})
	for i := range api.MaxRows / 8 {
		var rows []string
		for j := range 8 {
			rows = append(rows, "("+strconv.Itoa(8*i+j)+")")
		}
		if i < api.MaxRows/8-1 {
			if a := d.Exec("INSERT INTO t VALUES " + strings.Join(rows, ", ")); a.N != 8 {
				t.Fatal(a)
			}
		}
	}
	do(t, d, [2]string{"INSERT INTO t VALUES (2001), (2002), (2003), (2004)", "4 false"}, [2]string{"INSERT INTO t VALUES (3001), (3002), (3003), (3004), (3005)", "error 14 at 0"}, [2]string{"INSERT INTO t VALUES (3001), (3002), (3003), (3004), (1)", "error 7 at 0"}, [2]string{"INSERT INTO t VALUES (3001), (3002), (3003), (3004)", "4 false"},
		[2]string{"INSERT INTO t VALUES (4001)", "error 14 at 0"}, [2]string{"UPDATE t SET a = a + 1 WHERE a > 2000", "8 false"}, [2]string{"SELECT COUNT(*) FROM t", ":2 | (1024)"}, [2]string{"DELETE FROM t WHERE a < 1000", "1000 false"}, [2]string{"SELECT COUNT(*) FROM t", ":2 | (24)"})
}

// P28.2: MaxTables tables and views; views that come and go have owners of their own.
func TestOwners(t *testing.T) {
	d := db.New(0)
	for i := range api.MaxTables {
		do(t, d, [2]string{"CREATE TABLE t" + strconv.Itoa(i) + " (a INT PRIMARY KEY)", "0 false"})
	}
	do(t, d, [2]string{"CREATE TABLE z (a INT PRIMARY KEY)", "error 14 at 0"})
	r := rand.New(rand.NewPCG(28, 9))
	var views []string
	for i := range 400 {
		name := "v" + strconv.Itoa(i)
		if len(views) == api.MaxTables {
			do(t, d, [2]string{"CREATE VIEW " + name + " AS SELECT a FROM t0", "error 14 at 0"})
		}
		if len(views) == api.MaxTables || r.IntN(3) == 0 && len(views) > 0 {
			k := r.IntN(len(views))
			do(t, d, [2]string{"DROP VIEW " + views[k], "0 false"})
			views = slices.Delete(views, k, k+1)
		} else {
			do(t, d, [2]string{"CREATE VIEW " + name + " AS SELECT a FROM t0", "0 false"})
			views = append(views, name)
		}
		owners := map[int]bool{}
		for _, who := range d.Store().Watched("t0/") {
			if who>>20 < 1 || who>>20 > 100 || owners[who>>20] {
				t.Fatal("owner", who>>20)
			}
			owners[who>>20] = true
		}
		if len(owners) != len(views) {
			t.Fatal(len(owners), views)
		}
	}
}

// P28.1: what is there, by names.
func TestNames(t *testing.T) {
	d := base(t)
	tables, views := d.Names()
	if !slices.Equal(tables, []string{"t", "u"}) || !slices.Equal(views, []string{"w"}) {
		t.Error(tables, views)
	}
	if l, ok := d.Rows("u"); !ok || len(l) != 0 {
		t.Error(l, ok)
	}
	for _, name := range []string{"w", "z", ""} {
		if l, ok := d.Rows(name); ok || len(l) != 0 {
			t.Error(name, l, ok)
		}
	}
	if v, ok := d.View("w"); !ok || v == nil || v.Plan().Columns[0].Name != "a" {
		t.Error("View", ok)
	}
	for _, name := range []string{"t", "z"} {
		if v, ok := d.View(name); ok || v != nil {
			t.Error(name, v, ok)
		}
	}
	v, _ := d.View("w")
	do(t, d, [2]string{"DROP VIEW w", "0 false"})
	if _, err := v.Rows(); err != api.ErrStale || d.Store().Watches() != 0 || v.Traced().Live() != 0 {
		t.Error("a dropped view", err)
	}
	if _, ok := d.View("w"); ok {
		t.Error("a dropped view")
	}
}

// P28.1: Do takes statements as layer 18 returns them.
func TestDo(t *testing.T) {
	d := base(t)
	x, _, _ := sql.Parse("INSERT INTO u VALUES ('p')")
	if a := d.Do(x); a.Err != api.OK || a.N != 1 {
		t.Error(a)
	}
	if a := d.Do(x); !reflect.DeepEqual(a, db.Answer{Err: api.ErrTwice}) {
		t.Error(a)
	}
	if l, _ := d.Rows("u"); show(l) != "('p')" {
		t.Error(l)
	}
}

// P28.1: a nil db.
func TestNil(t *testing.T) {
	var d *db.DB
	for _, a := range []db.Answer{d.Exec("PROPAGATE 1"), d.Exec("#"), d.Do(stmt.Stmt{Kind: stmt.Propagate}), d.Do(stmt.Stmt{})} {
		if !reflect.DeepEqual(a, db.Answer{Err: api.ErrArg}) {
			t.Error(a)
		}
	}
	tables, views := d.Names()
	l, rows := d.Rows("t")
	v, ok := d.View("v")
	if len(tables)+len(views)+len(l) != 0 || rows || ok || v != nil || d.Store() != nil {
		t.Error("something there")
	}
}

// The seed is that of the tables; dbs are apart.
func TestSeed(t *testing.T) {
	for _, seed := range []uint64{0, 1, 1 << 63} {
		d := db.New(seed)
		do(t, d, [2]string{"CREATE TABLE t (a INT PRIMARY KEY)", "0 false"}, [2]string{"INSERT INTO t VALUES (1), (2), (3), (4), (5)", "5 false"})
		other := cell.New()
		x, _, _ := sql.Parse("CREATE TABLE t (a INT PRIMARY KEY)")
		c := table.Table{Store: other, Seed: seed}
		c.Name, c.Columns = "t", x.Columns
		for i := range int64(5) {
			c.Put(row.Row{value.OfInt(5 - i)})
		}
		var a, b []string
		for name, text := range d.Store().All() {
			a = append(a, name, text)
		}
		for name, text := range other.All() {
			b = append(b, name, text)
		}
		if !slices.Equal(a, b) {
			t.Error(seed, a, b)
		}
	}
}

var statements = []string{
	"INSERT INTO t VALUES (?, 'x', ?), (?, 'y', NULL)", "INSERT INTO t VALUES (?, NULL, ?)", "INSERT INTO u VALUES (?, ?), (?, ?)", "INSERT INTO u VALUES (?, NULL)", "INSERT INTO u VALUES (? / ?, 1)",
	"DELETE FROM t WHERE a = ?", "DELETE FROM t WHERE n = ?", "DELETE FROM u WHERE c > ? + 10", "DELETE FROM u WHERE 1 / (c - ?) = 1", "DELETE FROM t WHERE b IS NULL",
	"UPDATE t SET n = ? WHERE a = ?", "UPDATE t SET b = 'z', n = n + 1 WHERE n < ?", "UPDATE t SET a = a + 1", "UPDATE t SET a = a - ? WHERE a > ?", "UPDATE u SET m = c % 4", "UPDATE u SET c = ? WHERE c = ?", "UPDATE u SET m = 1 / (c - ?)",
	"PROPAGATE 3", "PROPAGATE 10", "PROPAGATE 100000", "PROPAGATE 100000", "CREATE VIEW v9 AS SELECT * FROM u", "DROP VIEW v9", "DROP VIEW v?", "DROP TABLE u", "SELECT COUNT(*) FROM t", "READ v1",
}

var queries = []string{
	"SELECT * FROM t", "SELECT b, COUNT(*) AS k, SUM(n) FROM t GROUP BY b ORDER BY k DESC", "SELECT l.a, r.a FROM t l JOIN t r ON l.n = r.a", "SELECT a, c, m FROM t LEFT JOIN u ON n = m LIMIT 7",
	"SELECT DISTINCT n FROM t UNION ALL SELECT m FROM u", "SELECT 12 / (n - 3) FROM t", "SELECT m, MAX(a), COUNT(b) FROM u LEFT JOIN t ON c = a GROUP BY m HAVING COUNT(*) > 1",
}

// P28.2, P28.3: after any statements, a view that is not stale is like a new one; an error has changed nothing.
func TestLikeNew(t *testing.T) {
	for i := range uint64(4) {
		r := rand.New(rand.NewPCG(28, i))
		d := db.New(i)
		d.Exec("CREATE TABLE t (a INT PRIMARY KEY, b TEXT, n INT)")
		d.Exec("CREATE TABLE u (c INT PRIMARY KEY, m INT)")
		errors := 0
		for range 300 {
			s := statements[r.IntN(len(statements))]
			for strings.Contains(s, "?") {
				s = strings.Replace(s, "?", strconv.Itoa(r.IntN(20)), 1)
			}
			if r.IntN(6) == 0 {
				n := r.IntN(len(queries))
				s = "CREATE VIEW v" + strconv.Itoa(n) + " AS " + queries[n]
			}
			before := state(d)
			if a := d.Exec(s); a.Err != api.OK {
				errors++
				if state(d) != before {
					t.Fatal(s, "has changed something")
				}
			}
			check(t, d, i)
		}
		if errors < 20 {
			t.Error("too few errors:", errors)
		}
	}
}

// check all views of a db.
func check(t *testing.T, d *db.DB, seed uint64) {
	t.Helper()
	_, names := d.Names()
	var traces []*trace.Trace
	for _, name := range names {
		v, _ := d.View(name)
		traces = append(traces, v.Traced())
		if a := d.Exec("READ " + name); v.Stale() != (a.Err == api.ErrStale) {
			t.Fatal(name, a)
		} else if v.Stale() {
			continue
		} else if n := strings.TrimPrefix(name, "v"); n != "9" {
			k, _ := strconv.Atoi(n)
			if now := d.Exec(queries[k]); !reflect.DeepEqual(now, a) {
				t.Fatal(name, a, now)
			}
		}
		fresh := view.New(d.Store(), seed, v.Plan(), 999)
		same := audit.Same(v.Traced(), fresh.Traced())
		fresh.Stop()
		if !same {
			t.Fatal(name, "is not like a new one")
		}
	}
	if !audit.Sound(d.Store(), traces...) {
		t.Fatal("not sound")
	}
}

// The fields that the chapter shows, and no others.
func TestFields(t *testing.T) {
	if n := reflect.TypeOf(db.Answer{}).NumField(); n != 6 {
		t.Error(n)
	}
}
