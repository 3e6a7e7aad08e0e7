package direct_test

import (
	"math/rand/v2"
	"slices"
	"strings"
	"testing"

	"regrater/api"
	"regrater/catalog"
	"regrater/cell"
	"regrater/direct"
	"regrater/plan"
	"regrater/row"
	"regrater/sql"
	"regrater/table"
	"regrater/value"
	"regrater/view"
)

const seed = 4

var null = value.Value{}

func num(n int64) value.Value     { return value.OfInt(n) }
func text(s string) value.Value   { return value.OfText(s) }
func of(l ...value.Value) row.Row { return l }

// world: tables t (a, b, n) and u (m, c).
type world struct {
	t *testing.T
	c *catalog.Catalog
	s *cell.Store
}

func newWorld(t *testing.T) world {
	w := world{t, catalog.New(), cell.New()}
	for _, s := range []string{"CREATE TABLE t (a INT PRIMARY KEY, b TEXT, n INT)", "CREATE TABLE u (m INT, c INT PRIMARY KEY)"} {
		x, _, _ := sql.Parse(s)
		w.c.Make(x.Name, x.Columns)
	}
	return w
}

func (w world) put(name string, rows ...row.Row) {
	w.t.Helper()
	x, _ := w.c.Table(name)
	for _, r := range rows {
		t := table.Table{Store: w.s, Seed: seed, Table: x}
		t.Take(r[t.Key])
		if _, err := t.Put(r); err != api.OK {
			w.t.Fatal(name, r, err)
		}
	}
}

func (w world) plan(s string) plan.Plan {
	w.t.Helper()
	x, at, err := sql.Parse(s)
	if err != api.OK {
		w.t.Fatal(s, at, err)
	}
	p, err := plan.Of(x.Query, w.c)
	if err != api.OK {
		w.t.Fatal(s, err)
	}
	return p
}

func show(l []row.Row) string {
	var texts []string
	for _, r := range l {
		texts = append(texts, row.Show(r))
	}
	return strings.Join(texts, " ")
}

// P27.1: the example of the chapter, and combined rows of each kind of core.
func TestCombined(t *testing.T) {
	w := newWorld(t)
	w.put("t", of(num(3), text("x"), num(5)), of(num(1), text("y"), null), of(num(2), null, num(6)), of(num(4), null, num(7)))
	outer := w.plan("SELECT * FROM t LEFT JOIN u ON n = m").Cores[0]
	if got := show(direct.Combined(w.s, seed, outer)); got != "(1, 'y', NULL, NULL, NULL) (2, NULL, 6, NULL, NULL) (3, 'x', 5, NULL, NULL) (4, NULL, 7, NULL, NULL)" {
		t.Error(got)
	}
	w.put("u", of(num(5), num(9)), of(num(5), num(8)), of(null, num(1)), of(num(7), num(0)))
	for _, c := range [][2]string{
		{"SELECT a FROM t WHERE a = 1", "(1, 'y', NULL) (2, NULL, 6) (3, 'x', 5) (4, NULL, 7)"},
		{"SELECT a FROM t JOIN u ON n = m", "(3, 'x', 5, 5, 8) (3, 'x', 5, 5, 9) (4, NULL, 7, 7, 0)"},
		{"SELECT a FROM t JOIN u ON m = n", "(3, 'x', 5, 5, 8) (3, 'x', 5, 5, 9) (4, NULL, 7, 7, 0)"},
		{"SELECT a FROM u JOIN t ON n = m", "(5, 8, 3, 'x', 5) (5, 9, 3, 'x', 5) (7, 0, 4, NULL, 7)"},
		{"SELECT a FROM t LEFT JOIN u ON n = m", "(1, 'y', NULL, NULL, NULL) (2, NULL, 6, NULL, NULL) (3, 'x', 5, 5, 8) (3, 'x', 5, 5, 9) (4, NULL, 7, 7, 0)"},
		{"SELECT a FROM u LEFT JOIN t ON c = a", "(NULL, 1, 1, 'y', NULL) (5, 8, NULL, NULL, NULL) (5, 9, NULL, NULL, NULL) (7, 0, NULL, NULL, NULL)"},
		{"SELECT l.m FROM u l JOIN u r ON l.m = r.m", "(5, 8, 5, 8) (5, 8, 5, 9) (5, 9, 5, 8) (5, 9, 5, 9) (7, 0, 7, 0)"},
		{"SELECT l.m FROM u l LEFT JOIN u r ON l.m = r.c", "(NULL, 1, NULL, NULL) (5, 8, NULL, NULL) (5, 9, NULL, NULL) (7, 0, NULL, NULL)"},
	} {
		got := direct.Combined(w.s, seed, w.plan(c[0]).Cores[0])
		if show(got) != c[1] {
			t.Errorf("%s: %s", c[0], show(got))
		}
		for _, r := range got { // none shares memory with another one
			r[0] = text("changed")
		}
		if got := direct.Combined(w.s, seed, w.plan(c[0]).Cores[0]); show(got) != c[1] {
			t.Errorf("%s: %s", c[0], show(got))
		}
	}
	if got := direct.Combined(cell.New(), seed, outer); len(got) != 0 {
		t.Error(got)
	}
}

// P27.1: rows of queries, and errors.
func TestRows(t *testing.T) {
	w := newWorld(t)
	for _, c := range []struct {
		s, want string
	}{{"SELECT a FROM t", ""}, {"SELECT COUNT(*) FROM t LEFT JOIN u ON n = m", "(0)"}, {"SELECT a FROM t GROUP BY a", ""}} {
		if got, err := direct.Rows(w.s, seed, w.plan(c.s)); err != api.OK || show(got) != c.want {
			t.Error(c, show(got), err)
		}
	}
	w.put("t", of(num(1), text("x"), num(5)), of(num(2), text("y"), null), of(num(3), text("x"), num(5)))
	w.put("u", of(num(5), num(1)), of(num(5), num(2)))
	for _, c := range []struct {
		s, want string
		err     api.Errno
	}{
		{"SELECT b, a FROM t ORDER BY a DESC", "('x', 3) ('y', 2) ('x', 1)", api.OK},
		{"SELECT a, c FROM t LEFT JOIN u ON n = m WHERE c IS NULL OR c = 1 ORDER BY a", "(1, 1) (2, NULL) (3, 1)", api.OK},
		{"SELECT b, COUNT(*), COUNT(c) FROM t LEFT JOIN u ON n = m GROUP BY b", "('x', 4, 4) ('y', 1, 0)", api.OK},
		{"SELECT DISTINCT n FROM t UNION ALL SELECT m FROM u UNION ALL SELECT 7 FROM t WHERE a = 2 ORDER BY n DESC LIMIT 4", "(7) (5) (5) (5)", api.OK},
		{"SELECT 1 / (a - 1) FROM t", "", api.ErrZero},
		{"SELECT 1 / (a - 1) FROM t UNION ALL SELECT 9223372036854775807 + c FROM u", "", api.ErrRange},
		{"SELECT SUM(9223372036854775807) FROM t", "", api.ErrRange},
	} {
		got, err := direct.Rows(w.s, seed, w.plan(c.s))
		if err != c.err || show(got) != c.want {
			t.Errorf("%s: %s, %d", c.s, show(got), err)
		}
	}
}

var queries = []string{
	"SELECT * FROM t", "SELECT DISTINCT b FROM t WHERE n > 2 LIMIT 1", "SELECT b, COUNT(*), SUM(n) FROM t GROUP BY b HAVING MAX(a) < 9", "SELECT l.a, r.b FROM t l JOIN t r ON l.n = r.n ORDER BY a DESC",
	"SELECT a, c FROM t LEFT JOIN u ON n = m", "SELECT m, MIN(a) FROM u LEFT JOIN t ON c = a GROUP BY m", "SELECT a FROM t UNION ALL SELECT m FROM u JOIN t ON m = n UNION ALL SELECT COUNT(*) FROM u", "SELECT 6 / n FROM t UNION ALL SELECT 6 / m FROM u",
}

// P27.1, P27.2: rows are those of a view; no cell is changed, and none is watched.
func TestLikeViews(t *testing.T) {
	r := rand.New(rand.NewPCG(27, 2))
	for range 40 {
		w := newWorld(t)
		random := func() value.Value {
			return []value.Value{null, num(r.Int64N(5)), num(1 + r.Int64N(9))}[r.IntN(3)]
		}
		for range r.IntN(30) {
			w.put("t", of(num(r.Int64N(20)), []value.Value{null, text("x"), text("y")}[r.IntN(3)], random()))
			w.put("u", of(random(), num(r.Int64N(20))))
		}
		var before, after []string
		for name, text := range w.s.All() {
			before = append(before, name, text)
		}
		for _, s := range queries {
			p := w.plan(s)
			v := view.New(w.s, seed, p, 1)
			want, wantErr := v.Rows()
			v.Stop()
			got, err := direct.Rows(w.s, seed, p)
			if err != wantErr || show(got) != show(want) {
				t.Fatal(s, show(got), err, show(want), wantErr)
			}
			if w.s.Watches() != 0 {
				t.Fatal("watched")
			}
		}
		for name, text := range w.s.All() {
			after = append(after, name, text)
		}
		if !slices.Equal(before, after) {
			t.Fatal("cells were changed")
		}
	}
}
