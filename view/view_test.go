package view_test

import (
	"fmt"
	"math/rand/v2"
	"slices"
	"strings"
	"testing"

	"regrater/api"
	"regrater/audit"
	"regrater/catalog"
	"regrater/cell"
	"regrater/fold"
	"regrater/node"
	"regrater/pack"
	"regrater/plan"
	"regrater/row"
	"regrater/sql"
	"regrater/table"
	"regrater/value"
	"regrater/view"
)

const seed = 11

var null = value.Value{}

func num(n int64) value.Value     { return value.OfInt(n) }
func text(s string) value.Value   { return value.OfText(s) }
func of(l ...value.Value) row.Row { return l }

// world: tables t (a, b, n) and u (c, m), and views.
type world struct {
	t     *testing.T
	c     *catalog.Catalog
	s     *cell.Store
	views []*view.View
}

func newWorld(t *testing.T) *world {
	w := &world{t: t, c: catalog.New(), s: cell.New()}
	for _, s := range []string{"CREATE TABLE t (a INT PRIMARY KEY, b TEXT, n INT)", "CREATE TABLE u (c INT PRIMARY KEY, m INT)"} {
		x, _, _ := sql.Parse(s)
		w.c.Make(x.Name, x.Columns)
	}
	return w
}

func (w *world) table(name string) table.Table {
	x, ok := w.c.Table(name)
	if !ok {
		w.t.Fatal(name)
	}
	return table.Table{Store: w.s, Seed: seed, Table: x}
}

func (w *world) plan(s string) plan.Plan {
	w.t.Helper()
	x, at, err := sql.Parse(s)
	if err != api.OK {
		w.t.Fatal(s, at, err)
	}
	p, err := plan.Of(x.Query, w.c)
	if err != api.OK {
		w.t.Fatal(s, err)
	}
	return p
}

func (w *world) view(s string) *view.View {
	w.t.Helper()
	v := view.New(w.s, seed, w.plan(s), len(w.views)+1)
	w.views = append(w.views, v)
	return v
}

// tell watchers, each of which must be a node of just one view.
func (w *world) tell(whos []int) {
	w.t.Helper()
	for _, who := range whos {
		n := 0
		for _, v := range w.views {
			if v.Touch(who) {
				n++
			}
		}
		if n != 1 {
			w.t.Error("watcher", who, "of", n)
		}
	}
}

func (w *world) put(name string, r row.Row) {
	w.t.Helper()
	told, err := w.table(name).Put(r)
	if err != api.OK {
		w.t.Fatal(name, r, err)
	}
	w.tell(told)
}

func (w *world) take(name string, key value.Value) {
	w.t.Helper()
	told, _ := w.table(name).Take(key)
	w.tell(told)
}

func show(l []row.Row) string {
	var texts []string
	for _, r := range l {
		texts = append(texts, row.Show(r))
	}
	return strings.Join(texts, " ")
}

// expect the rows of a view.
func (w *world) expect(v *view.View, want string) {
	w.t.Helper()
	got, err := v.Rows()
	if err != api.OK || show(got) != want || v.Stale() {
		w.t.Errorf("Rows: %s, %d; want %s", show(got), err, want)
	}
}

// plain rows of a plan, by the definition of joins.
func (w *world) plain(p plan.Plan) ([]row.Row, api.Errno) {
	var parts []fold.Part
	for _, c := range p.Cores {
		var ones []fold.Part
		for _, l := range w.table(c.Left.Name).Rows() {
			if !c.Join {
				ones = append(ones, fold.One(c, l))
				continue
			}
			found := false
			for _, r := range w.table(c.Right.Name).Rows() {
				if l[c.On[0]] != null && l[c.On[0]] == r[c.On[1]] {
					found = true
					ones = append(ones, fold.One(c, slices.Concat(l, r)))
				}
			}
			if !found && c.Outer {
				ones = append(ones, fold.One(c, slices.Concat(l, make(row.Row, len(c.Right.Columns)))))
			}
		}
		parts = append(parts, fold.Close(c, fold.Merge(ones...)))
	}
	return fold.Finish(p, parts...)
}

type line struct {
	kind, depth int
	arg, reads  string
}

func lines(v *view.View) []line {
	var l []line
	for n, depth := range v.Traced().All() {
		l = append(l, line{n.Kind, depth, n.Arg, strings.Join(n.Reads, " ")})
	}
	return l
}

func key(v value.Value) string { return row.Key(row.Row{v}) }

func result(v *view.View, c node.Call) string {
	for n := range v.Traced().All() {
		if n.Call == c {
			return n.Result
		}
	}
	return "no such node"
}

// P26.1: the example of the chapter: all nodes, with their Args, Reads and Results.
func TestExample(t *testing.T) {
	w := newWorld(t)
	w.put("t", of(num(7), text("x"), null))
	v := w.view("SELECT a FROM t")
	k := key(num(7))
	want := []line{{0, 0, "", ""}, {1, 1, "0", ""}, {2, 2, pack.Pack("0", ""), "t/"}, {3, 3, pack.Pack("0", k), "r/t/" + k}}
	if got := lines(v); !slices.Equal(got, want) {
		t.Errorf("%+v", got)
	}
	part := fold.Pack(fold.One(v.Plan().Cores[0], of(num(7), text("x"), null)))
	for n := range v.Traced().All() {
		if n.Result != part {
			t.Errorf("%+v", n)
		}
	}
	w.expect(v, "(7)")
}

// P26.1: the calls of a join, with buckets, without them, and with rows that are alike in the column.
func TestJoin(t *testing.T) {
	w := newWorld(t)
	w.put("t", of(num(1), text("x"), num(5)))
	w.put("t", of(num(2), text("y"), null))
	w.put("t", of(num(3), text("z"), num(6)))
	w.put("u", of(num(8), num(5)))
	w.put("u", of(num(9), num(5)))
	for _, outer := range []string{"", "LEFT "} {
		v := w.view("SELECT c FROM u UNION ALL SELECT a FROM t " + outer + "JOIN u ON m = n WHERE c <> 9 OR c IS NULL ORDER BY c")
		k := func(n int64) string { return key(num(n)) }
		p := pack.Pack
		want := []line{
			{0, 0, "", ""},
			{1, 1, "0", ""}, {2, 2, p("0", ""), "u/"}, {3, 3, p("0", k(8)), "r/u/" + k(8)}, {3, 3, p("0", k(9)), "r/u/" + k(9)},
			{1, 1, "1", ""}, {2, 2, p("1", ""), "t/"},
			{3, 3, p("1", k(1)), "r/t/" + k(1) + " b/u/1/" + k(5)}, {4, 4, p("1", k(1), k(8)), "r/t/" + k(1) + " r/u/" + k(8)}, {4, 4, p("1", k(1), k(9)), "r/t/" + k(1) + " r/u/" + k(9)},
			{3, 3, p("1", k(2)), "r/t/" + k(2)},
			{3, 3, p("1", k(3)), "r/t/" + k(3) + " b/u/1/" + k(6)},
		}
		if got := lines(v); !slices.Equal(got, want) {
			t.Errorf("%+v", got)
		}
		empty := fold.Pack(fold.Part{})
		c := v.Plan().Cores[1]
		if got := result(v, node.Call{Kind: 4, Arg: p("1", k(1), k(9))}); got != empty {
			t.Errorf("%+v", got)
		}
		if got := result(v, node.Call{Kind: 4, Arg: p("1", k(1), k(8))}); got != fold.Pack(fold.One(c, of(num(1), text("x"), num(5), num(8), num(5)))) {
			t.Errorf("%+v", got)
		}
		want3 := empty
		if outer != "" {
			want3 = fold.Pack(fold.One(c, of(num(2), text("y"), null, null, null)))
			w.expect(v, "(1) (2) (3) (8) (9)")
		} else {
			w.expect(v, "(1) (8) (9)")
		}
		if got := result(v, node.Call{Kind: 3, Arg: p("1", k(2))}); got != want3 {
			t.Errorf("%+v", got)
		}
	}
}

// P26.1: a trie of several nodes: the calls of Kind 2.
func TestKeys(t *testing.T) {
	w := newWorld(t)
	for i := range int64(40) {
		w.put("u", of(num(i), num(i%4)))
	}
	v := w.view("SELECT m, COUNT(*) FROM u GROUP BY m")
	var paths []string
	rows := 0
	for n, depth := range v.Traced().All() {
		switch n.Kind {
		case 2:
			l, _ := pack.Split(n.Arg)
			if len(l) != 2 || l[0] != "0" || depth != 2+len(l[1]) || !slices.Equal(n.Reads, []string{"u/" + l[1]}) {
				t.Errorf("%+v, %d", n, depth)
			}
			paths = append(paths, l[1])
		case 3:
			rows++
		}
	}
	if rows != 40 || len(paths) < 14 || !slices.IsSorted(paths) || paths[0] != "" {
		t.Error(rows, paths)
	}
	w.expect(v, "(0, 10) (1, 10) (2, 10) (3, 10)")
	// One changed row: its node, those above it that change, and no others.
	w.take("u", num(7))
	w.put("u", of(num(7), num(2)))
	if !v.Stale() {
		t.Error("not stale")
	}
	runs, made, dropped := v.Traced().Counts()
	n, ok := v.Propagate(1000)
	runs2, made2, dropped2 := v.Traced().Counts()
	if !ok || n > 9 || made2 != made || dropped2 != dropped || runs2-runs != n {
		t.Error(n, ok, runs2-runs, made2-made, dropped2-dropped)
	}
	w.expect(v, "(0, 10) (1, 10) (2, 11) (3, 9)")
}

// P26.1: what a view does when it is stale, and when it is stopped.
func TestStale(t *testing.T) {
	w := newWorld(t)
	w.put("u", of(num(1), num(2)))
	v := w.view("SELECT c FROM u")
	if v.Stale() {
		t.Error("stale at once")
	}
	w.put("t", of(num(1), null, null)) // of another table
	w.expect(v, "(1)")
	w.put("u", of(num(3), num(2)))
	if rows, err := v.Rows(); !v.Stale() || err != api.ErrStale || len(rows) != 0 {
		t.Error(rows, err)
	}
	if n, ok := v.Propagate(0); n != 0 || ok {
		t.Error(n, ok)
	}
	if n, ok := v.Propagate(1); n != 1 || ok || !v.Stale() {
		t.Error(n, ok)
	}
	if n, ok := v.Propagate(100); n != 2 || !ok {
		t.Error(n, ok)
	}
	w.expect(v, "(1) (3)")
	v.Stop()
	if rows, err := v.Rows(); err != api.ErrStale || len(rows) != 0 || w.s.Watches() != 0 || v.Traced().Live() != 0 || v.Stale() {
		t.Error(rows, err)
	}
	if n, ok := v.Propagate(5); n != 0 || !ok || v.Touch(1<<20) {
		t.Error(n, ok)
	}
	w.put("u", of(num(4), num(2)))
	if _, err := v.Rows(); err != api.ErrStale {
		t.Error(err)
	}
}

// P26.1: errors of rows, which come and go.
func TestErrors(t *testing.T) {
	w := newWorld(t)
	v := w.view("SELECT 1 / m AS x FROM u UNION ALL SELECT SUM(m) FROM u ORDER BY x")
	w.expect(v, "(NULL)")
	for _, c := range []struct {
		key, m int64
		rows   string
		err    api.Errno
	}{{1, 1, "(1) (1)", api.OK}, {2, 0, "", api.ErrZero}, {3, 1<<63 - 1, "", api.ErrRange}} {
		w.put("u", of(num(c.key), num(c.m)))
		v.Propagate(100)
		rows, err := v.Rows()
		if err != c.err || show(rows) != c.rows || v.Stale() {
			t.Error(show(rows), err)
		}
	}
	w.take("u", num(2))
	w.take("u", num(1))
	v.Propagate(100)
	w.expect(v, "(0) (9223372036854775807)")
}

// P26.1: a node of a row that is gone comes to nothing, before those above it are run.
func TestGone(t *testing.T) {
	empty := fold.Pack(fold.Part{})
	for _, c := range []struct {
		s, table string
		key      value.Value
		call     node.Call
	}{
		{"SELECT a, c, COUNT(*) FROM t JOIN u ON n = m GROUP BY a, c", "u", num(8), node.Call{Kind: 4, Arg: pack.Pack("0", key(num(1)), key(num(8)))}},
		{"SELECT a, c FROM t JOIN u ON n = m", "t", num(1), node.Call{Kind: 4, Arg: pack.Pack("0", key(num(1)), key(num(8)))}},
		{"SELECT COUNT(*) FROM t", "t", num(1), node.Call{Kind: 3, Arg: pack.Pack("0", key(num(1)))}},
	} {
		w := newWorld(t)
		w.put("t", of(num(1), text("x"), num(5)))
		w.put("u", of(num(8), num(5)))
		v := w.view(c.s)
		if got := result(v, c.call); got == empty || got == "no such node" {
			t.Error(c.s, got)
		}
		w.take(c.table, c.key)
		v.Propagate(1)
		if got := result(v, c.call); got != empty {
			t.Errorf("%s: %q", c.s, got)
		}
	}
}

var queries = []string{
	"SELECT * FROM t", "SELECT DISTINCT b FROM t WHERE n > 2", "SELECT b, COUNT(*), SUM(n), MIN(a) FROM t GROUP BY b HAVING COUNT(*) < 4", "SELECT COUNT(*), MAX(n) FROM t",
	"SELECT l.a, r.a FROM t l JOIN t r ON l.n = r.n", "SELECT a, c FROM t LEFT JOIN u ON n = m ORDER BY c DESC, a LIMIT 9", "SELECT b, COUNT(c), COUNT(*) FROM t LEFT JOIN u ON n = c GROUP BY b",
	"SELECT a AS x FROM t UNION ALL SELECT m FROM u UNION ALL SELECT SUM(n) FROM t JOIN u ON a = c ORDER BY x", "SELECT 10 / n FROM t", "SELECT m, SUM(10 / a) FROM u JOIN t ON m = a GROUP BY m", "SELECT NULL FROM u",
}

// P26.2: after any changes a view is like a new one; its rows are those of its query.
func TestLikeNew(t *testing.T) {
	for i := range uint64(4) {
		r := rand.New(rand.NewPCG(26, i))
		w := newWorld(t)
		for _, s := range queries {
			w.view(s)
		}
		random := func(n int64) value.Value {
			if r.IntN(5) == 0 {
				return null
			}
			return num(r.Int64N(n))
		}
		for range 120 {
			for range r.IntN(4) {
				k := num(r.Int64N(25))
				if r.IntN(5) < 2 {
					w.take([]string{"t", "u"}[r.IntN(2)], k)
				} else if r.IntN(3) > 0 {
					w.take("t", k)
					w.put("t", of(k, []value.Value{null, text("x"), text("y")}[r.IntN(3)], random(6)))
				} else {
					w.take("u", k)
					w.put("u", of(k, random(6)))
				}
			}
			for j, v := range w.views {
				if r.IntN(3) == 0 {
					v.Propagate(r.IntN(6))
				} else if r.IntN(2) == 0 {
					v.Propagate(1 << 40)
				}
				if v.Stale() {
					if _, err := v.Rows(); err != api.ErrStale {
						t.Fatal("a stale view has rows", err)
					}
					continue
				}
				fresh := view.New(w.s, seed, v.Plan(), 500)
				got, err := v.Rows()
				rows, wantErr := w.plain(v.Plan())
				if !audit.Same(v.Traced(), fresh.Traced()) || audit.Twice(v.Traced()) != 0 {
					t.Fatal(queries[j], "not like a new one")
				}
				if err != wantErr || show(got) != show(rows) {
					t.Fatal(queries[j], show(got), err, show(rows), wantErr)
				}
				fresh.Stop()
			}
		}
		for _, v := range w.views {
			v.Stop()
		}
		if w.s.Watches() != 0 {
			t.Error("still watched")
		}
	}
}

// P26.1: the plan, which is neither kept from nor shared with who gave it.
func TestPlan(t *testing.T) {
	w := newWorld(t)
	w.put("t", of(num(1), text("x"), num(5)))
	s := "SELECT b, SUM(n + 1) AS k FROM t LEFT JOIN u ON a = c WHERE n = 5 GROUP BY b HAVING COUNT(*) = 1 ORDER BY k DESC LIMIT 3"
	p := w.plan(s)
	v := view.New(w.s, seed, p, 1)
	w.views = append(w.views, v)
	want := fmt.Sprintf("%+v", w.plan(s))
	spoil := func(p plan.Plan) {
		c := &p.Cores[0]
		c.Left.Columns[0].Name, c.Right.Columns[0].Name, c.Fields[0].Name = "zz", "zz", "zz"
		c.Group[0], c.Where[0].L[0].Name, c.Having[0].L[1].V = 2, "a", num(9)
		c.Items[0].Name, c.Items[1].L[0].L[0].Name, c.Aggs[0].L[0].L[0].Name = "zz", "zz", "zz"
		p.Columns[0].Name, p.Order[0].Place, p.Uses[0] = "zz", 0, "zz"
		c.Left.Name = "zz"
	}
	spoil(p)
	spoil(v.Plan())
	if got := fmt.Sprintf("%+v", v.Plan()); got != want {
		t.Error(got, want)
	}
	w.put("t", of(num(2), text("y"), num(5)))
	v.Propagate(100)
	w.expect(v, "('x', 6) ('y', 6)")
	rows, _ := v.Rows()
	rows[0][0] = num(77)
	w.expect(v, "('x', 6) ('y', 6)")
}

// P26.1: views of several owners, and the watches of each.
func TestOwners(t *testing.T) {
	w := newWorld(t)
	w.put("u", of(num(1), num(2)))
	a, b := w.view("SELECT c FROM u"), w.view("SELECT m FROM u")
	if !audit.Sound(w.s, a.Traced(), b.Traced()) || a.Touch(2<<20) || !b.Touch(2<<20) || a.Stale() || !b.Stale() {
		t.Error("owners")
	}
	if got := w.s.Watched("u/"); !slices.Equal(got, []int{1<<20 + 2, 2<<20 + 2}) {
		t.Error(got)
	}
}

// P26.1: a nil view.
func TestNil(t *testing.T) {
	var v *view.View
	v.Stop()
	if rows, err := v.Rows(); err != api.ErrArg || len(rows) != 0 {
		t.Error(rows, err)
	}
	if n, ok := v.Propagate(5); n != 0 || ok || v.Touch(0) || v.Stale() || v.Traced() != nil {
		t.Error("not nothing")
	}
	if p := v.Plan(); len(p.Cores)+len(p.Columns)+len(p.Order)+len(p.Uses) != 0 || p.Limit != 0 {
		t.Error(p)
	}
}
