package plan_test

import (
	"fmt"
	"reflect"
	"slices"
	"strings"
	"testing"

	"regrater/api"
	"regrater/catalog"
	"regrater/check"
	"regrater/expr"
	"regrater/plan"
	"regrater/sql"
	"regrater/stmt"
	"regrater/value"
)

func tables(t *testing.T) *catalog.Catalog {
	t.Helper()
	c := catalog.New()
	for _, s := range []string{"CREATE TABLE t (a INT PRIMARY KEY, b TEXT, f BOOL)", "CREATE TABLE u (c TEXT PRIMARY KEY, b TEXT, n INT)", "CREATE TABLE w (k INT, m INT PRIMARY KEY)"} {
		x, _, _ := sql.Parse(s)
		if err := c.Make(x.Name, x.Columns); err != api.OK {
			t.Fatal(s, err)
		}
	}
	c.View("v", "t")
	return c
}

func query(t *testing.T, s string) stmt.Query {
	t.Helper()
	x, at, err := sql.Parse(s)
	if err != api.OK {
		t.Fatal(s, at, err)
	}
	return x.Query
}

// P24.1: errors, in their order.
func TestErrors(t *testing.T) {
	c := tables(t)
	for _, x := range []struct {
		s    string
		want api.Errno
	}{
		{"SELECT b FROM t GROUP BY a", api.ErrForm},
		{"SELECT * FROM x", api.ErrName}, {"SELECT * FROM v", api.ErrName}, {"SELECT * FROM t JOIN x ON a = a", api.ErrName}, {"SELECT * FROM x JOIN t ON a = a", api.ErrName}, {"SELECT z FROM t JOIN x t ON z = z", api.ErrName},
		{"SELECT * FROM t JOIN t ON a = a", api.ErrTwice}, {"SELECT * FROM t l JOIN u l ON a = c", api.ErrTwice}, {"SELECT * FROM t u JOIN u ON a = c", api.ErrTwice}, {"SELECT * FROM t JOIN u t ON z = c", api.ErrTwice},
		{"SELECT * FROM t JOIN u ON z = c", api.ErrName}, {"SELECT * FROM t JOIN u ON b = z", api.ErrTwice}, {"SELECT * FROM t JOIN u ON c = z", api.ErrName}, {"SELECT * FROM t JOIN u ON t.c = b", api.ErrName}, {"SELECT * FROM t JOIN u ON a = b", api.ErrTwice}, {"SELECT * FROM t l JOIN u ON t.a = c", api.ErrName},
		{"SELECT * FROM t JOIN u ON a = t.b", api.ErrForm}, {"SELECT * FROM t JOIN u ON a = a", api.ErrForm}, {"SELECT * FROM t JOIN u ON c = n", api.ErrForm}, {"SELECT z FROM t JOIN u ON a = c", api.ErrType}, {"SELECT * FROM t JOIN u ON n = t.b", api.ErrType}, {"SELECT z FROM t JOIN u ON f = f WHERE z", api.ErrForm},
		{"SELECT * FROM t WHERE z", api.ErrName}, {"SELECT * FROM t WHERE a", api.ErrType}, {"SELECT * FROM t WHERE b", api.ErrType}, {"SELECT * FROM t WHERE a = b", api.ErrType}, {"SELECT * FROM t WHERE COUNT(*) = 1", api.ErrForm}, {"SELECT z FROM t WHERE a GROUP BY z", api.ErrType}, {"SELECT * FROM t l WHERE t.f", api.ErrName},
		{"SELECT z FROM t GROUP BY z", api.ErrName}, {"SELECT * FROM t GROUP BY z", api.ErrName}, {"SELECT * FROM t JOIN u ON a = n GROUP BY a, b", api.ErrTwice}, {"SELECT z FROM t JOIN u ON a = n GROUP BY y, b", api.ErrName},
		{"SELECT * FROM t GROUP BY a", api.ErrForm}, {"SELECT * FROM w GROUP BY k, m", api.ErrForm}, {"SELECT * FROM t GROUP BY a HAVING z", api.ErrForm},
		{"SELECT z FROM t", api.ErrName}, {"SELECT a + b FROM t", api.ErrType}, {"SELECT a, COUNT(*) FROM t", api.ErrForm}, {"SELECT COUNT(*), a FROM t", api.ErrForm}, {"SELECT SUM(b) FROM t", api.ErrType}, {"SELECT a, z FROM t GROUP BY b", api.ErrForm}, {"SELECT z, a FROM t GROUP BY b", api.ErrName}, {"SELECT a + z FROM t GROUP BY b", api.ErrName},
		{"SELECT b, SUM(a) + a FROM t GROUP BY b", api.ErrForm}, {"SELECT b FROM t JOIN u ON a = n", api.ErrTwice}, {"SELECT t.b FROM t JOIN u ON a = n GROUP BY u.b", api.ErrForm}, {"SELECT NOT (a IS NULL) FROM t GROUP BY b", api.ErrForm},
		{"SELECT b FROM t GROUP BY b HAVING z", api.ErrName}, {"SELECT b FROM t GROUP BY b HAVING SUM(a)", api.ErrType}, {"SELECT b FROM t GROUP BY b HAVING b", api.ErrType}, {"SELECT b FROM t GROUP BY b HAVING a", api.ErrType}, {"SELECT b FROM t GROUP BY b HAVING a = 1", api.ErrForm}, {"SELECT b FROM t GROUP BY b HAVING MIN(b)", api.ErrType}, {"SELECT a FROM t GROUP BY b HAVING z", api.ErrForm},
		{"SELECT a FROM t UNION ALL SELECT z FROM x", api.ErrName}, {"SELECT z FROM t UNION ALL SELECT * FROM x", api.ErrName}, {"SELECT a = b FROM t UNION ALL SELECT * FROM x", api.ErrType},
		{"SELECT a FROM t UNION ALL SELECT a, b FROM t", api.ErrCount}, {"SELECT * FROM t UNION ALL SELECT * FROM w", api.ErrCount}, {"SELECT a FROM t UNION ALL SELECT b FROM t UNION ALL SELECT a, b FROM t", api.ErrCount}, {"SELECT a, b FROM t UNION ALL SELECT a FROM t ORDER BY z", api.ErrCount},
		{"SELECT a FROM t UNION ALL SELECT b FROM t", api.ErrType}, {"SELECT NULL FROM t UNION ALL SELECT a FROM t UNION ALL SELECT b FROM t", api.ErrType}, {"SELECT a FROM t UNION ALL SELECT NULL FROM t UNION ALL SELECT f FROM t", api.ErrType}, {"SELECT a, b FROM t UNION ALL SELECT a, f FROM t ORDER BY z", api.ErrType},
		{"SELECT a FROM t ORDER BY b", api.ErrName}, {"SELECT a AS b FROM t ORDER BY a", api.ErrName}, {"SELECT a, b AS a FROM t ORDER BY a", api.ErrTwice}, {"SELECT * FROM t JOIN u ON a = n ORDER BY b", api.ErrTwice}, {"SELECT a, a FROM t ORDER BY z, a", api.ErrName}, {"SELECT a, a FROM t ORDER BY a, z", api.ErrTwice}, {"SELECT a + 1 FROM t ORDER BY a", api.ErrName},
		{"SELECT a FROM t UNION ALL SELECT b FROM t l LEFT JOIN u ON n = a", api.ErrTwice},
		{"SELECT a FROM t UNION ALL SELECT k AS x FROM w ORDER BY x", api.ErrName},
	} {
		p, err := plan.Of(query(t, x.s), c)
		if err != x.want || !reflect.DeepEqual(p, plan.Plan{}) {
			t.Errorf("%s: %d; want %d", x.s, err, x.want)
		}
	}
	if p, err := plan.Of(query(t, "SELECT * FROM t"), nil); err != api.ErrName || !reflect.DeepEqual(p, plan.Plan{}) {
		t.Error("without a catalog", err)
	}
}

func show(l []expr.Expr) string {
	var texts []string
	for _, e := range l {
		texts = append(texts, expr.Show(e))
	}
	return strings.Join(texts, ", ")
}

func of(t *testing.T, c *catalog.Catalog, s string) plan.Plan {
	t.Helper()
	p, err := plan.Of(query(t, s), c)
	if err != api.OK {
		t.Fatal(s, err)
	}
	return p
}

// P24.2: the cores of plans.
func TestCores(t *testing.T) {
	c := tables(t)
	for _, x := range []struct {
		s, want string
	}{
		{"SELECT * FROM t", "t- false false false [0 0] t.a t.b t.f where() false [] aggs() items(t.a, t.b, t.f) having()"},
		{"SELECT DISTINCT a, 1 + a AS x FROM t l WHERE f", "t- true false false [0 0] l.a l.b l.f where(f) false [] aggs() items(a, (1 + a)) having()"},
		{"SELECT * FROM t JOIN u ON a = n", "t-u false true false [0 2] t.a t.b t.f u.c u.b u.n where() false [] aggs() items(t.a, t.b, t.f, u.c, u.b, u.n) having()"},
		{"SELECT r.b FROM t JOIN u r ON c = t.b", "t-u false true false [1 0] t.a t.b t.f r.c r.b r.n where() false [] aggs() items(r.b) having()"},
		{"SELECT x.a FROM t x LEFT JOIN t y ON y.a = x.a WHERE NULL", "t-t false true true [0 0] x.a x.b x.f y.a y.b y.f where(NULL) false [] aggs() items(x.a) having()"},
		{"SELECT k FROM u LEFT JOIN w ON m = n", "u-w false true true [2 1] u.c u.b u.n w.k w.m where() false [] aggs() items(k) having()"},
		{"SELECT COUNT(*), 1 FROM t", "t- false false false [0 0] t.a t.b t.f where() true [] aggs(COUNT(*)) items(COUNT(*), 1) having()"},
		{"SELECT b FROM t GROUP BY t.b, b", "t- false false false [0 0] t.a t.b t.f where() true [1 1] aggs() items(b) having()"},
		{"SELECT b, SUM(a) + COUNT(*), SUM(a) FROM t GROUP BY f, b HAVING MIN(f) AND t.b = 'x' OR COUNT(*) = 1", "t- false false false [0 0] t.a t.b t.f where() true [2 1] aggs(SUM(a), COUNT(*), SUM(a), MIN(f), COUNT(*)) items(b, (SUM(a) + COUNT(*)), SUM(a)) having(((MIN(f) AND (t.b = 'x')) OR (COUNT(*) = 1)))"},
		{"SELECT u.b, MAX(a + n) FROM t JOIN u ON a = n GROUP BY u.b HAVING NULL", "t-u false true false [0 2] t.a t.b t.f u.c u.b u.n where() true [4] aggs(MAX((a + n))) items(u.b, MAX((a + n))) having(NULL)"},
	} {
		p := of(t, c, x.s)
		if len(p.Cores) != 1 {
			t.Fatal(p)
		}
		k := p.Cores[0]
		var fields []string
		for _, f := range k.Fields {
			fields = append(fields, f.Table+"."+f.Name)
		}
		got := fmt.Sprintf("%s-%s %v %v %v %v %s where(%s) %v %v aggs(%s) items(%s) having(%s)", k.Left.Name, k.Right.Name, k.Distinct, k.Join, k.Outer, k.On,
			strings.Join(fields, " "), show(k.Where), k.Grouped, k.Group, show(k.Aggs), show(k.Items), show(k.Having))
		if got != x.want {
			t.Errorf("%s:\n%s\n%s", x.s, got, x.want)
		}
	}
	// Tables and fields as they are.
	k := of(t, c, "SELECT * FROM t LEFT JOIN w z ON k = a").Cores[0]
	left, _ := c.Table("t")
	right, _ := c.Table("w")
	if !reflect.DeepEqual(k.Left, left) || !reflect.DeepEqual(k.Right, right) || !slices.Equal(k.Fields, append(check.Fields(left, ""), check.Fields(right, "z")...)) {
		t.Error(k)
	}
	k = of(t, c, "SELECT * FROM t").Cores[0]
	if k.Right.Name != "" || len(k.Right.Columns) != 0 || k.Right.Key != 0 {
		t.Error(k.Right)
	}
}

// P24.2: what a plan says of the result.
func TestPlan(t *testing.T) {
	c := tables(t)
	const none, b, n, x = value.Null, value.Bool, value.Int, value.Text
	for _, p := range []struct {
		s       string
		columns []plan.Column
		order   []plan.Order
		limit   int64
		uses    []string
	}{
		{"SELECT * FROM t", []plan.Column{{"a", n}, {"b", x}, {"f", b}}, nil, -1, []string{"t"}},
		{"SELECT t.a, b AS z, a + 1, NULL, COUNT(*) AS k, f AS f FROM t GROUP BY a, b, f", []plan.Column{{"a", n}, {"z", x}, {"", n}, {"", none}, {"k", n}, {"f", b}}, nil, -1, []string{"t"}},
		{"SELECT a, b FROM t ORDER BY b DESC, a, b LIMIT 7", []plan.Column{{"a", n}, {"b", x}}, []plan.Order{{1, true}, {0, false}, {1, false}}, 7, []string{"t"}},
		{"SELECT a FROM t LIMIT 0", []plan.Column{{"a", n}}, nil, 0, []string{"t"}},
		{"SELECT NULL AS p, NULL, a FROM t UNION ALL SELECT NULL, 'x', NULL FROM w JOIN t ON a = m UNION ALL SELECT f, l.b AS q, 5 FROM t l LEFT JOIN u ON n = a WHERE NULL ORDER BY p", []plan.Column{{"p", b}, {"", x}, {"a", n}}, []plan.Order{{0, false}}, -1, []string{"t", "w", "t", "t", "u"}},
		{"SELECT a, a AS q, a FROM t ORDER BY q", []plan.Column{{"a", n}, {"q", n}, {"a", n}}, []plan.Order{{1, false}}, -1, []string{"t"}},
	} {
		got := of(t, c, p.s)
		if !slices.Equal(got.Columns, p.columns) || !slices.Equal(got.Order, p.order) || got.Limit != p.limit || !slices.Equal(got.Uses, p.uses) {
			t.Errorf("%s: %v %v %d %v", p.s, got.Columns, got.Order, got.Limit, got.Uses)
		}
	}
}

// A plan shares no memory with the query, and its lists none with each other.
func TestApart(t *testing.T) {
	c := tables(t)
	q := query(t, "SELECT b, SUM(a + 1) FROM t WHERE a = 1 GROUP BY b HAVING SUM(a + 1) = 2")
	p, _ := plan.Of(q, c)
	before := stmt.Query.Show(q)
	change := func(l []expr.Expr) {
		for i := range l {
			for j := range l[i].L {
				for k := range l[i].L[j].L {
					l[i].L[j].L[k].Name = "changed"
				}
				l[i].L[j].Name = "changed"
			}
			l[i].Name = "changed"
		}
	}
	k := p.Cores[0]
	change(k.Aggs)
	if show(k.Items) != "b, SUM((a + 1))" || show(k.Having) != "(SUM((a + 1)) = 2)" {
		t.Error(show(k.Items), show(k.Having))
	}
	change(k.Items)
	change(k.Where)
	change(k.Having)
	k.Left.Columns[0].Name = "changed"
	if q.Show() != before {
		t.Error(q.Show())
	}
	if x, _ := c.Table("t"); x.Columns[0].Name != "a" {
		t.Error("the catalog was changed")
	}
}
