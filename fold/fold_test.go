package fold_test

import (
	"math/rand/v2"
	"reflect"
	"slices"
	"strings"
	"testing"

	"regrater/agg"
	"regrater/api"
	"regrater/bag"
	"regrater/catalog"
	"regrater/fold"
	"regrater/pack"
	"regrater/plan"
	"regrater/row"
	"regrater/sql"
	"regrater/value"
)

var null = value.Value{}

func num(n int64) value.Value     { return value.OfInt(n) }
func text(s string) value.Value   { return value.OfText(s) }
func of(l ...value.Value) row.Row { return l }

// planned query, over t (a, b, n, f) and u (c, d).
func planned(t *testing.T, s string) plan.Plan {
	t.Helper()
	c := catalog.New()
	for _, s := range []string{"CREATE TABLE t (a INT PRIMARY KEY, b TEXT, n INT, f BOOL)", "CREATE TABLE u (c INT PRIMARY KEY, a0 INT)"} {
		x, _, _ := sql.Parse(s)
		c.Make(x.Name, x.Columns)
	}
	x, at, err := sql.Parse(s)
	if err != api.OK {
		t.Fatal(s, at, err)
	}
	p, err := plan.Of(x.Query, c)
	if err != api.OK {
		t.Fatal(s, err)
	}
	return p
}

func show(l []row.Row) string {
	var texts []string
	for _, r := range l {
		texts = append(texts, row.Show(r))
	}
	return strings.Join(texts, " ")
}

var big = num(1<<63 - 1)

var tRows = []row.Row{
	of(num(1), text("x"), num(5), value.OfBool(true)),
	of(num(2), text("y"), null, value.OfBool(false)),
	of(num(3), text("x"), num(7), null),
	of(num(4), null, num(5), value.OfBool(true)),
	of(num(5), text("y"), num(-1), value.OfBool(false)),
}

// merged part of rows: in some order, and in some steps.
func merged(r *rand.Rand, c plan.Core, rows []row.Row) fold.Part {
	var parts []fold.Part
	for _, i := range r.Perm(len(rows)) {
		parts = append(parts, fold.One(c, rows[i]))
	}
	for len(parts) > 1 && r.IntN(5) > 0 {
		i := r.IntN(len(parts))
		j := i + 1 + r.IntN(len(parts)-i)
		parts = append(append(slices.Clone(parts[:i]), fold.Merge(parts[i:j]...)), parts[j:]...)
	}
	return fold.Merge(parts...)
}

// P25.1 to P25.4: what queries of one core come to.
func TestQueries(t *testing.T) {
	r := rand.New(rand.NewPCG(25, 1))
	for _, c := range []struct {
		s, want string
		err     api.Errno
	}{
		{"SELECT a FROM t", "(1) (2) (3) (4) (5)", api.OK},
		{"SELECT b FROM t", "(NULL) ('x') ('x') ('y') ('y')", api.OK},
		{"SELECT DISTINCT b FROM t", "(NULL) ('x') ('y')", api.OK},
		{"SELECT * FROM t WHERE f", "(1, 'x', 5, TRUE) (4, NULL, 5, TRUE)", api.OK},
		{"SELECT a FROM t WHERE NOT f", "(2) (5)", api.OK},
		{"SELECT a FROM t WHERE NULL", "", api.OK},
		{"SELECT a FROM t WHERE n > 5", "(3)", api.OK},
		{"SELECT n + 1 FROM t WHERE f IS NULL", "(8)", api.OK},
		{"SELECT a FROM t ORDER BY a DESC", "(5) (4) (3) (2) (1)", api.OK},
		{"SELECT n, a FROM t ORDER BY n", "(NULL, 2) (-1, 5) (5, 1) (5, 4) (7, 3)", api.OK},
		{"SELECT n, a FROM t ORDER BY n DESC", "(7, 3) (5, 1) (5, 4) (-1, 5) (NULL, 2)", api.OK},
		{"SELECT b, n, a FROM t ORDER BY b DESC, n", "('y', NULL, 2) ('y', -1, 5) ('x', 5, 1) ('x', 7, 3) (NULL, 5, 4)", api.OK},
		{"SELECT a, b, n FROM t ORDER BY n DESC, b LIMIT 2", "(3, 'x', 7) (4, NULL, 5)", api.OK},
		{"SELECT a FROM t LIMIT 0", "", api.OK},
		{"SELECT a FROM t LIMIT 3", "(1) (2) (3)", api.OK},
		{"SELECT a FROM t LIMIT 9", "(1) (2) (3) (4) (5)", api.OK},
		{"SELECT f, a FROM t ORDER BY f", "(NULL, 3) (FALSE, 2) (FALSE, 5) (TRUE, 1) (TRUE, 4)", api.OK},
		// Groups.
		{"SELECT COUNT(*), COUNT(n), COUNT(b), SUM(n), MIN(n), MAX(n), MIN(b), MAX(f) FROM t", "(5, 4, 4, 16, -1, 7, 'x', TRUE)", api.OK},
		{"SELECT COUNT(*) FROM t WHERE a > 9", "(0)", api.OK},
		{"SELECT SUM(n), MIN(b), COUNT(n), 7 FROM t WHERE a > 9", "(NULL, NULL, 0, 7)", api.OK},
		{"SELECT b, COUNT(*) FROM t WHERE a > 9 GROUP BY b", "", api.OK},
		{"SELECT b, COUNT(*), SUM(n) FROM t GROUP BY b", "(NULL, 1, 5) ('x', 2, 12) ('y', 2, -1)", api.OK},
		{"SELECT COUNT(*) AS k, b FROM t GROUP BY b ORDER BY k DESC, b DESC", "(2, 'y') (2, 'x') (1, NULL)", api.OK},
		{"SELECT COUNT(*) FROM t GROUP BY b", "(1) (2) (2)", api.OK},
		{"SELECT DISTINCT COUNT(*) FROM t GROUP BY b", "(1) (2)", api.OK},
		{"SELECT b FROM t GROUP BY b HAVING COUNT(*) > 1", "('x') ('y')", api.OK},
		{"SELECT b FROM t GROUP BY b HAVING MAX(n) > 5 OR b IS NULL", "(NULL) ('x')", api.OK},
		{"SELECT b FROM t GROUP BY b HAVING MIN(f)", "(NULL) ('x')", api.OK},
		{"SELECT b FROM t GROUP BY b HAVING NULL", "", api.OK},
		{"SELECT n, f, COUNT(*) FROM t GROUP BY f, n", "(NULL, FALSE, 1) (-1, FALSE, 1) (5, TRUE, 2) (7, NULL, 1)", api.OK},
		{"SELECT f, f FROM t GROUP BY f, f", "(NULL, NULL) (FALSE, FALSE) (TRUE, TRUE)", api.OK},
		{"SELECT b || 'z', SUM(n) * 2 + COUNT(*) - SUM(a), COUNT(*) FROM t GROUP BY b", "(NULL, 7, 1) ('xz', 22, 2) ('yz', -7, 2)", api.OK},
		{"SELECT MIN(0 - n), - MAX(n) FROM t", "(-7, -7)", api.OK},
		{"SELECT SUM(n + a) FROM t GROUP BY f HAVING SUM(n + a) < 0 OR COUNT(n) = 2", "(15)", api.OK},
		{"SELECT t.b FROM t GROUP BY b, t.b HAVING t.b = 'x'", "('x')", api.OK},
		// Errors: the least one, wherever it is.
		{"SELECT 1 / (a - 1) FROM t", "", api.ErrZero}, {"SELECT 1 / (a - 9) FROM t", "(0) (0) (0) (0) (0)", api.OK},
		{"SELECT 9223372036854775807 + a FROM t", "", api.ErrRange}, {"SELECT 1 / (a - 1), 9223372036854775807 + a FROM t", "", api.ErrRange}, {"SELECT 9223372036854775807 + a, 1 / (a - 1) FROM t", "", api.ErrRange},
		{"SELECT 1 / (a - 5) + (9223372036854775806 + a) FROM t WHERE a <> 2", "", api.ErrRange}, {"SELECT a FROM t WHERE 1 / (a - 3) = 0", "", api.ErrZero}, {"SELECT 9223372036854775807 + a FROM t WHERE 1 / (a - 3) = 0", "", api.ErrRange},
		{"SELECT 1 / (a - 3) FROM t WHERE a <> 3", "(-1) (0) (0) (1)", api.OK},
		{"SELECT COUNT(1 / (a - 1)) FROM t", "", api.ErrZero}, {"SELECT SUM(1 / (a - 1)), MAX(9223372036854775807 + a) FROM t", "", api.ErrRange}, {"SELECT COUNT(1 / (a - 1)) FROM t WHERE a > 1", "(4)", api.OK},
		{"SELECT SUM(9223372036854775803 + a) FROM t WHERE a < 5", "", api.ErrRange}, {"SELECT SUM(9223372036854775807 - a) - 1 FROM t WHERE a = 1", "(9223372036854775805)", api.OK}, {"SELECT b FROM t GROUP BY b HAVING SUM(9223372036854775807) > 0", "", api.ErrRange},
		{"SELECT b FROM t GROUP BY b HAVING 1 / (COUNT(*) - 1) = 1", "", api.ErrZero}, {"SELECT b, 1 / (COUNT(*) - 1) FROM t GROUP BY b", "", api.ErrZero}, {"SELECT 1 / (COUNT(*) - 1) FROM t GROUP BY b HAVING COUNT(*) > 1", "(1) (1)", api.OK},
		{"SELECT 1 / (COUNT(*) - 1), MAX(n) + 9223372036854775807 FROM t GROUP BY b", "", api.ErrRange}, {"SELECT MAX(n) + 9223372036854775807 FROM t GROUP BY b HAVING 1 / (COUNT(*) - 1) = 1", "", api.ErrRange}, {"SELECT MAX(n) + 9223372036854775807 FROM t GROUP BY b HAVING COUNT(*) = 2 AND 1 / (COUNT(b) - 2) = 1", "", api.ErrZero},
		// The error of WHERE goes ahead of those of the items of the row, and an aggregate's ahead of HAVING.
		{"SELECT 9223372036854775807 + a FROM t WHERE 1 / 0 = 1", "", api.ErrZero}, {"SELECT SUM(n * 9223372036854775807) FROM t WHERE 1 / 0 = 1", "", api.ErrZero},
		{"SELECT SUM(9223372036854775807 / 2 + a) FROM t GROUP BY f HAVING 1 / (COUNT(*) - COUNT(*)) = 1", "", api.ErrRange},
		// Names that are alike.
		{"SELECT a0, SUM(c), COUNT(*) FROM u GROUP BY a0", "(3, 13, 2) (9, 7, 1)", api.OK},
		{"SELECT a0 + SUM(c) FROM u a1 GROUP BY a0 HAVING a0 <> MAX(c)", "(16) (16)", api.OK},
	} {
		p := planned(t, c.s)
		rows := tRows
		if p.Uses[0] == "u" {
			rows = []row.Row{of(num(6), num(3)), of(num(7), num(9)), of(num(7), num(3))}
		}
		for range 5 {
			part := fold.Close(p.Cores[0], merged(r, p.Cores[0], rows))
			if len(part.Groups) != 0 || part.Err != c.err || part.Err != api.OK && part.Bag.Len() != 0 {
				t.Errorf("%s: closed to %v", c.s, part)
			}
			got, err := fold.Finish(p, part)
			if err != c.err || show(got) != c.want {
				t.Errorf("%s: %s, %d; want %s, %d", c.s, show(got), err, c.want, c.err)
			}
		}
	}
}

// P25.1: parts of one row.
func TestOne(t *testing.T) {
	r := tRows[0]
	for _, c := range []struct {
		s    string
		want fold.Part
	}{
		{"SELECT n, a FROM t", fold.Part{Bag: bag.Of(of(num(5), num(1)))}},
		{"SELECT DISTINCT n FROM t", fold.Part{Bag: bag.Of(of(num(5)))}},
		{"SELECT n FROM t WHERE a = 2", fold.Part{}},
		{"SELECT n FROM t WHERE NULL", fold.Part{}},
		{"SELECT n FROM t WHERE 1 / 0 = 1", fold.Part{Err: api.ErrZero}},
		{"SELECT 1 / 0, 9223372036854775807 + 1 FROM t", fold.Part{Err: api.ErrRange}},
		{"SELECT COUNT(*), SUM(n) + SUM(a), 1 / 0 FROM t GROUP BY f, b HAVING MAX(b) = 'x'", fold.Part{Groups: []agg.Group{{Row: of(value.OfBool(true), text("x")), Part: agg.Of(null, num(5), num(1), text("x"))}}}},
		{"SELECT COUNT(*) FROM t", fold.Part{Groups: []agg.Group{{Part: agg.Of(null)}}}},
		{"SELECT b FROM t GROUP BY b", fold.Part{Groups: []agg.Group{{Row: of(text("x")), Part: agg.Of()}}}},
		{"SELECT COUNT(*) FROM t WHERE FALSE", fold.Part{}},
		{"SELECT COUNT(1 / 0), SUM(9223372036854775807 + 1) FROM t", fold.Part{Err: api.ErrRange}},
	} {
		given := slices.Clone(r)
		got := fold.One(planned(t, c.s).Cores[0], given)
		if !fold.Same(got, c.want) || fold.Pack(got) != fold.Pack(c.want) || !slices.Equal(given, r) {
			t.Errorf("%s: %v; want %v", c.s, got, c.want)
		}
	}
}

// P25.2: parts that are merged, compared, packed and unpacked.
func TestParts(t *testing.T) {
	group := func(r row.Row, l ...value.Value) agg.Group { return agg.Group{Row: r, Part: agg.Of(l...)} }
	l := []fold.Part{
		{}, {Err: api.ErrZero}, {Err: api.ErrRange}, {Bag: bag.Of(of(num(1)))}, {Bag: bag.Of(of(num(1)), of(num(1)))}, {Bag: bag.Of(of(num(2)))}, {Bag: bag.Of(of())},
		{Groups: []agg.Group{group(nil, num(1))}}, {Groups: []agg.Group{group(nil, num(2))}}, {Groups: []agg.Group{group(of(num(1)), num(1))}}, {Groups: []agg.Group{group(of(num(1)), num(1)), group(of(num(2)), null)}},
		{Groups: []agg.Group{group(nil)}},
	}
	for i, a := range l {
		for j, b := range l {
			if fold.Same(a, b) != (i == j) || (fold.Pack(a) == fold.Pack(b)) != (i == j) {
				t.Error("Same", a, b)
			}
		}
		back, err := fold.Unpack(fold.Pack(a))
		if err != api.OK || !fold.Same(a, back) {
			t.Error("Unpack", a, back, err)
		}
		if !fold.Same(fold.Merge(a), a) || !fold.Same(fold.Merge(fold.Part{}, a, fold.Part{}), a) {
			t.Error("Merge of one", a)
		}
	}
	if !fold.Same(fold.Merge(), fold.Part{}) {
		t.Error("Merge of none")
	}
	for _, c := range []struct{ l []api.Errno }{{[]api.Errno{0, 9, 8, 0}}, {[]api.Errno{8, 9}}, {[]api.Errno{9, 0, 8}}} {
		var parts []fold.Part
		for _, err := range c.l {
			parts = append(parts, fold.Part{Err: err})
		}
		parts = append(parts, l[4], l[9])
		if got := fold.Merge(parts...); !fold.Same(got, fold.Part{Err: api.ErrRange}) {
			t.Error("the least error of", c, got)
		}
	}
	got := fold.Merge(l[3], l[5], l[3], l[9], l[10])
	want := fold.Part{Bag: bag.Of(of(num(2)), of(num(1)), of(num(1))), Groups: []agg.Group{{Row: of(num(1)), Part: agg.Plus(agg.Of(num(1)), agg.Of(num(1)))}, group(of(num(2)), null)}}
	if !fold.Same(got, want) {
		t.Error(got, want)
	}
}

// P25.2: any texts are answered.
func TestUnpack(t *testing.T) {
	for _, s := range []string{"", "x", pack.Pack("x", "", ""), pack.Pack(pack.Int(0), ""), pack.Pack(pack.Int(0), "x", ""), pack.Pack(pack.Int(0), "", "x"), pack.Pack(pack.Int(0), "", "", "")} {
		fold.Unpack(s)
	}
	r := rand.New(rand.NewPCG(25, 2))
	whole := fold.Pack(fold.Part{Bag: bag.Of(of(num(1), text("x")), of(null)), Groups: []agg.Group{{Row: of(num(1)), Part: agg.Of(num(1), text("a"))}}})
	for range 5000 {
		b := []byte(whole)
		for range r.IntN(4) {
			b[r.IntN(len(b))] = byte(r.IntN(256))
		}
		fold.Unpack(string(b[:r.IntN(len(b)+1)]))
	}
}

// P25.3: Close of an error, and of what is given.
func TestClose(t *testing.T) {
	for _, s := range []string{"SELECT a FROM t", "SELECT COUNT(*) FROM t", "SELECT DISTINCT a FROM t GROUP BY a"} {
		c := planned(t, s).Cores[0]
		if got := fold.Close(c, fold.Part{Err: api.ErrZero}); !fold.Same(got, fold.Part{Err: api.ErrZero}) {
			t.Error(s, got)
		}
		p := fold.Merge(fold.One(c, tRows[0]), fold.One(c, tRows[0]))
		before := fold.Pack(p)
		fold.Close(c, p)
		if fold.Pack(p) != before {
			t.Error(s, "changed what is given")
		}
	}
}

// P25.4: several cores; their errors; rows that are newly made.
func TestFinish(t *testing.T) {
	p := planned(t, "SELECT a AS x FROM t UNION ALL SELECT c FROM u UNION ALL SELECT n FROM t ORDER BY x DESC LIMIT 4")
	a, b, c := fold.Part{Bag: bag.Of(of(num(1)), of(num(5)))}, fold.Part{Bag: bag.Of(of(num(5)), of(null))}, fold.Part{Bag: bag.Of(of(num(3)))}
	got, err := fold.Finish(p, a, b, c)
	if err != api.OK || show(got) != "(5) (5) (3) (1)" {
		t.Error(show(got), err)
	}
	got[0][0] = num(77)
	if got[1][0] != num(5) {
		t.Error("equal rows share memory")
	}
	if got, err := fold.Finish(p, a, b, c); err != api.OK || show(got) != "(5) (5) (3) (1)" {
		t.Error(show(got), err)
	}
	zero, far := fold.Part{Err: api.ErrZero}, fold.Part{Err: api.ErrRange}
	for _, l := range [][]fold.Part{{a, zero, far}, {far, zero, a}, {zero, far, zero}} {
		if got, err := fold.Finish(p, l...); err != api.ErrRange || len(got) != 0 {
			t.Error(got, err)
		}
	}
	p = planned(t, "SELECT a, b FROM t")
	l := fold.Part{Bag: bag.Of(of(num(2), text("b")), of(num(1), text("z")), of(num(2), text("a")))}
	if got, err := fold.Finish(p, l); err != api.OK || show(got) != "(1, 'z') (2, 'a') (2, 'b')" {
		t.Error(show(got), err)
	}
	// Only the columns of the order are reversed.
	p = planned(t, "SELECT a, b FROM t ORDER BY a DESC")
	if got, err := fold.Finish(p, l); err != api.OK || show(got) != "(2, 'a') (2, 'b') (1, 'z')" {
		t.Error(show(got), err)
	}
}

// The fields that the chapter shows, and no others.
func TestFields(t *testing.T) {
	if n := reflect.TypeOf(fold.Part{}).NumField(); n != 3 {
		t.Error(n)
	}
}
