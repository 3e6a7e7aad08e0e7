package check_test

import (
	"math"
	"math/rand/v2"
	"slices"
	"testing"

	"regrater/api"
	"regrater/catalog"
	"regrater/check"
	"regrater/expr"
	"regrater/parse"
	"regrater/stmt"
	"regrater/value"
)

func field(table, name string, kind int) check.Field {
	return check.Field{Table: table, Name: name, Kind: kind}
}

// Two tables, which both have a column b.
var fields = []check.Field{
	field("t", "a", value.Int), field("t", "b", value.Text), field("t", "f", value.Bool),
	field("u", "b", value.Int), field("u", "c", value.Bool),
}

func parsed(t *testing.T, s string) expr.Expr {
	t.Helper()
	e, _, err := parse.Expr(s)
	if err != api.OK {
		t.Fatal(s, err)
	}
	return e
}

// P20.1: the fields of a table, by its own name or another one.
func TestFields(t *testing.T) {
	x := catalog.Table{Name: "t", Columns: []stmt.Column{{Name: "a", Kind: 2, Key: true}, {Name: "b", Kind: 3}}}
	if got := check.Fields(x, ""); !slices.Equal(got, []check.Field{field("t", "a", 2), field("t", "b", 3)}) {
		t.Error(got)
	}
	if got := check.Fields(x, "l"); !slices.Equal(got, []check.Field{field("l", "a", 2), field("l", "b", 3)}) {
		t.Error(got)
	}
	if got := check.Fields(catalog.Table{}, "l"); len(got) != 0 {
		t.Error(got)
	}
}

// P20.1: columns that are found, once, never or several times.
func TestFind(t *testing.T) {
	for _, c := range []struct {
		table, name string
		at          int
		want        api.Errno
	}{
		{"", "a", 0, api.OK}, {"t", "a", 0, api.OK}, {"t", "b", 1, api.OK}, {"u", "b", 3, api.OK}, {"", "c", 4, api.OK},
		{"", "b", 0, api.ErrTwice}, {"", "z", 0, api.ErrName}, {"u", "a", 0, api.ErrName}, {"w", "a", 0, api.ErrName}, {"a", "t", 0, api.ErrName},
	} {
		i, err := check.Find(fields, expr.Expr{Kind: expr.Col, Table: c.table, Name: c.name})
		if i != c.at || err != c.want {
			t.Error(c, i, err)
		}
	}
	twice := append(slices.Clone(fields), field("t", "a", 2))
	if i, err := check.Find(twice, expr.Expr{Kind: expr.Col, Table: "t", Name: "a"}); i != 0 || err != api.ErrTwice {
		t.Error(i, err)
	}
	if i, err := check.Find(nil, expr.Expr{Kind: expr.Col, Name: "a"}); i != 0 || err != api.ErrName {
		t.Error(i, err)
	}
}

// P20.2: types, and errors in their order.
func TestType(t *testing.T) {
	const none, b, n, x = value.Null, value.Bool, value.Int, value.Text
	for _, c := range []struct {
		s          string
		aggregates bool
		kind       int
		want       api.Errno
	}{
		{"1", false, n, api.OK}, {"'a'", false, x, api.OK}, {"TRUE", false, b, api.OK}, {"NULL", false, none, api.OK},
		{"a", false, n, api.OK}, {"t.b", false, x, api.OK}, {"u.b", false, n, api.OK}, {"c", false, b, api.OK},
		{"b", false, 0, api.ErrTwice}, {"z", false, 0, api.ErrName}, {"t.c", false, 0, api.ErrName},
		{"a + 1", false, n, api.OK}, {"t.b + 1", false, 0, api.ErrType}, {"1 + t.b", false, 0, api.ErrType}, {"NULL + NULL", false, n, api.OK}, {"NULL + 'a'", false, 0, api.ErrType}, {"1 - 1", false, n, api.OK}, {"1 * 1", false, n, api.OK}, {"1 / 0", false, n, api.OK}, {"1 % 0", false, n, api.OK}, {"1 % TRUE", false, 0, api.ErrType},
		{"'a' || t.b", false, x, api.OK}, {"NULL || NULL", false, x, api.OK}, {"'a' || 1", false, 0, api.ErrType},
		{"a = 1", false, b, api.OK}, {"a = NULL", false, b, api.OK}, {"NULL < NULL", false, b, api.OK}, {"a = 'x'", false, 0, api.ErrType}, {"f >= c", false, b, api.OK}, {"f <> 1", false, 0, api.ErrType}, {"t.b <= 'x'", false, b, api.OK}, {"1 > 2", false, b, api.OK},
		{"f AND c", false, b, api.OK}, {"NULL OR NULL", false, b, api.OK}, {"f OR 1", false, 0, api.ErrType}, {"'a' AND f", false, 0, api.ErrType}, {"FALSE AND a", false, 0, api.ErrType},
		{"NOT f", false, b, api.OK}, {"NOT NULL", false, b, api.OK}, {"NOT a", false, 0, api.ErrType}, {"NOT t.b", false, 0, api.ErrType},
		{"- a", false, n, api.OK}, {"- NULL", false, n, api.OK}, {"- f", false, 0, api.ErrType}, {"- t.b", false, 0, api.ErrType},
		{"a IS NULL", false, b, api.OK}, {"t.b IS NOT NULL", false, b, api.OK}, {"z IS NULL", false, 0, api.ErrName}, {"(1 + f) IS NOT NULL", false, 0, api.ErrType},
		{"COUNT(*)", true, n, api.OK}, {"COUNT(t.b)", true, n, api.OK}, {"COUNT(NULL)", true, n, api.OK}, {"COUNT(z)", true, 0, api.ErrName},
		{"SUM(a)", true, n, api.OK}, {"SUM(NULL)", true, n, api.OK}, {"SUM(t.b)", true, 0, api.ErrType}, {"SUM(f)", true, 0, api.ErrType}, {"SUM(b)", true, 0, api.ErrTwice},
		{"MIN(a)", true, n, api.OK}, {"MIN(f)", true, b, api.OK}, {"MAX(t.b)", true, x, api.OK}, {"MAX(NULL)", true, none, api.OK}, {"MIN(a + t.b)", true, 0, api.ErrType},
		{"SUM(a) + 1", true, n, api.OK}, {"MIN(t.b) + 1", true, 0, api.ErrType}, {"COUNT(*) = 1 AND MAX(f)", true, b, api.OK},
		{"COUNT(*)", false, 0, api.ErrForm}, {"SUM(z)", false, 0, api.ErrForm}, {"1 + SUM(t.b)", false, 0, api.ErrForm}, {"MAX(a) IS NULL", false, 0, api.ErrForm},
		{"z + COUNT(*)", false, 0, api.ErrName}, {"COUNT(*) + z", false, 0, api.ErrForm}, {"'a' + z", false, 0, api.ErrName}, {"(1 + 'a') + z", false, 0, api.ErrType}, {"z + (1 + 'a')", false, 0, api.ErrName}, {"b = z", false, 0, api.ErrTwice},
	} {
		kind, err := check.Type(parsed(t, c.s), fields, c.aggregates)
		if kind != c.kind || err != c.want {
			t.Errorf("Type of %s: %d, %d; want %d, %d", c.s, kind, err, c.kind, c.want)
		}
	}
	if _, err := check.Type(parsed(t, "a"), nil, true); err != api.ErrName {
		t.Error("without fields", err)
	}
}

// P20.3: aggregates in order, and apart from the expression.
func TestAggregates(t *testing.T) {
	e := parsed(t, "SUM(a + 1) * (COUNT(*) - MIN(a)) + a + SUM(a + 1)")
	l := check.Aggregates(e)
	var got []string
	for _, x := range l {
		got = append(got, expr.Show(x))
	}
	if !slices.Equal(got, []string{"SUM((a + 1))", "COUNT(*)", "MIN(a)", "SUM((a + 1))"}) {
		t.Error(got)
	}
	l[0].L[0].L[0].Name = "changed"
	if expr.Show(e) != "(((SUM((a + 1)) * (COUNT(*) - MIN(a))) + a) + SUM((a + 1)))" {
		t.Error(expr.Show(e))
	}
	if expr.Show(l[3]) != "SUM((a + 1))" || len(check.Aggregates(parsed(t, "a + 1"))) != 0 {
		t.Error("others")
	}
}

// P20.3: values of expressions.
func TestEval(t *testing.T) {
	null, yes, no := value.Value{}, value.OfBool(true), value.OfBool(false)
	row := []value.Value{value.OfInt(5), value.OfText("x"), null, value.OfInt(0), no}
	for _, c := range []struct {
		s    string
		v    value.Value
		want api.Errno
	}{
		{"7", value.OfInt(7), api.OK}, {"NULL", null, api.OK}, {"'it''s'", value.OfText("it's"), api.OK},
		{"a", row[0], api.OK}, {"t.b", row[1], api.OK}, {"f", null, api.OK}, {"u.b", row[3], api.OK}, {"c", no, api.OK},
		{"a + 2 * 3", value.OfInt(11), api.OK}, {"a - 7", value.OfInt(-2), api.OK}, {"t.b || 'y'", value.OfText("xy"), api.OK}, {"a / u.b", null, api.ErrZero}, {"a % u.b", null, api.ErrZero},
		{"9223372036854775807 + a", null, api.ErrRange}, {"a = 5", yes, api.OK}, {"a < 5", no, api.OK}, {"f AND FALSE", no, api.OK}, {"f OR TRUE", yes, api.OK}, {"f OR c", null, api.OK},
		{"NOT c", yes, api.OK}, {"NOT f", null, api.OK}, {"- a", value.OfInt(-5), api.OK}, {"- (- 9223372036854775807 - 1)", null, api.ErrRange},
		{"f IS NULL", yes, api.OK}, {"a IS NULL", no, api.OK}, {"f IS NOT NULL", no, api.OK}, {"a IS NOT NULL", yes, api.OK},
		// Every operand is evaluated, whatever the others are.
		{"FALSE AND 1 / 0 = 1", null, api.ErrZero}, {"TRUE OR 1 / 0 = 1", null, api.ErrZero}, {"NULL + 1 / 0", null, api.ErrZero}, {"(1 / 0) IS NULL", null, api.ErrZero},
		{"1 / 0 + (9223372036854775807 + 1)", null, api.ErrZero}, {"(9223372036854775807 + 1) + 1 / 0", null, api.ErrRange}, {"- (1 / 0)", null, api.ErrZero}, {"NOT (1 / 0 = 1)", null, api.ErrZero},
	} {
		v, err := check.Eval(parsed(t, c.s), fields, row)
		if v != c.v || err != c.want {
			t.Errorf("Eval of %s: %v, %d; want %v, %d", c.s, v, err, c.v, c.want)
		}
	}
}

// random expression without aggregates, of some depth.
func random(r *rand.Rand, depth int) expr.Expr {
	if depth == 1 || r.IntN(4) == 0 {
		if r.IntN(2) == 0 {
			f := fields[r.IntN(len(fields))]
			return expr.Expr{Kind: expr.Col, Table: f.Table, Name: f.Name}
		}
		l := []value.Value{{}, value.OfBool(true), value.OfInt(0), value.OfInt(3), value.OfInt(math.MaxInt64), value.OfText("a")}
		return expr.Expr{Kind: expr.Lit, V: l[r.IntN(len(l))]}
	}
	if r.IntN(2) == 0 {
		return expr.Expr{Kind: expr.Not + r.IntN(4), L: []expr.Expr{random(r, depth-1)}}
	}
	return expr.Expr{Kind: expr.Bin, Op: 1 + r.IntN(14), L: []expr.Expr{random(r, depth-1), random(r, depth-1)}}
}

// P20.2, P20.3: a value is NULL or of the expression's kind.
func TestKinds(t *testing.T) {
	r := rand.New(rand.NewPCG(20, 3))
	typed := 0
	for range 20000 {
		e := random(r, 4)
		kind, err := check.Type(e, fields, r.IntN(2) == 0)
		if err != api.OK {
			continue
		}
		typed++
		var row []value.Value
		for _, f := range fields {
			v := []value.Value{{}, value.OfBool(r.IntN(2) == 0), value.OfInt(int64(r.IntN(3))), value.OfText("b")}[f.Kind]
			if r.IntN(4) == 0 {
				v = value.Value{}
			}
			row = append(row, v)
		}
		v, err := check.Eval(e, fields, row)
		if err == api.OK && v.Kind != value.Null && v.Kind != kind || err != api.OK && err != api.ErrZero && err != api.ErrRange {
			t.Fatal(expr.Show(e), row, v, err)
		}
	}
	if typed < 3000 {
		t.Error("too few:", typed)
	}
}
