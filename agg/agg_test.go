package agg_test

import (
	"math"
	"math/rand/v2"
	"reflect"
	"slices"
	"testing"

	"regrater/agg"
	"regrater/api"
	"regrater/expr"
	"regrater/pack"
	"regrater/row"
	"regrater/value"
	"regrater/wide"
)

var (
	null = value.Value{}
	yes  = value.OfBool(true)
	no   = value.OfBool(false)
)

func num(n int64) value.Value   { return value.OfInt(n) }
func text(s string) value.Value { return value.OfText(s) }

func one(n int64, sum wide.Wide, least, greatest value.Value) agg.One {
	return agg.One{N: n, Sum: sum, Min: least, Max: greatest}
}

// same parts, where a list that is empty may be nil.
func same(a, b agg.Part) bool { return a.Rows == b.Rows && slices.Equal(a.L, b.L) }

// P23.1: the example of the chapter.
func TestExample(t *testing.T) {
	got := agg.Plus(agg.Of(num(1)), agg.Of(null))
	if !same(got, agg.Part{Rows: 2, L: []agg.One{one(1, wide.Of(1), num(1), num(1))}}) {
		t.Error(got)
	}
}

// P23.1: parts of one row, and of none.
func TestOf(t *testing.T) {
	for _, c := range []struct {
		v    value.Value
		want agg.One
	}{
		{null, one(0, wide.Wide{}, null, null)}, {no, one(1, wide.Wide{}, no, no)}, {yes, one(1, wide.Wide{}, yes, yes)}, {text("a"), one(1, wide.Wide{}, text("a"), text("a"))},
		{num(-5), one(1, wide.Of(-5), num(-5), num(-5))}, {num(math.MinInt64), one(1, wide.Of(math.MinInt64), num(math.MinInt64), num(math.MinInt64))},
	} {
		if got := agg.Of(c.v); !same(got, agg.Part{Rows: 1, L: []agg.One{c.want}}) {
			t.Error(c.v, got)
		}
		if got := agg.Of(num(7), c.v); !same(got, agg.Part{Rows: 1, L: []agg.One{one(1, wide.Of(7), num(7), num(7)), c.want}}) {
			t.Error(c.v, got)
		}
	}
	if got := agg.Of(null, num(7)); !same(got, agg.Part{Rows: 1, L: []agg.One{{}, one(1, wide.Of(7), num(7), num(7))}}) {
		t.Error(got)
	}
	if got := agg.Of(); !same(got, agg.Part{Rows: 1}) {
		t.Error(got)
	}
	for n := range 4 {
		if got := agg.None(n); !same(got, agg.Part{L: make([]agg.One, n)}) {
			t.Error(got)
		}
	}
}

// P23.1: parts of many rows, combined in any order, and their final values.
func TestFinal(t *testing.T) {
	for _, c := range []struct {
		l        []value.Value
		finals   [4]value.Value // COUNT, SUM, MIN, MAX
		sumError api.Errno
	}{
		{nil, [4]value.Value{num(0), null, null, null}, api.OK},
		{[]value.Value{null, null}, [4]value.Value{num(0), null, null, null}, api.OK},
		{[]value.Value{num(3), null, num(-1), num(2)}, [4]value.Value{num(3), num(4), num(-1), num(3)}, api.OK},
		{[]value.Value{num(0)}, [4]value.Value{num(1), num(0), num(0), num(0)}, api.OK},
		{[]value.Value{num(math.MaxInt64), num(1)}, [4]value.Value{num(2), null, num(1), num(math.MaxInt64)}, api.ErrRange},
		{[]value.Value{num(math.MinInt64), num(-1)}, [4]value.Value{num(2), null, num(math.MinInt64), num(-1)}, api.ErrRange},
		{[]value.Value{num(math.MaxInt64), num(math.MaxInt64), num(-math.MaxInt64)}, [4]value.Value{num(3), num(math.MaxInt64), num(-math.MaxInt64), num(math.MaxInt64)}, api.OK},
		{[]value.Value{text("b"), text("aa"), null, text("c")}, [4]value.Value{num(3), num(0), text("aa"), text("c")}, api.OK},
		{[]value.Value{yes, no, null}, [4]value.Value{num(2), num(0), no, yes}, api.OK},
	} {
		p := agg.None(2)
		q := agg.None(2)
		for i, v := range c.l {
			p = agg.Plus(p, agg.Of(num(int64(i)), v))
			q = agg.Plus(agg.Of(num(int64(i)), v), q)
		}
		if !same(p, q) {
			t.Error("orders", p, q)
		}
		for op := expr.Count; op <= expr.Max; op++ {
			v, err := p.Final(op, 1)
			want := api.OK
			if op == expr.Sum {
				want = c.sumError
			}
			if v != c.finals[op-1] || err != want {
				t.Error(c.l, op, v, err)
			}
		}
		if v, err := p.Final(expr.Count, -1); v != num(int64(len(c.l))) || err != api.OK {
			t.Error("rows", v, err)
		}
		if v, err := p.Final(expr.Count, 0); v != num(int64(len(c.l))) || err != api.OK {
			t.Error("the first aggregate", v, err)
		}
	}
}

// P23.1: the first aggregate is not the number of rows.
func TestCount(t *testing.T) {
	p := agg.Plus(agg.Of(null, num(1)), agg.Of(num(3), num(2)))
	for i, want := range map[int]int64{-1: 2, 0: 1, 1: 2} {
		if v, err := p.Final(expr.Count, i); v != num(want) || err != api.OK {
			t.Error(i, v, err)
		}
	}
}

func random(r *rand.Rand) value.Value {
	return []value.Value{null, no, yes, num(1), num(-7), num(math.MaxInt64), text(""), text("x")}[r.IntN(8)]
}

func groups(r *rand.Rand, n int) []agg.Group {
	var l []agg.Group
	for range n {
		l = append(l, agg.Group{Row: row.Row{num(int64(r.IntN(4))), random(r)}[:r.IntN(3)], Part: agg.Of(random(r), random(r))})
	}
	return l
}

func sameGroups(a, b []agg.Group) bool {
	return slices.EqualFunc(a, b, func(x, y agg.Group) bool { return slices.Equal(x.Row, y.Row) && same(x.Part, y.Part) })
}

// P23.2: groups that are merged, in any order and in any steps.
func TestMerge(t *testing.T) {
	r := rand.New(rand.NewPCG(23, 2))
	for range 300 {
		l := groups(r, r.IntN(15))
		first := agg.Pack(l)
		var want []agg.Group
		for _, g := range l {
			i := slices.IndexFunc(want, func(x agg.Group) bool { return row.Compare(x.Row, g.Row) == 0 })
			if i < 0 {
				want = append(want, g)
			} else {
				want[i].Part = agg.Plus(want[i].Part, g.Part)
			}
		}
		slices.SortFunc(want, func(a, b agg.Group) int { return row.Compare(a.Row, b.Row) })
		if got := agg.Merge(l); !sameGroups(got, want) {
			t.Fatal(got, want)
		}
		r.Shuffle(len(l), func(i, j int) { l[i], l[j] = l[j], l[i] })
		i := r.IntN(len(l) + 1)
		j := i + r.IntN(len(l)-i+1)
		got := agg.Merge(l[:i], nil, agg.Merge(l[i:j]), l[j:])
		if !sameGroups(got, want) {
			t.Fatal(got, want)
		}
		// What is given is not changed, and not shared.
		for _, g := range got {
			if len(g.Row) > 0 {
				g.Row[0] = text("changed")
			}
			g.Part.L[0].N = 77
		}
		again := agg.Merge(l)
		if !sameGroups(again, want) || len(agg.Pack(l)) != len(first) {
			t.Fatal("given groups were changed")
		}
	}
	if len(agg.Merge()) != 0 || len(agg.Merge(nil, nil)) != 0 {
		t.Error("of none")
	}
}

// Plus shares no memory with what it is given.
func TestApart(t *testing.T) {
	a, b := agg.Of(num(1)), agg.Of(num(2))
	agg.Plus(a, b).L[0].N = 9
	agg.Plus(agg.None(1), b).L[0].N = 9
	agg.Plus(a, agg.None(1)).L[0].N = 9
	if !same(a, agg.Of(num(1))) || !same(b, agg.Of(num(2))) {
		t.Error(a, b)
	}
}

// P23.2: the texts of groups, and back.
func TestPack(t *testing.T) {
	part := agg.Plus(agg.Of(num(3), null), agg.Of(num(-4), text("x")))
	l := []agg.Group{{Row: row.Row{num(1), null}, Part: part}, {Row: nil, Part: agg.Of()}}
	packed := pack.Pack(pack.Int(2),
		pack.Int(2), wide.Of(-1).Key(), row.Key(row.Row{num(-4)}), row.Key(row.Row{num(3)}),
		pack.Int(1), wide.Of(0).Key(), row.Key(row.Row{text("x")}), row.Key(row.Row{text("x")}))
	want := pack.Pack(row.Key(row.Row{num(1), null}), packed, "", pack.Pack(pack.Int(1)))
	if got := agg.Pack(l); got != want {
		t.Errorf("%q; want %q", got, want)
	}
	if agg.Pack(nil) != "" {
		t.Error("of none")
	}
	r := rand.New(rand.NewPCG(23, 3))
	for range 300 {
		l := agg.Merge(groups(r, r.IntN(9)))
		if got, err := agg.Unpack(agg.Pack(l)); err != api.OK || !sameGroups(got, l) {
			t.Fatal(got, l, err)
		}
	}
}

// P23.2: any texts are answered.
func TestUnpack(t *testing.T) {
	key, part := row.Key(row.Row{num(1)}), pack.Pack(pack.Int(1))
	l := []string{"x", "\x00\x00", pack.Pack(key), pack.Pack(key, part, key), pack.Pack("x", part), pack.Pack(key, "x"), pack.Pack(key, ""), pack.Pack(key, pack.Pack("x")),
		pack.Pack(key, pack.Pack(pack.Int(1), pack.Int(1))), pack.Pack(key, pack.Pack(pack.Int(1), "x", wide.Of(1).Key(), key, key)), pack.Pack(key, pack.Pack(pack.Int(1), pack.Int(1), "x", key, key)),
		pack.Pack(key, pack.Pack(pack.Int(1), pack.Int(1), wide.Of(1).Key()+"x", key, key)), pack.Pack(key, pack.Pack(pack.Int(1), pack.Int(1), wide.Of(1).Key(), "", key)), pack.Pack(key, pack.Pack(pack.Int(1), pack.Int(1), wide.Of(1).Key(), key, key+key))}
	for _, s := range l {
		if got, err := agg.Unpack(s); err != api.OK && (err != api.ErrForm && err != api.ErrShort || len(got) != 0) {
			t.Errorf("Unpack(%q): %v, %d", s, got, err)
		}
	}
	r := rand.New(rand.NewPCG(23, 4))
	for range 3000 {
		b := []byte(agg.Pack(groups(r, 3)))
		for range 1 + r.IntN(3) {
			b[r.IntN(len(b))] = byte(r.IntN(256))
		}
		got, err := agg.Unpack(string(b[:r.IntN(len(b)+1)]))
		if err != api.OK && (err != api.ErrForm && err != api.ErrShort || len(got) != 0) {
			t.Fatal(got, err)
		}
	}
}

// The fields that the chapter shows, and no others.
func TestFields(t *testing.T) {
	for _, c := range []struct {
		x any
		n int
	}{{agg.One{}, 4}, {agg.Part{}, 2}, {agg.Group{}, 2}} {
		if got := reflect.TypeOf(c.x).NumField(); got != c.n {
			t.Errorf("%T has %d fields", c.x, got)
		}
	}
}
