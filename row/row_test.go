package row_test

import (
	"math"
	"math/rand/v2"
	"slices"
	"strings"
	"testing"

	"regrater/api"
	"regrater/pack"
	"regrater/row"
	"regrater/value"
)

var null = value.Value{}

func num(n int64) value.Value     { return value.OfInt(n) }
func text(s string) value.Value   { return value.OfText(s) }
func of(l ...value.Value) row.Row { return l }

// rising: rows in order.
var rising = []row.Row{
	of(), of(null), of(null, null), of(null, text("a")), of(value.OfBool(false), num(9)), of(value.OfBool(true)),
	of(num(-3)), of(num(1)), of(num(1), null), of(num(1), num(2)), of(num(1), num(2), null), of(num(1), num(3)), of(num(2)), of(num(10)),
	of(text("")), of(text("a")), of(text("a"), num(5)), of(text("aa")), of(text("b")),
}

// P7.1: the order of rows.
func TestCompare(t *testing.T) {
	for i, a := range rising {
		for j, b := range rising {
			want := 0
			if i < j {
				want = -1
			} else if i > j {
				want = 1
			}
			if got := row.Compare(a, b); got != want {
				t.Errorf("Compare(%v, %v) = %d", a, b, got)
			}
		}
	}
}

// P7.1: Sort keeps every row, changes nothing that it is given, and shares nothing with it.
func TestSort(t *testing.T) {
	r := rand.New(rand.NewPCG(7, 1))
	for range 50 {
		var given, want []row.Row
		for _, x := range rising {
			for range r.IntN(3) {
				given, want = append(given, slices.Clone(x)), append(want, x)
			}
		}
		r.Shuffle(len(given), func(i, j int) { given[i], given[j] = given[j], given[i] })
		first := slices.Clone(given)
		got := row.Sort(given)
		if !slices.EqualFunc(got, want, func(a, b row.Row) bool { return slices.Equal(a, b) }) {
			t.Fatal(got)
		}
		if !slices.EqualFunc(given, first, func(a, b row.Row) bool { return slices.Equal(a, b) }) {
			t.Fatal("given rows were moved")
		}
		for _, x := range got {
			if len(x) > 0 {
				x[0] = num(77)
			}
		}
		for _, x := range given {
			if len(x) > 0 && x[0] == num(77) {
				t.Fatal("given rows are shared")
			}
		}
	}
	if len(row.Sort(nil)) != 0 {
		t.Error("no rows")
	}
}

// P7.1: how rows are shown.
func TestShow(t *testing.T) {
	for _, c := range []struct {
		r    row.Row
		want string
	}{
		{of(num(1), null), "(1, NULL)"},
		{nil, "()"},
		{of(text("it's")), "('it''s')"},
		{of(value.OfBool(true), value.OfBool(false), num(-4)), "(TRUE, FALSE, -4)"},
	} {
		if got := row.Show(c.r); got != c.want {
			t.Error(got, c.want)
		}
	}
}

// P7.2: the bytes of keys, and the rows that they give again.
func TestKey(t *testing.T) {
	for _, c := range []struct {
		r    row.Row
		want string
	}{
		{nil, ""},
		{of(null), "\x00\x00\x00\x01\x00"},
		{of(value.OfBool(false)), "\x00\x00\x00\x02\x01\x00"},
		{of(value.OfBool(true)), "\x00\x00\x00\x02\x01\x01"},
		{of(num(-1), text("")), "\x00\x00\x00\x09\x02\x7f\xff\xff\xff\xff\xff\xff\xff\x00\x00\x00\x01\x03"},
		{of(text("a\x00"), null), "\x00\x00\x00\x03\x03a\x00\x00\x00\x00\x01\x00"},
	} {
		if got := row.Key(c.r); got != c.want {
			t.Errorf("Key of %v = %q", c.r, got)
		}
		if r, err := row.Get(c.want); err != api.OK || !slices.Equal(r, c.r) {
			t.Errorf("Get(%q) = %v, %d", c.want, r, err)
		}
	}
	more := append(slices.Clone(rising), of(num(math.MinInt64), num(math.MaxInt64)), of(text(strings.Repeat("\xff", 64))))
	for _, r := range more {
		if got, err := row.Get(row.Key(r)); err != api.OK || !slices.Equal(got, r) {
			t.Error(r, got, err)
		}
	}
}

// P7.2: texts that are no keys.
func TestNoKey(t *testing.T) {
	good := row.Key(of(num(1)))
	for _, c := range []struct {
		s    string
		want api.Errno
	}{
		{"a", api.ErrShort},
		{good + "\x00", api.ErrShort},
		{good[:5], api.ErrShort},
		{pack.Pack("\x09") + "\x00", api.ErrShort}, // that it is short goes ahead
		{pack.Pack(""), api.ErrForm},
		{good + pack.Pack(""), api.ErrForm},
		{pack.Pack("\x00\x00"), api.ErrForm},
		{pack.Pack("\x01"), api.ErrForm},
		{pack.Pack("\x01\x02"), api.ErrForm},
		{pack.Pack("\x01\x01\x00"), api.ErrForm},
		{pack.Pack("\x02"), api.ErrForm},
		{pack.Pack("\x02" + pack.Int(1)[:7]), api.ErrForm},
		{pack.Pack("\x02" + pack.Int(1) + "\x00"), api.ErrForm},
		{pack.Pack("\x03" + strings.Repeat("x", 65)), api.ErrForm},
		{pack.Pack("\x04"), api.ErrForm},
		{pack.Pack("\xff"), api.ErrForm},
		{good + pack.Pack("\x01\x03"), api.ErrForm},
	} {
		if r, err := row.Get(c.s); err != c.want || len(r) != 0 {
			t.Errorf("Get(%q) = %v, %d; want %d", c.s, r, err, c.want)
		}
	}
	if r, err := row.Get(pack.Pack("\x03" + strings.Repeat("x", 64))); err != api.OK || len(r) != 1 {
		t.Error("text of 64 bytes", err)
	}
}
