package value_test

import (
	"math"
	"math/big"
	"strings"
	"testing"

	"regrater/api"
	"regrater/value"
)

var (
	null = value.Value{}
	no   = value.Value{Kind: value.Bool}
	yes  = value.Value{Kind: value.Bool, N: 1}
)

func num(n int64) value.Value   { return value.Value{Kind: value.Int, N: n} }
func text(s string) value.Value { return value.Value{Kind: value.Text, S: s} }
func long(n int) string         { return strings.Repeat("x", n) }
func truth(b bool) value.Value  { return map[bool]value.Value{false: no, true: yes}[b] }
func kindOf(v value.Value) int  { return v.Kind }
func isNull(l ...value.Value) bool {
	for _, v := range l {
		if v == null {
			return true
		}
	}
	return false
}

// rising: valid values in the total order.
var rising = []value.Value{
	null, no, yes, num(math.MinInt64), num(-2), num(-1), num(0), num(1), num(7), num(math.MaxInt64),
	text(""), text("\x00"), text("B"), text("a"), text("aa"), text("b"), text("z" + long(63)), text("\xff"),
}

var wrong = []value.Value{
	{Kind: 0, N: 1}, {Kind: 0, S: "x"}, {Kind: 1, N: 2}, {Kind: 1, N: -1}, {Kind: 1, N: 1, S: "x"},
	{Kind: 2, N: 1, S: "x"}, {Kind: 3, N: 1, S: "x"}, {Kind: 3, S: long(65)}, {Kind: 4}, {Kind: -1}, {Kind: 1 << 40},
}

// The numbers of kinds and operators.
func TestNumbers(t *testing.T) {
	kinds := [...]int{value.Null, value.Bool, value.Int, value.Text}
	if kinds != [...]int{0, 1, 2, 3} {
		t.Error(kinds)
	}
	ops := [...]int{value.Eq, value.Ne, value.Lt, value.Le, value.Gt, value.Ge, value.Add, value.Sub, value.Mul, value.Div, value.Mod, value.Concat, value.And, value.Or}
	if ops != [...]int{1, 2, 3, 4, 5, 6, 7, 8, 9, 10, 11, 12, 13, 14} {
		t.Error(ops)
	}
}

// P6.1: the makers of values.
func TestOf(t *testing.T) {
	if value.OfBool(false) != no || value.OfBool(true) != yes {
		t.Error("OfBool")
	}
	for _, n := range []int64{0, 5, -5, math.MinInt64, math.MaxInt64} {
		if value.OfInt(n) != num(n) {
			t.Error("OfInt", n)
		}
	}
	for _, s := range []string{"", "a", long(64), long(65), "\xff\x00"} {
		if value.OfText(s) != text(s) {
			t.Error("OfText", s)
		}
	}
}

// P6.1: Good and True.
func TestGood(t *testing.T) {
	for _, v := range append([]value.Value{text(long(64))}, rising...) {
		if !v.Good() || v.True() != (v == yes) {
			t.Error(v)
		}
	}
	for _, v := range wrong {
		if v.Good() {
			t.Error(v)
		}
	}
	if num(1).True() || text("TRUE").True() {
		t.Error("true, though no bool")
	}
}

// P6.1: the total order.
func TestCompare(t *testing.T) {
	for i, a := range rising {
		for j, b := range rising {
			want := 0
			if i < j {
				want = -1
			} else if i > j {
				want = 1
			}
			if got := value.Compare(a, b); got != want {
				t.Errorf("Compare(%v, %v) = %d", a, b, got)
			}
		}
	}
}

// P6.2: what is no operator.
func TestNoOperator(t *testing.T) {
	for _, op := range []int{0, -1, 15, 16, math.MinInt, math.MaxInt} {
		for _, v := range []value.Value{null, yes, num(1), text("a")} {
			if got, err := value.Do(op, v, num(0)); err != api.ErrArg || got != null {
				t.Error(op, v, got, err)
			}
		}
	}
}

// P6.2: kinds that an operator does not take, for all pairs of kinds.
func TestKinds(t *testing.T) {
	samples := []value.Value{null, no, yes, num(3), text("a")}
	takes := func(op, kind int) bool {
		switch {
		case op >= value.Add && op <= value.Mod:
			return kind == value.Int
		case op == value.Concat:
			return kind == value.Text
		}
		return kind == value.Bool
	}
	for op := value.Eq; op <= value.Or; op++ {
		for _, a := range samples {
			for _, b := range samples {
				want := api.OK
				for _, v := range []value.Value{a, b} {
					if op > value.Ge && v != null && !takes(op, kindOf(v)) {
						want = api.ErrType
					}
				}
				if op <= value.Ge && a != null && b != null && kindOf(a) != kindOf(b) {
					want = api.ErrType
				}
				got, err := value.Do(op, a, b)
				if err != want || err != api.OK && got != null {
					t.Errorf("Do(%d, %v, %v) = %v, %d", op, a, b, got, err)
				}
				if err == api.OK && op < value.And && isNull(a, b) && got != null {
					t.Errorf("Do(%d, %v, %v) = %v", op, a, b, got)
				}
			}
		}
	}
	// The kinds go ahead of what the values would tell.
	for _, op := range []int{value.Div, value.Mod} {
		if _, err := value.Do(op, text("a"), num(0)); err != api.ErrType {
			t.Error(op, err)
		}
		if v, err := value.Do(op, null, num(0)); err != api.OK || v != null {
			t.Error("NULL by 0", op, v, err)
		}
	}
}

// P6.2: comparisons of all values of the same kind.
func TestComparisons(t *testing.T) {
	for i, a := range rising {
		for j, b := range rising {
			if a == null || kindOf(a) != kindOf(b) {
				continue
			}
			for op, want := range map[int]bool{
				value.Eq: i == j, value.Ne: i != j, value.Lt: i < j, value.Le: i <= j, value.Gt: i > j, value.Ge: i >= j,
			} {
				if got, err := value.Do(op, a, b); err != api.OK || got != truth(want) {
					t.Errorf("Do(%d, %v, %v) = %v, %d", op, a, b, got, err)
				}
			}
		}
	}
}

// P6.2: AND and OR, with NULL.
func TestLogic(t *testing.T) {
	for _, c := range [][4]value.Value{
		{no, no, no, no}, {no, yes, no, yes}, {yes, no, no, yes}, {yes, yes, yes, yes},
		{null, no, no, null}, {no, null, no, null}, {null, yes, null, yes}, {yes, null, null, yes}, {null, null, null, null},
	} {
		if got, err := value.Do(value.And, c[0], c[1]); err != api.OK || got != c[2] {
			t.Errorf("%v AND %v = %v, %d", c[0], c[1], got, err)
		}
		if got, err := value.Do(value.Or, c[0], c[1]); err != api.OK || got != c[3] {
			t.Errorf("%v OR %v = %v, %d", c[0], c[1], got, err)
		}
	}
}

// P6.2: numbers against those of any size.
func TestArithmetic(t *testing.T) {
	const far = math.MaxInt64
	ns := []int64{0, 1, -1, 2, -2, 3, -3, 7, -7, 1 << 31, -1 << 31, 1 << 32, 3037000499, 3037000500, -3037000500, 1 << 62, -1 << 62, far, far - 1, -far, -far - 1, far / 2, far/2 + 1}
	for _, a := range ns {
		for _, b := range ns {
			x, y := big.NewInt(a), big.NewInt(b)
			for op, do := range map[int]func(x, y *big.Int) *big.Int{
				value.Add: new(big.Int).Add, value.Sub: new(big.Int).Sub, value.Mul: new(big.Int).Mul, value.Div: new(big.Int).Quo, value.Mod: new(big.Int).Rem,
			} {
				got, err := value.Do(op, num(a), num(b))
				if b == 0 && (op == value.Div || op == value.Mod) {
					if err != api.ErrZero || got != null {
						t.Errorf("Do(%d, %d, 0) = %v, %d", op, a, got, err)
					}
				} else if want := do(x, y); !want.IsInt64() {
					if err != api.ErrRange || got != null {
						t.Errorf("Do(%d, %d, %d) = %v, %d", op, a, b, got, err)
					}
				} else if err != api.OK || got != num(want.Int64()) {
					t.Errorf("Do(%d, %d, %d) = %v, %d; want %v", op, a, b, got, err, want)
				}
			}
		}
	}
}

// P6.2: texts, up to the limit and above it.
func TestConcat(t *testing.T) {
	for _, c := range [][2]string{{"", ""}, {"a", "b"}, {"b", "a"}, {long(64), ""}, {"", long(64)}, {long(32), long(32)}, {"'", "\x00"}} {
		if got, err := value.Do(value.Concat, text(c[0]), text(c[1])); err != api.OK || got != text(c[0]+c[1]) {
			t.Error(c, got, err)
		}
	}
	for _, c := range [][2]string{{long(64), "a"}, {"a", long(64)}, {long(64), long(64)}, {long(33), long(32)}} {
		if got, err := value.Do(value.Concat, text(c[0]), text(c[1])); err != api.ErrRange || got != null {
			t.Error(c, got, err)
		}
	}
}

// P6.3: Not and Neg.
func TestNotNeg(t *testing.T) {
	type result struct {
		v   value.Value
		err api.Errno
	}
	for _, c := range []struct {
		v        value.Value
		not, neg result
	}{
		{null, result{}, result{}},
		{no, result{v: yes}, result{err: api.ErrType}},
		{yes, result{v: no}, result{err: api.ErrType}},
		{num(0), result{err: api.ErrType}, result{v: num(0)}},
		{num(5), result{err: api.ErrType}, result{v: num(-5)}},
		{num(-5), result{err: api.ErrType}, result{v: num(5)}},
		{num(math.MaxInt64), result{err: api.ErrType}, result{v: num(-math.MaxInt64)}},
		{num(math.MinInt64), result{err: api.ErrType}, result{err: api.ErrRange}},
		{text("a"), result{err: api.ErrType}, result{err: api.ErrType}},
	} {
		if v, err := value.Not(c.v); (result{v, err}) != c.not {
			t.Error("Not", c.v, v, err)
		}
		if v, err := value.Neg(c.v); (result{v, err}) != c.neg {
			t.Error("Neg", c.v, v, err)
		}
	}
}

// P6.4: how values are shown, also those that are not valid.
func TestShow(t *testing.T) {
	for _, c := range []struct {
		v    value.Value
		want string
	}{
		{null, "NULL"}, {yes, "TRUE"}, {no, "FALSE"}, {num(0), "0"}, {num(-17), "-17"}, {num(4200), "4200"},
		{num(math.MinInt64), "-9223372036854775808"}, {num(math.MaxInt64), "9223372036854775807"},
		{text(""), "''"}, {text("it's"), "'it''s'"}, {text("''"), "''''''"}, {text("a\n\xff"), "'a\n\xff'"},
		{text(strings.Repeat("'", 64)), "'" + strings.Repeat("'", 128) + "'"},
	} {
		if got := c.v.Show(); got != c.want {
			t.Errorf("Show of %v = %s", c.v, got)
		}
	}
	for _, v := range wrong {
		if got := v.Show(); got != "NULL" {
			t.Errorf("Show of %v = %s", v, got)
		}
	}
}
