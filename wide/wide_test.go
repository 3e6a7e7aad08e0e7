package wide_test

import (
	"math"
	"math/big"
	"math/rand/v2"
	"testing"

	"regrater/api"
	"regrater/wide"
)

var modulus = new(big.Int).Lsh(big.NewInt(1), 128)

// number that a wide one stands for.
func number(w wide.Wide) *big.Int {
	n := new(big.Int).Lsh(big.NewInt(w.Hi), 64)
	return n.Add(n, new(big.Int).SetUint64(w.Lo))
}

// fold a number into the range of wide ones.
func fold(n *big.Int) *big.Int {
	n = new(big.Int).Mod(n, modulus)
	if n.BitLen() == 128 {
		n.Sub(n, modulus)
	}
	return n
}

var numbers = []int64{0, 1, -1, 2, 77, -77, math.MaxInt64, math.MinInt64, math.MaxInt64 - 1, math.MinInt64 + 1}

// P21.1: the example of the chapter.
func TestExample(t *testing.T) {
	w := wide.Plus(wide.Of(math.MaxInt64), wide.Of(1))
	if n, ok := w.Int(); ok || n != 0 {
		t.Error(n, ok)
	}
	if n, ok := wide.Plus(w, wide.Of(-1)).Int(); !ok || n != math.MaxInt64 {
		t.Error(n, ok)
	}
}

// P21.1: numbers as wide ones, and back.
func TestOf(t *testing.T) {
	for _, n := range numbers {
		w := wide.Of(n)
		if number(w).Cmp(big.NewInt(n)) != 0 {
			t.Error(n, w)
		}
		if m, ok := w.Int(); m != n || !ok {
			t.Error(n, m, ok)
		}
	}
	for _, w := range []wide.Wide{{Hi: 0, Lo: 1 << 63}, {Hi: -1, Lo: 1<<63 - 1}, {Hi: 1}, {Hi: -1}, {Hi: -2, Lo: math.MaxUint64}, {Hi: math.MaxInt64, Lo: 5}, {Hi: math.MinInt64}} {
		if n, ok := w.Int(); n != 0 || ok {
			t.Error(w, n, ok)
		}
	}
}

// P21.1: sums modulo 2^128, in any order.
func TestPlus(t *testing.T) {
	if wide.Plus() != (wide.Wide{}) {
		t.Error("no arguments")
	}
	r := rand.New(rand.NewPCG(21, 1))
	for range 3000 {
		var l []wide.Wide
		sum := new(big.Int)
		for range r.IntN(5) {
			w := wide.Wide{Hi: int64(r.Uint64()) >> r.IntN(64), Lo: r.Uint64() >> r.IntN(64)}
			switch r.IntN(4) {
			case 0:
				w = wide.Of(numbers[r.IntN(len(numbers))])
			case 1:
				w.Lo = math.MaxUint64
			}
			l = append(l, w)
			sum.Add(sum, number(w))
		}
		got := wide.Plus(l...)
		if number(got).Cmp(fold(sum)) != 0 {
			t.Fatal(l, got)
		}
		r.Shuffle(len(l), func(i, j int) { l[i], l[j] = l[j], l[i] })
		if wide.Plus(l...) != got {
			t.Fatal("another order", l)
		}
	}
	top, bottom := wide.Wide{Hi: math.MaxInt64, Lo: math.MaxUint64}, wide.Wide{Hi: math.MinInt64}
	if wide.Plus(top, wide.Of(1)) != bottom || wide.Plus(bottom, wide.Of(-1)) != top || wide.Plus(top, bottom) != wide.Of(-1) {
		t.Error("wrap-round")
	}
}

// P21.2: keys.
func TestKey(t *testing.T) {
	for _, c := range []struct {
		w    wide.Wide
		want string
	}{
		{wide.Wide{}, "\x00\x00\x00\x00\x00\x00\x00\x00\x00\x00\x00\x00\x00\x00\x00\x00"},
		{wide.Of(-1), "\xff\xff\xff\xff\xff\xff\xff\xff\xff\xff\xff\xff\xff\xff\xff\xff"},
		{wide.Wide{Hi: 0x0102030405060708, Lo: 0xf1f2f3f4f5f6f7f8}, "\x01\x02\x03\x04\x05\x06\x07\x08\xf1\xf2\xf3\xf4\xf5\xf6\xf7\xf8"},
		{wide.Wide{Hi: math.MinInt64, Lo: 5}, "\x80\x00\x00\x00\x00\x00\x00\x00\x00\x00\x00\x00\x00\x00\x00\x05"},
	} {
		if got := c.w.Key(); got != c.want {
			t.Errorf("Key of %v = %q", c.w, got)
		}
		if w, err := wide.Get(c.want); w != c.w || err != api.OK {
			t.Errorf("Get(%q) = %v, %d", c.want, w, err)
		}
	}
	key := wide.Of(7).Key()
	for n := range len(key) {
		if w, err := wide.Get(key[:n]); w != (wide.Wide{}) || err != api.ErrShort {
			t.Error("short", n, w, err)
		}
	}
	for _, more := range []string{"x", key} {
		if w, err := wide.Get(key + more); w != (wide.Wide{}) || err != api.ErrLong {
			t.Error("long", w, err)
		}
	}
}
