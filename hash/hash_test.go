package hash_test

import (
	"math"
	"testing"

	"regrater/hash"
)

// P5.1: values that were computed apart from the program.
func TestSum(t *testing.T) {
	for _, c := range []struct {
		seed uint64
		s    string
		want uint64
	}{
		{0, "", 0x8570e250fe4c2473},
		{1, "", 0xe739689c6f4bfe1a},
		{0, "a", 0x82b19d9859a61322},
		{math.MaxUint64, "a", 0xe2b55e0f77478019},
		{7, "ab", 0x7b6d82e80fb3f660},
		{7, "ba", 0xc203d711b6364b99},
		{0, "\x00", 0x71d92418536132d1},
		{12345678901234567890, "\xff\x80 text, longer than eight bytes", 0xae70e233e8d8bc80},
	} {
		if got := hash.Sum(c.seed, c.s); got != c.want {
			t.Errorf("Sum(%d, %q) = %x; want %x", c.seed, c.s, got, c.want)
		}
	}
}

// P5.2: the example of the chapter, every level of a number, and levels that are none.
func TestDigit(t *testing.T) {
	if hash.Digit(6, 0) != 2 || hash.Digit(6, 1) != 1 || hash.Digit(6, 2) != 0 {
		t.Error("digits of 6")
	}
	const sum = 0xfedcba9876543210
	rest := uint64(sum)
	for level := range 32 {
		if got := hash.Digit(sum, level); got != int(rest%4) {
			t.Error("level", level, got)
		}
		rest /= 4
	}
	for _, level := range []int{-1, 32, 33, 64, -64, math.MaxInt, math.MinInt, 1 << 62} {
		if got := hash.Digit(math.MaxUint64, level); got != 0 {
			t.Error("level", level, got)
		}
	}
	if hash.Digit(math.MaxUint64, 31) != 3 || hash.Digit(math.MaxUint64, 0) != 3 {
		t.Error("all bits")
	}
}
