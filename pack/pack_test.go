package pack_test

import (
	"math"
	"math/rand/v2"
	"slices"
	"strings"
	"testing"

	"regrater/api"
	"regrater/pack"
)

// P4.1: the example of the chapter, and the bytes of other lists.
func TestPack(t *testing.T) {
	long := strings.Repeat("x", 0x010203)
	for _, c := range []struct {
		l    []string
		want string
	}{
		{nil, ""},
		{[]string{""}, "\x00\x00\x00\x00"},
		{[]string{"a", ""}, "\x00\x00\x00\x01a\x00\x00\x00\x00"},
		{[]string{"\x00\xff", "bc"}, "\x00\x00\x00\x02\x00\xff\x00\x00\x00\x02bc"},
		{[]string{long}, "\x00\x01\x02\x03" + long},
	} {
		if got := pack.Pack(c.l...); got != c.want {
			t.Errorf("Pack(%q) = %q", c.l, got)
		}
		l, err := pack.Split(c.want)
		if err != api.OK || !slices.Equal(l, c.l) {
			t.Errorf("Split(%q) = %q, %d", c.want, l, err)
		}
		if l := all(c.want); !slices.Equal(l, c.l) {
			t.Errorf("All(%q) = %q", c.want, l)
		}
	}
}

func all(s string) []string {
	var l []string
	for i, x := range pack.All(s) {
		if i != len(l) {
			l = append(l, "wrong index")
		}
		l = append(l, x)
	}
	return l
}

// P4.1: texts that are not complete.
func TestShort(t *testing.T) {
	whole := []string{"ab", "", "c"}
	s := pack.Pack(whole...)
	ends := []int{0, 6, 10, 15}
	for n := range len(s) {
		l, err := pack.Split(s[:n])
		if i := slices.Index(ends, n); i >= 0 {
			if err != api.OK || !slices.Equal(l, whole[:i]) {
				t.Error("whole", n, l, err)
			}
		} else if err != api.ErrShort || len(l) != 0 {
			t.Error("not whole", n, l, err)
		}
		i := 0
		for i+1 < len(ends) && ends[i+1] <= n {
			i++
		}
		if got := all(s[:n]); !slices.Equal(got, whole[:i]) {
			t.Error("All of", n, got)
		}
	}
	for _, s := range []string{"\xff\xff\xff\xff", "\x7f\xff\xff\xffabc", "\x80\x00\x00\x00", "\x00\x00\x00\x01", "a"} {
		if l, err := pack.Split(s); err != api.ErrShort || len(l) != 0 {
			t.Errorf("Split(%q) = %q, %d", s, l, err)
		}
		if l := all(s); len(l) != 0 {
			t.Errorf("All(%q) = %q", s, l)
		}
	}
}

// P4.1: All can be ended early and begins anew each time.
func TestAllAgain(t *testing.T) {
	texts := pack.All(pack.Pack("a", "b", "c"))
	for range 2 {
		got := ""
		for i, s := range texts {
			got += s
			if i == 1 {
				break
			}
		}
		if got != "ab" {
			t.Error(got)
		}
	}
}

// P4.1: the list that is given is not changed.
func TestGiven(t *testing.T) {
	l := []string{"a", "b", "c"}
	pack.Pack(l[:2]...)
	if !slices.Equal(l, []string{"a", "b", "c"}) {
		t.Error(l)
	}
}

// P4.2: the bytes of numbers, and that they are ordered like these.
func TestInt(t *testing.T) {
	for _, c := range []struct {
		n    int64
		want string
	}{
		{0, "\x80\x00\x00\x00\x00\x00\x00\x00"},
		{1, "\x80\x00\x00\x00\x00\x00\x00\x01"},
		{-1, "\x7f\xff\xff\xff\xff\xff\xff\xff"},
		{0x0102030405060708, "\x81\x02\x03\x04\x05\x06\x07\x08"},
		{math.MinInt64, "\x00\x00\x00\x00\x00\x00\x00\x00"},
		{math.MaxInt64, "\xff\xff\xff\xff\xff\xff\xff\xff"},
	} {
		if got := pack.Int(c.n); got != c.want {
			t.Errorf("Int(%d) = %q", c.n, got)
		}
		if n, ok := pack.GetInt(c.want); n != c.n || !ok {
			t.Errorf("GetInt(%q) = %d, %v", c.want, n, ok)
		}
	}
	r := rand.New(rand.NewPCG(4, 2))
	for range 2000 {
		a, b := int64(r.Uint64())>>r.IntN(60), int64(r.Uint64())>>r.IntN(60)
		if (a < b) != (pack.Int(a) < pack.Int(b)) {
			t.Error("order of", a, b)
		}
		if n, ok := pack.GetInt(pack.Int(a)); n != a || !ok {
			t.Error("GetInt of", a, n, ok)
		}
	}
}

// P4.2: texts that are no number's.
func TestNoInt(t *testing.T) {
	for _, s := range []string{"", "1234567", "123456789", strings.Repeat("x", 16)} {
		if n, ok := pack.GetInt(s); n != 0 || ok {
			t.Errorf("GetInt(%q) = %d, %v", s, n, ok)
		}
	}
}
