package bag_test

import (
	"math/rand/v2"
	"slices"
	"testing"

	"regrater/api"
	"regrater/bag"
	"regrater/pack"
	"regrater/row"
	"regrater/value"
)

func of(l ...int64) row.Row {
	var r row.Row
	for _, n := range l {
		r = append(r, value.OfInt(n))
	}
	return r
}

func same(a, b []row.Row) bool {
	return slices.EqualFunc(a, b, func(x, y row.Row) bool { return slices.Equal(x, y) })
}

// P8.1: the example of the chapter.
func TestExample(t *testing.T) {
	b := bag.Of(of(1), of(1), of(2))
	if b.Len() != 3 || len(b.Distinct().Rows()) != 2 || b.Distinct().Len() != 2 {
		t.Error(b.Len(), b.Distinct().Rows())
	}
}

// P8.1: the empty bag, in each way that it can be made.
func TestEmpty(t *testing.T) {
	for i, b := range []bag.Bag{{}, bag.Of(), bag.Plus(), bag.Plus(bag.Bag{}, bag.Of()), bag.Bag{}.Distinct()} {
		if b.Len() != 0 || len(b.Rows()) != 0 || b.Key() != "" || !bag.Same(b, bag.Bag{}) || !bag.Same(bag.Bag{}, b) {
			t.Error(i, b)
		}
		for range b.All() {
			t.Error("a row of none")
		}
	}
	// A row without values is a row.
	b := bag.Of(of(), of())
	if b.Len() != 2 || bag.Same(b, bag.Bag{}) || bag.Same(b, bag.Of(of())) || b.Key() != pack.Pack("", "") {
		t.Error(b)
	}
}

// P8.1: against sorted lists of rows.
func TestModel(t *testing.T) {
	r := rand.New(rand.NewPCG(8, 1))
	var bags []bag.Bag
	var lists [][]row.Row
	for range 60 {
		var l []row.Row
		for range r.IntN(12) {
			l = append(l, of(int64(r.IntN(3)), int64(r.IntN(2)))[:r.IntN(3)])
		}
		bags, lists = append(bags, bag.Of(l...)), append(lists, l)
	}
	for range 60 { // sums of up to three, also of a bag and itself
		var l []bag.Bag
		var all []row.Row
		for range r.IntN(4) {
			i := r.IntN(len(bags))
			l, all = append(l, bags[i]), append(all, lists[i]...)
		}
		bags, lists = append(bags, bag.Plus(l...)), append(lists, all)
	}
	for i, b := range bags {
		want := row.Sort(lists[i])
		if !same(b.Rows(), want) || b.Len() != len(want) {
			t.Fatal("Rows", b.Rows(), want)
		}
		var all, once []row.Row
		for x, n := range b.All() {
			once = append(once, x)
			for range n {
				all = append(all, x)
			}
		}
		distinct := slices.CompactFunc(slices.Clone(want), func(x, y row.Row) bool { return row.Compare(x, y) == 0 })
		if !same(all, want) || !same(once, distinct) || !same(b.Distinct().Rows(), distinct) {
			t.Fatal("All or Distinct", all, once, b.Distinct().Rows())
		}
		var keys []string
		for _, x := range want {
			keys = append(keys, row.Key(x))
		}
		if b.Key() != pack.Pack(keys...) {
			t.Fatal("Key")
		}
		if c, err := bag.Get(b.Key()); err != api.OK || !bag.Same(b, c) || !same(c.Rows(), want) {
			t.Fatal("Get", err)
		}
		for j, c := range bags {
			if bag.Same(b, c) != same(want, row.Sort(lists[j])) {
				t.Fatal("Same", want, lists[j])
			}
		}
	}
}

// P8.1: bags are not modified, whatever is done with what they were made of and what they tell.
func TestApart(t *testing.T) {
	given := []row.Row{of(3), of(1), of(1)}
	b := bag.Of(given...)
	key := b.Key()
	if !same(given, []row.Row{of(3), of(1), of(1)}) {
		t.Error("given rows were moved")
	}
	given[0][0], given[1][0] = value.OfInt(8), value.OfInt(9)
	rows := b.Rows()
	rows[0][0] = value.OfInt(7)
	if rows[1][0] != value.OfInt(1) {
		t.Error("equal rows share memory")
	}
	for x := range b.All() {
		x[0] = value.OfInt(6)
	}
	sum := bag.Plus(b, bag.Of(of(1)))
	b.Distinct().Rows()[0][0] = value.OfInt(5)
	sum.Rows()[0][0] = value.OfInt(4)
	if b.Key() != key || b.Len() != 3 || sum.Len() != 4 {
		t.Error("the bag was changed", b.Rows())
	}
}

// P8.1: All can be ended early and begins anew each time.
func TestAll(t *testing.T) {
	all := bag.Of(of(1), of(2), of(2), of(3)).All()
	for range 2 {
		var counts []int
		for r, n := range all {
			counts = append(counts, n)
			if r[0] == value.OfInt(2) {
				break
			}
		}
		if !slices.Equal(counts, []int{1, 2}) {
			t.Error(counts)
		}
	}
}

// P8.2: texts that are no keys.
func TestNoKey(t *testing.T) {
	one, two := row.Key(of(1)), row.Key(of(2))
	for _, c := range []struct {
		s    string
		want api.Errno
	}{
		{"x", api.ErrShort},
		{pack.Pack(two, one) + "x", api.ErrShort},
		{pack.Pack("x") + "x", api.ErrShort},
		{pack.Pack(one, "x"), api.ErrShort},
		{pack.Pack(pack.Pack("\x09")), api.ErrForm},
		{pack.Pack(two, one), api.ErrForm},
		{pack.Pack(one, two, one), api.ErrForm},
		{pack.Pack(two, one, "x"), api.ErrShort}, // a wrong row goes ahead of a wrong order
		{pack.Pack(pack.Pack("\x09"), "x"), api.ErrForm},
		{pack.Pack("x", pack.Pack("\x09")), api.ErrShort},
	} {
		if b, err := bag.Get(c.s); err != c.want || !bag.Same(b, bag.Bag{}) {
			t.Errorf("Get(%q) = %v, %d; want %d", c.s, b, err, c.want)
		}
	}
	if b, err := bag.Get(pack.Pack(one, one, two)); err != api.OK || b.Len() != 3 {
		t.Error("equal rows", err)
	}
	// The order of rows is not that of their keys.
	a, b := row.Row{value.OfText("aa")}, row.Row{value.OfText("b")}
	if row.Key(a) < row.Key(b) {
		t.Error("keys of texts")
	}
	if _, err := bag.Get(pack.Pack(row.Key(a), row.Key(b))); err != api.OK {
		t.Error("order of texts", err)
	}
}
