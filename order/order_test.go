package order_test

import (
	"math/rand/v2"
	"slices"
	"testing"
	"time"

	"regrater/api"
	"regrater/order"
)

func after(t *testing.T, l *order.List, s, want int) {
	t.Helper()
	if n, ok := l.After(s); n != want || !ok {
		t.Errorf("After(%d) = %d, %v; want %d", s, n, ok, want)
	}
}

func all(l *order.List) []int {
	var out []int
	for s := range l.All() {
		out = append(out, s)
	}
	return out
}

// P2.1, P2.2: the example of the chapter.
func TestExample(t *testing.T) {
	l := order.New()
	if l.Len() != 1 || !l.Has(0) || l.Has(1) || !slices.Equal(all(l), []int{0}) {
		t.Error("new list")
	}
	after(t, l, 0, 1)
	after(t, l, 0, 2)
	if !l.Less(2, 1) || l.Less(1, 2) || !l.Less(0, 2) {
		t.Error("order")
	}
}

// P2.1: what is no stamp, and the stamp 0, which stays.
func TestNoStamp(t *testing.T) {
	l := order.New()
	after(t, l, 0, 1)
	after(t, l, 1, 2)
	if !l.Delete(1) {
		t.Error("Delete(1)")
	}
	for _, s := range []int{-1, 1, 3, api.MaxArena, 1 << 62, -1 << 63} {
		if n, ok := l.After(s); ok || n != 0 {
			t.Error("After", s, n, ok)
		}
		if l.Delete(s) || l.Has(s) || l.Less(s, 0) || l.Less(0, s) || l.Less(s, s) || l.Less(2, s) {
			t.Error("a stamp:", s)
		}
	}
	if l.Delete(0) || !l.Has(0) || l.Len() != 2 {
		t.Error("Delete(0)")
	}
	if l.Less(0, 0) || l.Less(2, 2) {
		t.Error("before itself")
	}
}

// P2.1: new stamps are numbered as layer 1 does.
func TestNumbers(t *testing.T) {
	l := order.New()
	for i := range 4 {
		after(t, l, 0, i+1)
	}
	for _, s := range []int{2, 4, 1} {
		l.Delete(s)
	}
	for _, s := range []int{1, 4, 2, 5} {
		after(t, l, 3, s)
	}
	if got := all(l); !slices.Equal(got, []int{0, 3, 5, 2, 4, 1}) {
		t.Error(got)
	}
}

// P2.1, P2.2: against a slice.
func TestModel(t *testing.T) {
	for seed := range uint64(6) {
		r := rand.New(rand.NewPCG(seed, 2))
		l := order.New()
		want := []int{0}
		for range 1500 {
			i := r.IntN(len(want))
			if seed%2 == 1 { // many at one place
				i = min(i, 2)
			}
			if r.IntN(4) > 0 || i == 0 {
				n, ok := l.After(want[i])
				if !ok {
					t.Fatal("After")
				}
				want = slices.Insert(want, i+1, n)
			} else if l.Delete(want[i]) {
				want = slices.Delete(want, i, i+1)
			} else {
				t.Fatal("Delete")
			}
			a, b := r.IntN(len(want)), r.IntN(len(want))
			if l.Less(want[a], want[b]) != (a < b) || l.Len() != len(want) {
				t.Fatal("Less", a, b)
			}
		}
		if !slices.Equal(all(l), want) {
			t.Fatal("All")
		}
		for a := range want {
			if a > 0 && (!l.Less(want[a-1], want[a]) || l.Less(want[a], want[a-1])) {
				t.Fatal("neighbours", a)
			}
		}
	}
}

// within fails if f takes longer: what takes few steps is done far sooner.
func within(t *testing.T, d time.Duration, f func()) {
	t.Helper()
	done := make(chan int)
	go func() {
		f()
		close(done)
	}()
	select {
	case <-done:
	case <-time.After(d):
		t.Fatal("too many steps")
	}
}

// P2.1, P2.2: MaxArena stamps, inserted at the front, at the end and in between; Less takes few steps.
func TestMany(t *testing.T) {
	places := []func(i int) int{
		func(int) int { return 0 },
		func(i int) int { return i },
		func(i int) int { return i / 2 },
	}
	for _, place := range places {
		within(t, time.Minute, func() {
			l := order.New()
			for i := range api.MaxArena - 1 {
				if n, ok := l.After(place(i)); n != i+1 || !ok {
					t.Error("After", i, n, ok)
					return
				}
			}
			if n, ok := l.After(0); ok || n != 0 || l.Len() != api.MaxArena {
				t.Error("more than MaxArena stamps", n, ok)
			}
			last := 0
			for s := range l.All() {
				if s != 0 && (!l.Less(last, s) || l.Less(s, last) || !l.Less(0, s)) {
					t.Error("order", last, s)
					return
				}
				last = s
			}
			l.Delete(5)
			if n, ok := l.After(last); !ok || n != 5 || !l.Less(last, 5) {
				t.Error("room again", n, ok)
			}
		})
	}
}

// P2.2: All can be ended early and begins anew each time.
func TestAll(t *testing.T) {
	l := order.New()
	after(t, l, 0, 1)
	after(t, l, 1, 2)
	stamps := l.All()
	for range 2 {
		n := 0
		for s := range stamps {
			if s != n {
				t.Error(s)
			}
			if n++; n == 2 {
				break
			}
		}
	}
}

// P2.2: a nil list.
func TestNil(t *testing.T) {
	var l *order.List
	if n, ok := l.After(0); ok || n != 0 {
		t.Error("After")
	}
	if l.Delete(0) || l.Delete(1) || l.Less(0, 1) || l.Has(0) || l.Len() != 0 {
		t.Error("Delete, Less, Has or Len")
	}
	for range l.All() {
		t.Error("All")
	}
}
