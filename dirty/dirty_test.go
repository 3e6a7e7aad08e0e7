package dirty_test

import (
	"math"
	"math/rand/v2"
	"slices"
	"testing"

	"regrater/dirty"
)

func drain(q *dirty.Queue) []int {
	var out []int
	for {
		n, ok := q.Pop()
		if !ok {
			return out
		}
		out = append(out, n)
	}
}

// P3.1: the example of the chapter.
func TestExample(t *testing.T) {
	q := dirty.New(nil)
	var got []bool
	for _, n := range []int{3, 1, 2, 1} {
		got = append(got, q.Push(n))
	}
	if !slices.Equal(got, []bool{true, true, true, false}) || q.Len() != 3 {
		t.Error(got, q.Len())
	}
	if n, ok := q.Pop(); n != 1 || !ok {
		t.Error(n, ok)
	}
}

// P3.1: the order of integers, also of the least and the greatest ones.
func TestIntegers(t *testing.T) {
	q := dirty.New(nil)
	want := []int{math.MinInt, -7, -1, 0, 1, 5, math.MaxInt}
	for _, i := range []int{3, 6, 0, 5, 1, 4, 2} {
		q.Push(want[i])
	}
	if got := drain(q); !slices.Equal(got, want) {
		t.Error(got)
	}
}

// P3.1: an order of one's own.
func TestOwnOrder(t *testing.T) {
	q := dirty.New(func(a, b int) bool { return a > b })
	for _, n := range []int{4, 9, 1, 7} {
		q.Push(n)
	}
	if got := drain(q); !slices.Equal(got, []int{9, 7, 4, 1}) {
		t.Error(got)
	}
}

// P3.1: an empty queue, and what is not present.
func TestAbsent(t *testing.T) {
	q := dirty.New(nil)
	if n, ok := q.Pop(); n != 0 || ok {
		t.Error("Pop of none", n, ok)
	}
	if q.Has(0) || q.Remove(0) || q.Len() != 0 {
		t.Error("0 is present")
	}
	q.Push(5)
	q.Push(6)
	if q.Remove(4) || !q.Has(5) || q.Len() != 2 || !q.Remove(5) || q.Has(5) || q.Remove(5) || q.Len() != 1 {
		t.Error("Remove")
	}
	if !q.Push(5) || !q.Has(5) {
		t.Error("Push after Remove")
	}
	q.Pop()
	if q.Has(5) || !q.Push(5) {
		t.Error("Push after Pop")
	}
}

// P3.1: a nil queue.
func TestNil(t *testing.T) {
	var q *dirty.Queue
	if q.Push(1) || q.Remove(1) || q.Has(1) || q.Len() != 0 {
		t.Error("Push, Remove, Has or Len")
	}
	if n, ok := q.Pop(); n != 0 || ok {
		t.Error("Pop")
	}
}

// limit of P3.2, where there are n elements before the call.
func limit(n int) int {
	return int(math.Ceil(4 * (2 + math.Log2(float64(n+1)))))
}

// P3.1, P3.2: against a sorted list; less is called few times.
func TestModel(t *testing.T) {
	r := rand.New(rand.NewPCG(3, 1))
	for _, size := range []int{8, 100, 3000} {
		calls := 0
		// An order that is not that of integers: odd ones first.
		less := func(a, b int) bool {
			calls++
			if a%2 != b%2 {
				return a%2 == 1
			}
			return a < b
		}
		q := dirty.New(less)
		var have []int
		place := func(n int) (int, bool) {
			return slices.BinarySearchFunc(have, n, func(a, b int) int {
				if a == b {
					return 0
				} else if less(a, b) {
					return -1
				}
				return 1
			})
		}
		for range 12000 {
			n := r.IntN(size)
			i, ok := place(n)
			before, what := len(have), r.IntN(5)
			calls = 0
			switch {
			case what < 2:
				if q.Push(n) == ok {
					t.Fatal("Push", n)
				}
				if !ok {
					have = slices.Insert(have, i, n)
				}
			case what < 4:
				if q.Remove(n) != ok {
					t.Fatal("Remove", n)
				}
				if ok {
					have = slices.Delete(have, i, i+1)
				}
			default:
				m, ok := q.Pop()
				if ok != (before > 0) || ok && m != have[0] {
					t.Fatal("Pop", m, ok)
				}
				have = have[min(1, before):]
			}
			if calls > limit(before) {
				t.Fatal("too many calls of less:", calls, "of", before)
			}
			if m := r.IntN(size); q.Len() != len(have) {
				t.Fatal("Len", q.Len())
			} else if _, ok := place(m); q.Has(m) != ok {
				t.Fatal("Has", m)
			}
		}
		if got := drain(q); !slices.Equal(got, have) {
			t.Fatal("rest", got, have)
		}
	}
}

// P3.2: rising, falling and mixed numbers, and removals, of a long queue.
func TestFewSteps(t *testing.T) {
	const size = 1 << 14
	numbers := []func(i int) int{
		func(i int) int { return i },
		func(i int) int { return size - i },
		func(i int) int { return i * 7919 % size },
	}
	for k, number := range numbers {
		calls := 0
		q := dirty.New(func(a, b int) bool {
			calls++
			return a < b
		})
		check := func(n int) {
			t.Helper()
			if calls > limit(n) {
				t.Fatal(k, "calls", calls, "of", n)
			}
			calls = 0
		}
		for i := range size {
			n := q.Len()
			q.Push(number(i))
			check(n)
		}
		for i := range size / 2 {
			n := q.Len()
			q.Remove(number(i * 2))
			check(n)
		}
		for q.Len() > 0 {
			n := q.Len()
			q.Pop()
			check(n)
		}
	}
}
