package arena_test

import (
	"math/rand/v2"
	"slices"
	"testing"

	"regrater/api"
	"regrater/arena"
)

func alloc(t *testing.T, a *arena.Arena[string], x string, want int) {
	t.Helper()
	if i, ok := a.Alloc(x); i != want || !ok {
		t.Errorf("Alloc(%q) = %d, %v; want %d", x, i, ok, want)
	}
}

// P1.1: the example of the chapter.
func TestExample(t *testing.T) {
	a := arena.New[string](5)
	alloc(t, a, "a", 0)
	alloc(t, a, "b", 1)
	if !a.Free(0) {
		t.Error("Free(0)")
	}
	alloc(t, a, "c", 0)
}

// P1.1: the index that was freed last is used first, then the least one that was never used.
func TestOrderOfReuse(t *testing.T) {
	a := arena.New[string](10)
	for i := range 5 {
		alloc(t, a, "x", i)
	}
	for _, i := range []int{3, 0, 4} {
		a.Free(i)
	}
	for _, i := range []int{4, 0, 3, 5, 6} {
		alloc(t, a, "y", i)
	}
}

// P1.1: room, also none, a negative one and one that is too great.
func TestRoom(t *testing.T) {
	for _, room := range []int{0, -1, -1 << 63} {
		if i, ok := arena.New[int](room).Alloc(1); ok || i != 0 {
			t.Errorf("room %d: %d, %v", room, i, ok)
		}
	}
	a := arena.New[int](2)
	a.Alloc(1)
	a.Alloc(2)
	if i, ok := a.Alloc(3); ok || i != 0 || a.Live() != 2 {
		t.Error("more than there is room for", i, ok)
	}
	a.Free(1)
	if i, ok := a.Alloc(3); !ok || i != 1 {
		t.Error("room again", i, ok)
	}
	for _, room := range []int{api.MaxArena, api.MaxArena + 1, 1<<63 - 1} {
		a = arena.New[int](room)
		for i := range api.MaxArena {
			if j, ok := a.Alloc(i); j != i || !ok {
				t.Fatal("Alloc", i, j, ok)
			}
		}
		if i, ok := a.Alloc(0); ok || i != 0 {
			t.Error("more than MaxArena", i, ok)
		}
	}
}

// P1.1: Free, Get and Set where there is nothing.
func TestNothing(t *testing.T) {
	a := arena.New[string](3)
	a.Alloc("a")
	a.Alloc("b")
	a.Free(0)
	for _, i := range []int{-1, 0, 2, 3, 1 << 40, -1 << 63} {
		if a.Free(i) || a.Set(i, "q") {
			t.Error("there is something at", i)
		}
		if x, ok := a.Get(i); ok || x != "" {
			t.Error("Get", i, x, ok)
		}
	}
	if x, ok := a.Get(1); !ok || x != "b" || a.Live() != 1 {
		t.Error("b is gone", x, ok)
	}
	if !a.Set(1, "c") {
		t.Error("Set")
	}
	if x, _ := a.Get(1); x != "c" {
		t.Error("Set has set", x)
	}
	alloc(t, a, "d", 0)
	if x, _ := a.Get(0); x != "d" {
		t.Error("at a freed place", x)
	}
}

// P1.1, P1.2: against a map and a list of freed indices.
func TestModel(t *testing.T) {
	r := rand.New(rand.NewPCG(1, 1))
	a := arena.New[int](50)
	have := map[int]int{}
	var freed []int
	for step := range 20000 {
		if r.IntN(2) == 0 {
			want, ok := len(have)+len(freed), len(have) < 50
			if len(freed) > 0 {
				want = freed[len(freed)-1]
			}
			if !ok {
				want = 0
			}
			i, got := a.Alloc(step)
			if i != want || got != ok {
				t.Fatal("Alloc", i, got, want, ok)
			}
			if ok {
				freed = freed[:max(0, len(freed)-1)]
				have[i] = step
			}
		} else if i := r.IntN(52); true {
			_, ok := have[i]
			if a.Free(i) != ok {
				t.Fatal("Free", i)
			}
			if ok {
				delete(have, i)
				freed = append(freed, i)
			}
		}
		last, n := -1, 0
		for i, x := range a.All() {
			if y, ok := have[i]; !ok || x != y || i <= last {
				t.Fatal("All", i, x)
			}
			last = i
			n++
		}
		if n != len(have) || a.Live() != n {
			t.Fatal("Live", a.Live(), n, len(have))
		}
	}
}

// P1.2: All can be ended early and begins anew each time.
func TestAll(t *testing.T) {
	a := arena.New[string](4)
	for _, s := range []string{"a", "b", "c", "d"} {
		a.Alloc(s)
	}
	a.Free(1)
	all := a.All()
	for range 2 {
		var at []int
		for i := range all {
			at = append(at, i)
			if i == 2 {
				break
			}
		}
		if !slices.Equal(at, []int{0, 2}) {
			t.Error(at)
		}
	}
	for i := range all {
		a.Set(i, "z")
	}
	for i, s := range all {
		if s != "z" {
			t.Error("after Set", i, s)
		}
	}
}

// P1.2: a nil arena.
func TestNil(t *testing.T) {
	var a *arena.Arena[string]
	if i, ok := a.Alloc("a"); ok || i != 0 {
		t.Error("Alloc")
	}
	if x, ok := a.Get(0); ok || x != "" {
		t.Error("Get")
	}
	if a.Free(0) || a.Set(0, "a") || a.Live() != 0 {
		t.Error("Free, Set or Live")
	}
	for range a.All() {
		t.Error("All")
	}
}

// Two arenas share nothing.
func TestApart(t *testing.T) {
	a, b := arena.New[int](3), arena.New[int](3)
	a.Alloc(7)
	if _, ok := b.Get(0); ok || b.Live() != 0 {
		t.Error("shared")
	}
}
