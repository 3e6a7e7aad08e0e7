package cell_test

import (
	"math"
	"math/rand/v2"
	"slices"
	"strconv"
	"testing"

	"regrater/cell"
)

// P9.1: the example of the chapter.
func TestExample(t *testing.T) {
	s := cell.New()
	if !s.Watch("a", 3) {
		t.Error("Watch")
	}
	if got := s.Set("a", "x"); !slices.Equal(got, []int{3}) {
		t.Error(got)
	}
	if got := s.Set("a", "x"); len(got) != 0 {
		t.Error(got)
	}
}

// P9.1: a new store, and what is not there.
func TestNew(t *testing.T) {
	s := cell.New()
	if s.Get("a") != "" || s.Get("") != "" || s.Len() != 0 || s.Watches() != 0 || len(s.Watched("a")) != 0 {
		t.Error("not empty")
	}
	if s.Unwatch("a", 0) || len(s.Set("a", "")) != 0 || s.Len() != 0 {
		t.Error("something there")
	}
	for range s.All() {
		t.Error("a cell")
	}
}

// P9.1: a change to the empty text is a change; watching a cell gives it no text.
func TestEmptyText(t *testing.T) {
	s := cell.New()
	s.Watch("a", 1)
	if s.Len() != 0 || s.Watches() != 1 || len(s.Set("a", "")) != 0 {
		t.Error("a watched cell")
	}
	if got := s.Set("a", "x"); !slices.Equal(got, []int{1}) || s.Len() != 1 {
		t.Error(got)
	}
	if got := s.Set("a", ""); !slices.Equal(got, []int{1}) || s.Len() != 0 || s.Get("a") != "" {
		t.Error(got)
	}
	if !slices.Equal(s.Watched("a"), []int{1}) {
		t.Error("no longer watched")
	}
}

// P9.1: watchers are told in ascending order; each is there once.
func TestWatchers(t *testing.T) {
	s := cell.New()
	whos := []int{5, -3, math.MaxInt, 0, math.MinInt, 12, 7}
	for _, who := range whos {
		if !s.Watch("a", who) || s.Watch("a", who) {
			t.Error("Watch", who)
		}
	}
	if !s.Watch("b", 5) || s.Watches() != 8 {
		t.Error("Watch of another cell", s.Watches())
	}
	if !s.Unwatch("a", 12) || s.Unwatch("a", 12) || s.Unwatch("b", 7) || s.Unwatch("c", 7) || s.Watches() != 7 {
		t.Error("Unwatch", s.Watches())
	}
	want := []int{math.MinInt, -3, 0, 5, 7, math.MaxInt}
	got := s.Watched("a")
	if !slices.Equal(got, want) {
		t.Error(got)
	}
	got[0] = 99
	if got := s.Set("a", "x"); !slices.Equal(got, want) {
		t.Error(got)
	}
	if !s.Watch("a", 12) {
		t.Error("Watch again")
	}
}

// P9.1, P9.2: against plain maps.
func TestModel(t *testing.T) {
	r := rand.New(rand.NewPCG(9, 1))
	s := cell.New()
	texts := map[string]string{}
	watchers := map[string][]int{}
	watches := 0
	for range 20000 {
		name, who := strconv.Itoa(r.IntN(12)), r.IntN(6)
		i := slices.Index(watchers[name], who)
		switch r.IntN(3) {
		case 0:
			to := []string{"", "x", "y"}[r.IntN(3)]
			var want []int
			if texts[name] != to {
				want = slices.Sorted(slices.Values(watchers[name]))
			}
			texts[name] = to
			if got := s.Set(name, to); !slices.Equal(got, want) {
				t.Fatal("Set", got, want)
			}
		case 1:
			if s.Watch(name, who) != (i < 0) {
				t.Fatal("Watch")
			}
			if i < 0 {
				watchers[name] = append(watchers[name], who)
				watches++
			}
		case 2:
			if s.Unwatch(name, who) != (i >= 0) {
				t.Fatal("Unwatch")
			}
			if i >= 0 {
				watchers[name] = slices.Delete(watchers[name], i, i+1)
				watches--
			}
		}
		if s.Get(name) != texts[name] || s.Watches() != watches || !slices.Equal(s.Watched(name), slices.Sorted(slices.Values(watchers[name]))) {
			t.Fatal("Get, Watches or Watched")
		}
		n, last := 0, ""
		for name, text := range s.All() {
			if text == "" || text != texts[name] || n > 0 && name <= last {
				t.Fatal("All", name, text)
			}
			last = name
			n++
		}
		full := 0
		for _, text := range texts {
			if text != "" {
				full++
			}
		}
		if n != full || s.Len() != full {
			t.Fatal("Len", s.Len(), n, full)
		}
	}
}

// P9.2: the order of names, an early end, and a new beginning.
func TestAll(t *testing.T) {
	s := cell.New()
	for _, name := range []string{"b", "", "a/", "\xff", "B", "a"} {
		s.Set(name, "x"+name)
	}
	all := s.All()
	for _, n := range []int{6, 2, 6} {
		var names []string
		for name, text := range all {
			if text != "x"+name {
				t.Error(name, text)
			}
			names = append(names, name)
			if len(names) == n {
				break
			}
		}
		if !slices.Equal(names, []string{"", "B", "a", "a/", "b", "\xff"}[:n]) {
			t.Error(names)
		}
	}
}

// P9.2: a nil store.
func TestNil(t *testing.T) {
	var s *cell.Store
	if s.Get("a") != "" || len(s.Set("a", "x")) != 0 || s.Watch("a", 1) || s.Unwatch("a", 1) || len(s.Watched("a")) != 0 || s.Len() != 0 || s.Watches() != 0 {
		t.Error("something there")
	}
	for range s.All() {
		t.Error("a cell")
	}
}
