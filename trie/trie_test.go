package trie_test

import (
	"math/rand/v2"
	"slices"
	"strconv"
	"strings"
	"testing"

	"regrater/api"
	"regrater/cell"
	"regrater/hash"
	"regrater/pack"
	"regrater/trie"
)

// cells that the chapter defines for some keys, by their names; and the keys leaf by leaf.
func cells(t trie.Trie, keys []string) (map[string]string, []string) {
	out := map[string]string{}
	var order []string
	var node func(path string, keys []string)
	node = func(path string, keys []string) {
		if len(keys) == 0 {
			return
		}
		name := t.Name + "/" + path
		if len(keys) <= api.Leaf || len(path) == api.MaxDepth {
			slices.Sort(keys)
			out[name] = "L" + pack.Pack(keys...)
			order = append(order, keys...)
			return
		}
		mask := 0
		for d := range 4 {
			var part []string
			for _, key := range keys {
				if hash.Digit(hash.Sum(t.Seed, key), len(path)) == d {
					part = append(part, key)
				}
			}
			if len(part) > 0 {
				mask |= 1 << d
			}
			node(path+strconv.Itoa(d), part)
		}
		out[name] = "N" + string([]byte{byte(mask)})
	}
	node("", slices.Clone(keys))
	return out, order
}

func content(s *cell.Store) map[string]string {
	out := map[string]string{}
	for name, text := range s.All() {
		out[name] = text
	}
	return out
}

func all(t trie.Trie) []string {
	return slices.Collect(t.All())
}

// step does an edit and checks it: what it answers, all cells, and who is told.
func step(t *testing.T, tr trie.Trie, keys []string, key string, insert bool) []string {
	t.Helper()
	before, _ := cells(tr, keys)
	at := slices.Index(keys, key)
	after := slices.Clone(keys)
	if insert && at < 0 {
		after = append(after, key)
	} else if !insert && at >= 0 {
		after = slices.Delete(after, at, at+1)
	}
	want, order := cells(tr, after)
	var names []string // of all cells that there are, or will be
	for _, m := range []map[string]string{before, want} {
		for name := range m {
			names = append(names, name)
		}
	}
	slices.Sort(names)
	names = slices.Compact(names)
	var told []int
	for i, name := range names {
		tr.Store.Watch(name, 100-i)
		tr.Store.Watch(name, 1000) // watches everything, is told once
		if before[name] != want[name] {
			told = append(told, 100-i, 1000)
		}
	}
	slices.Sort(told)
	told = slices.Compact(told)
	var got []int
	var ok bool
	if insert {
		got, ok = tr.Insert(key)
	} else {
		got, ok = tr.Delete(key)
	}
	if ok != (insert == (at < 0)) || !slices.Equal(got, told) {
		t.Fatalf("%q, insert %v: %v, %v; want %v", key, insert, got, ok, told)
	}
	for i, name := range names {
		if !tr.Store.Unwatch(name, 100-i) || !tr.Store.Unwatch(name, 1000) {
			t.Fatal("watchers changed")
		}
	}
	have := content(tr.Store)
	if len(have) != len(want) {
		t.Fatalf("%d cells; want %d", len(have), len(want))
	}
	for name, text := range want {
		if have[name] != text {
			t.Fatalf("cell %q: %q; want %q", name, have[name], text)
		}
	}
	if !slices.Equal(all(tr), order) {
		t.Fatalf("All: %q; want %q", all(tr), order)
	}
	return after
}

// P10.1: the example of the chapter.
func TestExample(t *testing.T) {
	tr := trie.Trie{Store: cell.New(), Name: "t", Seed: 5}
	for _, key := range []string{"c", "a", "b"} {
		tr.Insert(key)
	}
	if tr.Store.Len() != 1 || tr.Store.Get("t/") != "L"+pack.Pack("a", "b", "c") {
		t.Error(content(tr.Store))
	}
	tr.Insert("d")
	if !strings.HasPrefix(tr.Store.Get("t/"), "N") || len(tr.Store.Get("t/")) != 2 {
		t.Error(content(tr.Store))
	}
}

// P10.1: every edit of random sets of keys.
func TestModel(t *testing.T) {
	for seed := range uint64(4) {
		r := rand.New(rand.NewPCG(10, seed))
		tr := trie.Trie{Store: cell.New(), Name: []string{"", "t", "x/y", "t"}[seed], Seed: seed * 0x9999999999}
		var keys []string
		for i := range 1500 {
			// The set grows and shrinks in turn.
			insert := r.IntN(10) < []int{7, 3}[i/100%2]
			key := strconv.Itoa(r.IntN(60))
			if r.IntN(20) == 0 {
				key = []string{"", "\x00", "\xff", "long " + strings.Repeat("k", 300)}[r.IntN(4)]
			}
			keys = step(t, tr, keys, key, insert)
			if has := r.IntN(60); tr.Has(strconv.Itoa(has)) != slices.Contains(keys, strconv.Itoa(has)) {
				t.Fatal("Has", has)
			}
		}
		for len(keys) > 0 {
			keys = step(t, tr, keys, keys[r.IntN(len(keys))], false)
		}
	}
}

// P10.1: the cells do not depend on the order of insertions.
func TestOrderOfInsertions(t *testing.T) {
	r := rand.New(rand.NewPCG(10, 9))
	var first map[string]string
	for range 5 {
		tr := trie.Trie{Store: cell.New(), Name: "t", Seed: 1}
		for _, i := range r.Perm(200) {
			tr.Insert(strconv.Itoa(i))
		}
		for _, i := range r.Perm(100) {
			tr.Delete(strconv.Itoa(i))
		}
		got := content(tr.Store)
		if first == nil {
			first = got
		}
		if len(got) != len(first) {
			t.Fatal(len(got), len(first))
		}
		for name, text := range first {
			if got[name] != text {
				t.Fatal(name)
			}
		}
	}
}

// alike finds keys whose first MaxDepth digits are those of one path.
func alike(seed uint64, n int) []string {
	found := map[uint64][]string{}
	for i := 0; ; i++ {
		key := strconv.Itoa(i)
		low := hash.Sum(seed, key) & (1<<(2*api.MaxDepth) - 1)
		found[low] = append(found[low], key)
		if len(found[low]) == n {
			return found[low]
		}
	}
}

// P10.1: a leaf of more than Leaf keys, at the path of MaxDepth digits.
func TestDeep(t *testing.T) {
	tr := trie.Trie{Store: cell.New(), Name: "t", Seed: 3}
	deep := alike(3, api.Leaf+2)
	var keys []string
	for _, key := range deep {
		keys = step(t, tr, keys, key, true)
	}
	if tr.Store.Len() != api.MaxDepth+1 {
		t.Error("cells:", tr.Store.Len())
	}
	for _, key := range []string{"other", "others", deep[0]} {
		keys = step(t, tr, keys, key, true)
	}
	for _, key := range []string{"absent", deep[1], "other", deep[3], "others", deep[0], deep[2], deep[4], deep[4]} {
		keys = step(t, tr, keys, key, false)
	}
	if len(keys) != 0 || tr.Store.Len() != 0 {
		t.Error(keys, content(tr.Store))
	}
}

// P10.1: two tries in one store, and cells of others.
func TestApart(t *testing.T) {
	s := cell.New()
	s.Set("other", "x")
	a, b := trie.Trie{s, "a", 1}, trie.Trie{s, "b", 1}
	for i := range 20 {
		a.Insert(strconv.Itoa(i))
		b.Insert(strconv.Itoa(i * 2))
	}
	for i := range 20 {
		a.Delete(strconv.Itoa(i))
	}
	if len(all(a)) != 0 || len(all(b)) != 20 || s.Get("other") != "x" || b.Has("1") || !b.Has("38") {
		t.Error(all(a), all(b))
	}
	c := trie.Trie{s, "b", 1} // the same trie
	if !slices.Equal(all(c), all(b)) || !c.Has("2") {
		t.Error("another one")
	}
}

// P10.1: All can be ended early and begins anew each time.
func TestAll(t *testing.T) {
	tr := trie.Trie{Store: cell.New(), Name: "t", Seed: 2}
	for i := range 30 {
		tr.Insert(strconv.Itoa(i))
	}
	keys := tr.All()
	whole := slices.Collect(keys)
	for _, n := range []int{1, 7, 30} {
		var got []string
		for key := range keys {
			got = append(got, key)
			if len(got) == n {
				break
			}
		}
		if !slices.Equal(got, whole[:n]) {
			t.Error(got)
		}
	}
}

// P10.1: a nil store.
func TestNil(t *testing.T) {
	tr := trie.Trie{Name: "t"}
	if l, ok := tr.Insert("a"); ok || len(l) != 0 {
		t.Error("Insert")
	}
	if l, ok := tr.Delete("a"); ok || len(l) != 0 {
		t.Error("Delete")
	}
	if tr.Has("a") || len(all(tr)) != 0 {
		t.Error("Has or All")
	}
}

// P10.2: names of cells.
func TestCell(t *testing.T) {
	tr := trie.Trie{Name: "ab"}
	if tr.Cell("") != "ab/" || tr.Cell("0123") != "ab/0123" || (trie.Trie{}).Cell("3") != "/3" {
		t.Error(tr.Cell(""), tr.Cell("0123"))
	}
}

// P10.2: texts of leaves, of inner nodes, and others.
func TestRead(t *testing.T) {
	for _, l := range [][]string{{"a"}, {"", "a"}, {"a", "b", "c"}, {"1", "2", "3", "4", "5"}} {
		keys, below := trie.Read("L" + pack.Pack(l...))
		if !slices.Equal(keys, l) || len(below) != 0 {
			t.Errorf("%q: %q, %v", l, keys, below)
		}
	}
	for mask := range 16 {
		keys, below := trie.Read("N" + string([]byte{byte(mask)}))
		var want []int
		for d := range 4 {
			if mask&(1<<d) != 0 {
				want = append(want, d)
			}
		}
		if len(keys) != 0 || !slices.Equal(below, want) {
			t.Error(mask, keys, below)
		}
	}
	for _, text := range []string{"", "L", "N", "x", "Lx", "L\x00\x00\x00\x02a", "L" + pack.Pack("a") + "b", "N\x01\x02", "\x01", "l" + pack.Pack("a"), pack.Pack("a")} {
		if keys, below := trie.Read(text); len(keys) != 0 || len(below) != 0 {
			t.Errorf("%q: %q, %v", text, keys, below)
		}
	}
}
