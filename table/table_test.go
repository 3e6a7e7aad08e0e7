package table_test

import (
	"math/rand/v2"
	"slices"
	"strconv"
	"strings"
	"testing"

	"regrater/api"
	"regrater/catalog"
	"regrater/cell"
	"regrater/pack"
	"regrater/row"
	"regrater/stmt"
	"regrater/table"
	"regrater/trie"
	"regrater/value"
)

var (
	null = value.Value{}
	yes  = value.OfBool(true)
	no   = value.OfBool(false)
)

func num(n int64) value.Value     { return value.OfInt(n) }
func text(s string) value.Value   { return value.OfText(s) }
func of(l ...value.Value) row.Row { return l }
func key(v value.Value) string    { return row.Key(row.Row{v}) }

// kinds by letters.
func made(s *cell.Store, name, kinds string, k int) table.Table {
	t := catalog.Table{Name: name, Key: k}
	for i, c := range kinds {
		t.Columns = append(t.Columns, stmt.Column{Name: "c" + strconv.Itoa(i), Kind: strings.IndexRune("?bit", c), Key: i == k})
	}
	return table.Table{Store: s, Seed: 7, Table: t}
}

// cells that the chapter defines for some rows.
func cells(t table.Table, rows []row.Row) map[string]string {
	other := cell.New()
	keys := trie.Trie{Store: other, Name: t.Name, Seed: t.Seed}
	out := map[string]string{}
	buckets := map[string][]string{}
	for _, r := range rows {
		k := key(r[t.Key])
		keys.Insert(k)
		out["r/"+t.Name+"/"+k] = row.Key(r)
		for p, v := range r {
			if v != null {
				name := "b/" + t.Name + "/" + strconv.Itoa(p) + "/" + key(v)
				buckets[name] = append(buckets[name], k)
			}
		}
	}
	for name, l := range buckets {
		slices.Sort(l)
		out[name] = pack.Pack(l...)
	}
	for name, text := range other.All() {
		out[name] = text
	}
	return out
}

func content(s *cell.Store) map[string]string {
	out := map[string]string{}
	for name, text := range s.All() {
		out[name] = text
	}
	return out
}

// watched cells: each by a number of its own, and by one that watches all.
type watched struct {
	s     *cell.Store
	names []string
}

func watch(s *cell.Store, before, after map[string]string) watched {
	w := watched{s: s}
	for _, m := range []map[string]string{before, after} {
		for name := range m {
			w.names = append(w.names, name)
		}
	}
	slices.Sort(w.names)
	w.names = slices.Compact(w.names)
	for i, name := range w.names {
		s.Watch(name, 500-i)
		s.Watch(name, 1000)
	}
	return w
}

// changed: who is to be told.
func (w watched) changed(before, after map[string]string) []int {
	var told []int
	for i, name := range w.names {
		if before[name] != after[name] {
			told = append(told, 500-i, 1000)
		}
		w.s.Unwatch(name, 500-i)
		w.s.Unwatch(name, 1000)
	}
	slices.Sort(told)
	return slices.Compact(told)
}

func sameCells(t *testing.T, s *cell.Store, want map[string]string) {
	t.Helper()
	have := content(s)
	if len(have) != len(want) {
		t.Fatalf("%d cells; want %d", len(have), len(want))
	}
	for name, text := range want {
		if have[name] != text {
			t.Fatalf("%q: %q; want %q", name, have[name], text)
		}
	}
}

func sameRows(a, b []row.Row) bool {
	return slices.EqualFunc(a, b, func(x, y row.Row) bool { return slices.Equal(x, y) })
}

// P22.2: the example of the chapter, and all names and contents.
func TestExample(t *testing.T) {
	s := cell.New()
	x := made(s, "t", "it", 0)
	if told, err := x.Put(of(num(1), text("x"))); err != api.OK || len(told) != 0 || s.Len() != 4 {
		t.Error(told, err, s.Len())
	}
	one := row.Key(of(num(1)))
	sameCells(t, s, map[string]string{
		"t/":                              "L" + pack.Pack(one),
		"r/t/" + one:                      row.Key(of(num(1), text("x"))),
		"b/t/0/" + one:                    pack.Pack(one),
		"b/t/1/" + row.Key(of(text("x"))): pack.Pack(one),
	})
	x.Put(of(num(2), null))
	if s.Len() != 6 {
		t.Error("NULL has a bucket", content(s))
	}
}

// P22.1: names of cells, and the trie.
func TestNames(t *testing.T) {
	s := cell.New()
	x := made(s, "tab", "ii", 0)
	if x.Keys() != (trie.Trie{Store: s, Name: "tab", Seed: 7}) {
		t.Error(x.Keys())
	}
	if x.Row("k") != "r/tab/k" || x.Row("") != "r/tab/" {
		t.Error(x.Row("k"))
	}
	for p, want := range map[int]string{0: "b/tab/0/", 1: "b/tab/1/", 12: "b/tab/12/", -3: "b/tab/-3/"} {
		for _, v := range []value.Value{null, yes, num(5), text("a/b")} {
			if got := x.Bucket(p, v); got != want+key(v) {
				t.Errorf("%q", got)
			}
		}
	}
}

// P22.1: the first thing that is wrong in a row.
func TestCheck(t *testing.T) {
	x := made(cell.New(), "t", "tib", 1)
	long := text(strings.Repeat("x", 65))
	for _, c := range []struct {
		r    row.Row
		want api.Errno
	}{
		{of(text("a"), num(1), yes), api.OK}, {of(null, num(1), null), api.OK}, {of(text(strings.Repeat("x", 64)), num(-1<<63), no), api.OK},
		{nil, api.ErrCount}, {of(text("a"), num(1)), api.ErrCount}, {of(text("a"), num(1), yes, null), api.ErrCount}, {of(num(1), null), api.ErrCount},
		{of(num(1), num(1), yes), api.ErrType}, {of(text("a"), text("b"), yes), api.ErrType}, {of(text("a"), num(1), num(1)), api.ErrType}, {of(text("a"), yes, yes), api.ErrType},
		{of(long, num(1), yes), api.ErrType}, {of(text("a"), num(1), value.Value{Kind: 1, N: 2}), api.ErrType}, {of(text("a"), value.Value{Kind: 2, S: "x"}, yes), api.ErrType}, {of(text("a"), num(1), value.Value{Kind: 9}), api.ErrType},
		{of(text("a"), null, yes), api.ErrNull}, {of(text("a"), null, num(1)), api.ErrNull}, {of(num(1), null, yes), api.ErrType}, {of(text("a"), value.Value{Kind: 0, N: 1}, yes), api.ErrType},
	} {
		if err := x.Check(c.r); err != c.want {
			t.Error(c.r, err, c.want)
		}
		if _, err := x.Put(c.r); err != c.want && c.want != api.OK {
			t.Error("Put", c.r, err)
		}
	}
	if len(x.Rows()) != 2 {
		t.Error(x.Rows())
	}
}

// P22.2: every change of random rows.
func TestModel(t *testing.T) {
	for seed, kinds := range []string{"it", "tib", "bit", "i"} {
		r := rand.New(rand.NewPCG(22, uint64(seed)))
		s := cell.New()
		s.Set("other", "x")
		x := made(s, []string{"t", "r", "b", "u"}[seed], kinds, seed%len(kinds))
		rows := map[value.Value]row.Row{}
		list := func() []row.Row {
			var l []row.Row
			for _, r := range rows {
				l = append(l, r)
			}
			return row.Sort(l)
		}
		random := func(kind rune) value.Value {
			switch kind {
			case 'b':
				return value.OfBool(r.IntN(2) == 0)
			case 'i':
				return num(int64(r.IntN(40)))
			}
			return text([]string{"", "a", "it's", strings.Repeat("z", 64), "b"}[r.IntN(5)])
		}
		for i := range 600 {
			before := cells(x, list())
			k := random(rune(kinds[x.Key]))
			old, present := rows[k]
			if r.IntN(10) < []int{7, 3}[i/60%2] {
				var put row.Row
				for p, kind := range kinds {
					v := random(kind)
					if p == x.Key {
						v = k
					} else if r.IntN(4) == 0 {
						v = null
					}
					put = append(put, v)
				}
				want := api.ErrTwice
				if !present {
					rows[k], want = slices.Clone(put), api.OK
				}
				after := cells(x, list())
				w := watch(s, before, after)
				got, err := x.Put(put)
				put[0] = num(99)
				if told := w.changed(before, after); err != want || !slices.Equal(got, told) {
					t.Fatal("Put", got, told, err, want)
				}
			} else {
				delete(rows, k)
				after := cells(x, list())
				w := watch(s, before, after)
				got, ok := x.Take(k)
				if told := w.changed(before, after); ok != present || !slices.Equal(got, told) {
					t.Fatal("Take", got, told, ok, present)
				}
			}
			want := cells(x, list())
			want["other"] = "x"
			sameCells(t, s, want)
			if !sameRows(x.Rows(), list()) {
				t.Fatal("Rows")
			}
			k = random(rune(kinds[x.Key]))
			old, present = rows[k]
			if got, ok := x.Get(k); ok != present || !slices.Equal(got, old) {
				t.Fatal("Get", k, got, ok)
			}
		}
		before := cells(x, list())
		w := watch(s, before, nil)
		got := x.Clear()
		if told := w.changed(before, nil); !slices.Equal(got, told) {
			t.Fatal("Clear", got, told)
		}
		if len(x.Rows()) != 0 || s.Len() != 1 || len(x.Clear()) != 0 {
			t.Fatal("after Clear", x.Rows())
		}
	}
}

// P22.2: keys that no row has.
func TestNoKey(t *testing.T) {
	x := made(cell.New(), "t", "ib", 0)
	x.Put(of(num(1), yes))
	for _, v := range []value.Value{null, num(2), no, yes, text("1"), text(""), text(strings.Repeat("x", 64))} {
		if r, ok := x.Get(v); ok || len(r) != 0 {
			t.Error("Get", v, r)
		}
		if told, ok := x.Take(v); ok || len(told) != 0 {
			t.Error("Take", v)
		}
	}
	if len(x.Rows()) != 1 {
		t.Error(x.Rows())
	}
}

// P22.2: MaxRows rows, and one more; that there is one with the key goes ahead.
func TestFull(t *testing.T) {
	s := cell.New()
	x := made(s, "t", "ii", 0)
	for i := range int64(api.MaxRows) {
		if _, err := x.Put(of(num(i), num(i%3))); err != api.OK {
			t.Fatal(i, err)
		}
	}
	n := s.Len()
	for _, c := range []struct {
		r    row.Row
		want api.Errno
	}{{of(num(-1), null), api.ErrFull}, {of(num(5), null), api.ErrTwice}, {of(null, null), api.ErrNull}} {
		if told, err := x.Put(c.r); err != c.want || len(told) != 0 || s.Len() != n {
			t.Error(c, err)
		}
	}
	if _, ok := x.Take(num(7)); !ok {
		t.Error("Take")
	}
	if _, err := x.Put(of(num(-1), null)); err != api.OK || len(x.Rows()) != api.MaxRows {
		t.Error(err)
	}
	x.Clear()
	if s.Len() != 0 {
		t.Error(s.Len())
	}
}

// Two tables of a store share nothing, even if their names are alike.
func TestApart(t *testing.T) {
	s := cell.New()
	a, b := made(s, "a", "ii", 0), made(s, "a0", "ii", 0)
	for i := range int64(20) {
		a.Put(of(num(i), num(1)))
		b.Put(of(num(i), num(2)))
	}
	a.Clear()
	if len(a.Rows()) != 0 || len(b.Rows()) != 20 {
		t.Error(a.Rows(), b.Rows())
	}
	sameCells(t, s, cells(b, b.Rows()))
	// What is told can be changed.
	b.Rows()[0][0] = num(55)
	if r, _ := b.Get(num(3)); true {
		r[1] = num(9)
	}
	if r, ok := b.Get(num(3)); !ok || r[1] != num(2) || b.Rows()[0][0] != num(0) {
		t.Error(r, ok)
	}
}
