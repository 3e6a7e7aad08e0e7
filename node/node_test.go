package node_test

import (
	"math/rand/v2"
	"slices"
	"strconv"
	"testing"
	"time"

	"regrater/node"
)

func call(kind int, arg string) node.Call { return node.Call{Kind: kind, Arg: arg} }

// open a node that must be numbered so.
func open(t *testing.T, tr *node.Tree, parent, ahead int, c node.Call, want int) {
	t.Helper()
	if n, ok := tr.Open(parent, ahead, c); n != want || !ok {
		t.Fatalf("Open(%d, %d) = %d, %v; want %d", parent, ahead, n, ok, want)
	}
}

type visit struct{ n, depth int }

func all(tr *node.Tree) []visit {
	var l []visit
	for n, depth := range tr.All() {
		l = append(l, visit{n, depth})
	}
	return l
}

// small: 0 has the children 1, 3, 2 in this order, 3 has 4; 5 is a root behind 0.
func small(t *testing.T) *node.Tree {
	tr := node.New()
	open(t, tr, -1, -1, call(0, "a"), 0)
	open(t, tr, 0, -1, call(1, "b"), 1)
	open(t, tr, 0, 1, call(1, "c"), 2)
	open(t, tr, 0, 1, call(1, "d"), 3)
	open(t, tr, 3, -1, call(2, "e"), 4)
	open(t, tr, -1, 0, call(0, "f"), 5)
	return tr
}

// P11.1, P11.2: the example of the chapter.
func TestExample(t *testing.T) {
	tr := node.New()
	if tr.Live() != 0 || len(all(tr)) != 0 || len(tr.Kids(-1)) != 0 {
		t.Error("new tree")
	}
	open(t, tr, -1, -1, call(0, "a"), 0)
	open(t, tr, 0, -1, call(0, "b"), 1)
	if !tr.Before(1, 0) || tr.Before(0, 1) || tr.Before(0, 0) {
		t.Error("Before")
	}
}

// P11.1: where nodes come to stand.
func TestOpen(t *testing.T) {
	tr := small(t)
	if !slices.Equal(all(tr), []visit{{0, 0}, {1, 1}, {3, 1}, {4, 2}, {2, 1}, {5, 0}}) {
		t.Error(all(tr))
	}
	if !slices.Equal(tr.Kids(0), []int{1, 3, 2}) || !slices.Equal(tr.Kids(-1), []int{0, 5}) || len(tr.Kids(4)) != 0 {
		t.Error(tr.Kids(0), tr.Kids(-1), tr.Kids(4))
	}
	ends := []int{1, 4, 3, 2, 0, 5}
	for i, a := range ends {
		for j, b := range ends {
			if tr.Before(a, b) != (i < j) {
				t.Error("Before", a, b)
			}
		}
	}
	for _, c := range [][2]int{{6, -1}, {-2, -1}, {1 << 40, -1}, {0, 4}, {0, 0}, {0, 5}, {0, 6}, {0, -2}, {-1, 1}, {-1, -2}, {3, 1}, {4, 4}} {
		if n, ok := tr.Open(c[0], c[1], call(9, "z")); ok || n != 0 {
			t.Error("Open", c, n, ok)
		}
	}
	if tr.Live() != 6 {
		t.Error("Live", tr.Live())
	}
	open(t, tr, -1, -1, call(0, "g"), 6)
	if !slices.Equal(tr.Kids(-1), []int{6, 0, 5}) {
		t.Error(tr.Kids(-1))
	}
}

// P11.1: a node that is moved takes along all below it.
func TestMove(t *testing.T) {
	tr := small(t)
	for _, c := range [][2]int{{6, -1}, {-1, -1}, {1, 1}, {1, 0}, {1, 4}, {1, 5}, {1, 9}, {1, -2}, {4, 1}, {0, 1}, {5, 5}} {
		if tr.Move(c[0], c[1]) {
			t.Error("Move", c)
		}
	}
	for _, c := range []struct {
		n, ahead int
		kids     []int
	}{
		{3, 1, []int{1, 3, 2}}, // there already
		{3, 2, []int{1, 2, 3}},
		{3, -1, []int{3, 1, 2}},
		{2, 3, []int{3, 2, 1}},
		{3, 1, []int{2, 1, 3}},
	} {
		if !tr.Move(c.n, c.ahead) || !slices.Equal(tr.Kids(0), c.kids) {
			t.Fatal("Move", c, tr.Kids(0))
		}
		for i, a := range c.kids {
			for j, b := range c.kids {
				if tr.Before(a, b) != (i < j) {
					t.Error("Before", a, b)
				}
			}
		}
		if !tr.Before(4, 3) || tr.Before(3, 4) || tr.Before(4, 2) != tr.Before(3, 2) {
			t.Error("below a moved node")
		}
	}
	if !tr.Move(5, -1) || !slices.Equal(tr.Kids(-1), []int{5, 0}) || !tr.Before(5, 1) {
		t.Error("roots", tr.Kids(-1))
	}
}

// P11.1: Drop, in which order the nodes are gone, and in which their numbers come again.
func TestDrop(t *testing.T) {
	tr := small(t)
	open(t, tr, 3, 4, call(2, "g"), 6)
	open(t, tr, 4, -1, call(2, "h"), 7)
	for _, n := range []int{8, -1, 1 << 40} {
		if l := tr.Drop(n); len(l) != 0 {
			t.Error("Drop", n, l)
		}
	}
	if l := tr.Drop(3); !slices.Equal(l, []int{7, 4, 6, 3}) {
		t.Error(l)
	}
	if !slices.Equal(tr.Kids(0), []int{1, 2}) || tr.Live() != 4 || tr.Before(4, 0) || tr.Before(1, 4) {
		t.Error(tr.Kids(0), tr.Live())
	}
	for _, n := range []int{3, 4, 6, 7} {
		if _, ok := tr.Get(n); ok {
			t.Error(n, "is still there")
		}
	}
	for _, n := range []int{3, 6, 4, 7, 8} {
		open(t, tr, -1, -1, call(0, ""), n)
	}
	if l := tr.Drop(0); !slices.Equal(l, []int{1, 2, 0}) {
		t.Error(l)
	}
}

// P11.2: what a node holds.
func TestGet(t *testing.T) {
	tr := small(t)
	x, ok := tr.Get(3)
	if !ok || x.Call != call(1, "d") || x.Result != "" || len(x.Reads) != 0 {
		t.Error(x, ok)
	}
	reads := []string{"p", "q"}
	if !tr.Set(3, "told", reads) {
		t.Error("Set")
	}
	reads[0] = "z"
	x, _ = tr.Get(3)
	if x.Kind != 1 || x.Arg != "d" || x.Result != "told" || !slices.Equal(x.Reads, []string{"p", "q"}) {
		t.Error(x)
	}
	x.Reads[1] = "z"
	if x, _ = tr.Get(3); !slices.Equal(x.Reads, []string{"p", "q"}) {
		t.Error(x)
	}
	for n, want := range map[int]int{0: -1, 5: -1, 1: 0, 4: 3} {
		if p, ok := tr.Parent(n); p != want || !ok {
			t.Error("Parent", n, p, ok)
		}
	}
	for _, n := range []int{-1, 6, -1 << 63} {
		if x, ok := tr.Get(n); ok || x.Call != call(0, "") || x.Result != "" || len(x.Reads) != 0 {
			t.Error("Get", n)
		}
		if p, ok := tr.Parent(n); ok || p != 0 || tr.Set(n, "x", nil) || tr.Before(n, 0) || tr.Before(0, n) {
			t.Error("a node:", n)
		}
		if n != -1 && len(tr.Kids(n)) != 0 {
			t.Error("Kids", n)
		}
	}
	// What is opened where another node was has nothing of that one.
	tr.Drop(3)
	open(t, tr, 0, -1, call(7, "n"), 3)
	if x, _ = tr.Get(3); x.Result != "" || len(x.Reads) != 0 || x.Call != call(7, "n") {
		t.Error(x)
	}
}

// P11.2: Find tells the first child of a call.
func TestFind(t *testing.T) {
	tr := small(t)
	open(t, tr, 0, 2, call(1, "d"), 6)
	open(t, tr, 0, -1, call(1, "c"), 7)
	for _, c := range []struct {
		parent int
		c      node.Call
		want   int
	}{{0, call(1, "d"), 3}, {0, call(1, "c"), 7}, {-1, call(0, "f"), 5}, {3, call(2, "e"), 4}} {
		if n, ok := tr.Find(c.parent, c.c); n != c.want || !ok {
			t.Error("Find", c, n, ok)
		}
	}
	for _, c := range []struct {
		parent int
		c      node.Call
	}{{0, call(2, "d")}, {0, call(1, "e")}, {-1, call(1, "b")}, {9, call(1, "b")}, {1, call(1, "b")}, {-2, call(0, "a")}} {
		if n, ok := tr.Find(c.parent, c.c); n != 0 || ok {
			t.Error("Find", c, n, ok)
		}
	}
	tr.Move(6, -1)
	if n, _ := tr.Find(0, call(1, "d")); n != 6 {
		t.Error("after Move", n)
	}
	tr.Drop(6)
	if n, _ := tr.Find(0, call(1, "d")); n != 3 {
		t.Error("after Drop", n)
	}
	tr.Drop(3)
	if _, ok := tr.Find(0, call(1, "d")); ok {
		t.Error("after all were dropped")
	}
}

// A model of trees: children in slices.
type model struct {
	kids  map[int][]int // of -1, too
	up    map[int]int
	calls map[int]node.Call
	freed []int
}

func (m *model) below(n int) []int {
	var l []int
	for _, k := range m.kids[n] {
		l = append(l, m.below(k)...)
	}
	return append(l, n)
}

func (m *model) all(n, depth int) []visit {
	var l []visit
	for _, k := range m.kids[n] {
		l = append(append(l, visit{k, depth}), m.all(k, depth+1)...)
	}
	return l
}

func (m *model) next() int {
	if len(m.freed) > 0 {
		return m.freed[len(m.freed)-1]
	}
	return len(m.up)
}

// pick a child of a parent, or -1.
func (m *model) pick(r *rand.Rand, parent int) int {
	if i := r.IntN(len(m.kids[parent]) + 1); i > 0 {
		return m.kids[parent][i-1]
	}
	return -1
}

func put(l []int, n, ahead int) []int { return slices.Insert(l, slices.Index(l, ahead)+1, n) }

func without(l []int, n int) []int { return slices.DeleteFunc(l, func(m int) bool { return m == n }) }

// step does something to both trees.
func (m *model) step(t *testing.T, tr *node.Tree, r *rand.Rand) {
	parent := -1
	for r.IntN(4) > 0 {
		if k := m.pick(r, parent); k >= 0 {
			parent = k
		}
	}
	n, ahead := m.pick(r, parent), m.pick(r, parent)
	switch what := r.IntN(10); {
	case what < 5:
		c, want := call(r.IntN(2), strconv.Itoa(r.IntN(2))), m.next()
		open(t, tr, parent, ahead, c, want)
		m.freed = m.freed[:max(0, len(m.freed)-1)]
		m.kids[parent] = put(m.kids[parent], want, ahead)
		m.up[want], m.calls[want] = parent, c
	case what < 8:
		if tr.Move(n, ahead) != (n >= 0 && n != ahead) {
			t.Fatal("Move", n, ahead)
		}
		if n >= 0 && n != ahead {
			m.kids[parent] = put(without(m.kids[parent], n), n, ahead)
		}
	case n >= 0:
		want := m.below(n)
		if got := tr.Drop(n); !slices.Equal(got, want) {
			t.Fatal("Drop", n, got, want)
		}
		m.kids[parent] = without(m.kids[parent], n)
		m.freed = append(m.freed, want...)
		for _, k := range want {
			delete(m.kids, k)
		}
	}
}

// P11.1, P11.2: against the model.
func TestModel(t *testing.T) {
	for seed := range uint64(5) {
		r := rand.New(rand.NewPCG(11, seed))
		m := &model{map[int][]int{}, map[int]int{}, map[int]node.Call{}, nil}
		tr := node.New()
		for range 800 {
			m.step(t, tr, r)
			want := m.all(-1, 0)
			if !slices.Equal(all(tr), want) || tr.Live() != len(want) {
				t.Fatal("All", all(tr), want)
			}
			var ends []int
			for _, root := range m.kids[-1] {
				ends = append(ends, m.below(root)...)
			}
			for i := range ends {
				if i > 0 && (!tr.Before(ends[i-1], ends[i]) || tr.Before(ends[i], ends[i-1])) {
					t.Fatal("Before", ends[i-1], ends[i])
				}
				if p, ok := tr.Parent(ends[i]); !ok || p != m.up[ends[i]] {
					t.Fatal("Parent", ends[i])
				}
			}
			for n := range append(ends, -1) {
				c := call(r.IntN(2), strconv.Itoa(r.IntN(2)))
				i := slices.IndexFunc(m.kids[n], func(k int) bool { return m.calls[k] == c })
				if got, ok := tr.Find(n, c); ok != (i >= 0) || ok && got != m.kids[n][i] {
					t.Fatal("Find", n, got)
				}
				if !slices.Equal(tr.Kids(n), m.kids[n]) {
					t.Fatal("Kids", n)
				}
			}
		}
	}
}

// Many nodes, side by side or one in another, take few steps each.
func TestMany(t *testing.T) {
	done := make(chan int)
	go func() {
		defer close(done)
		const many = 100000
		wide, deep := node.New(), node.New()
		wide.Open(-1, -1, call(0, ""))
		ahead := -1
		for i := range many {
			ahead, _ = wide.Open(0, ahead, call(1, strconv.Itoa(i)))
			deep.Open(i-1, -1, call(1, ""))
		}
		for i := range many {
			if n, ok := wide.Find(0, call(1, strconv.Itoa(i))); !ok || n != i+1 {
				t.Error("Find", i, n, ok)
				return
			}
		}
		last := 0
		for n, depth := range deep.All() {
			if depth != n {
				t.Error("depth", n, depth)
				return
			}
			last = depth
		}
		if last != many-1 || len(deep.Drop(0)) != many || len(wide.Drop(0)) != many+1 {
			t.Error("Drop", last)
		}
	}()
	select {
	case <-done:
	case <-time.After(time.Minute):
		t.Fatal("too many steps")
	}
}

// P11.1: however often nodes are opened, moved and dropped, there is room for more.
func TestAgain(t *testing.T) {
	tr := node.New()
	open(t, tr, -1, -1, call(0, ""), 0)
	open(t, tr, 0, -1, call(0, ""), 1)
	open(t, tr, 0, 1, call(0, ""), 2)
	for i := range 1 << 20 {
		if n, ok := tr.Open(i%3, -1, call(1, "")); n != 3 || !ok {
			t.Fatal("Open", i, n, ok)
		}
		if !tr.Move(1, []int{2, -1}[i%2]) || tr.Before(2, 1) != (i%2 == 0) || tr.Before(1, 2) == tr.Before(2, 1) {
			t.Fatal("Move", i)
		}
		if len(tr.Drop(3)) != 1 || tr.Live() != 3 {
			t.Fatal("Drop", i)
		}
	}
}

// P11.2: All can be ended early and begins anew each time.
func TestAll(t *testing.T) {
	nodes := small(t).All()
	for _, count := range []int{1, 4, 6} {
		var got []int
		for n := range nodes {
			got = append(got, n)
			if len(got) == count {
				break
			}
		}
		if !slices.Equal(got, []int{0, 1, 3, 4, 2, 5}[:count]) {
			t.Error(got)
		}
	}
}

// P11.2: a nil tree.
func TestNil(t *testing.T) {
	var tr *node.Tree
	if n, ok := tr.Open(-1, -1, call(0, "")); ok || n != 0 {
		t.Error("Open")
	}
	if _, ok := tr.Get(0); ok {
		t.Error("Get")
	}
	if n, ok := tr.Parent(0); ok || n != 0 {
		t.Error("Parent")
	}
	if n, ok := tr.Find(-1, call(0, "")); ok || n != 0 {
		t.Error("Find")
	}
	if tr.Move(0, -1) || tr.Set(0, "", nil) || tr.Before(0, 1) || tr.Live() != 0 || len(tr.Drop(0)) != 0 || len(tr.Kids(-1)) != 0 || len(all(tr)) != 0 {
		t.Error("not empty")
	}
}
