package trace_test

import (
	"math"
	"math/rand/v2"
	"slices"
	"strconv"
	"strings"
	"testing"

	"regrater/cell"
	"regrater/node"
	"regrater/trace"
)

func call(kind int, arg string) node.Call { return node.Call{Kind: kind, Arg: arg} }

// watch tells the watchers of a change to a trace.
func touch(t *testing.T, tr *trace.Trace, whos []int) {
	t.Helper()
	for _, who := range whos {
		if !tr.Touch(who) {
			t.Error("Touch", who)
		}
	}
}

type line struct {
	node.Call
	result, reads string
	depth         int
}

func lines(tr *trace.Trace) []line {
	var l []line
	for n, depth := range tr.All() {
		l = append(l, line{n.Call, n.Result, strings.Join(n.Reads, " "), depth})
	}
	return l
}

// P12.1, P12.2: the example of the chapter.
func TestExample(t *testing.T) {
	s := cell.New()
	s.Set("a", "x")
	tr := trace.New(s, func(x *trace.Run, c node.Call) string { return x.Read("a") }, 3)
	if _, ok := tr.Result(); ok || tr.Live() != 0 || tr.Dirty() != 0 || s.Watches() != 0 {
		t.Error("a new trace has nodes")
	}
	if got := tr.Start(call(0, "")); got != "x" {
		t.Error(got)
	}
	if got := s.Watched("a"); !slices.Equal(got, []int{3 << 20}) {
		t.Error(got)
	}
	touch(t, tr, s.Set("a", "y"))
	if result, ok := tr.Result(); !ok || result != "x" || tr.Dirty() != 1 {
		t.Error("touched:", result, ok)
	}
	if n, ok := tr.Propagate(9); n != 1 || !ok {
		t.Error("Propagate", n, ok)
	}
	if result, ok := tr.Result(); !ok || result != "y" || tr.Dirty() != 0 {
		t.Error("propagated:", result, ok)
	}
	if n, ok := tr.Propagate(9); n != 0 || !ok {
		t.Error("Propagate again", n, ok)
	}
}

// interpret is code that does what the cell of its call says: r reads, d does, and u does only if something was read so far.
// A call does only calls of lower kinds.
func interpret(x run, c node.Call) string {
	told := ""
	for _, word := range strings.Fields(x.Read("code" + c.Arg)) {
		arg := word[1:]
		switch {
		case word[0] == 'r':
			told += x.Read(arg)
		case word[0] == 'u' && !strings.Contains(told, "1"):
		case c.Kind > 0:
			told += "(" + x.Do(call(c.Kind-1, arg)) + ")"
		}
	}
	if strings.HasPrefix(c.Arg, "c") { // tells less than it knows
		return told[:min(1, len(told))]
	}
	return told
}

var args = []string{"a1", "a2", "b1", "b2", "c1", "c2"}

func program(r *rand.Rand) string {
	var words []string
	for range r.IntN(5) {
		switch r.IntN(3) {
		case 0:
			words = append(words, "r"+strconv.Itoa(r.IntN(3)))
		case 1:
			words = append(words, "d"+args[r.IntN(len(args))])
		case 2:
			words = append(words, "u"+args[r.IntN(len(args))])
		}
	}
	return strings.Join(words, " ")
}

type pair struct {
	s *cell.Store
	t *trace.Trace
	m *model
}

func (p *pair) set(t *testing.T, name, text string) {
	for _, n := range p.m.nodes(true) {
		if p.m.texts[name] != text && slices.Contains(n.reads, name) {
			n.dirty = true
		}
	}
	p.m.texts[name] = text
	touch(t, p.t, p.s.Set(name, text))
}

// check holds the trace against the model.
func (p *pair) check(t *testing.T) {
	t.Helper()
	l, dirty, watches := []line(nil), 0, 0
	for _, n := range p.m.nodes(false) {
		depth := 0
		for up := n.up; up != nil; up = up.up {
			depth++
		}
		l = append(l, line{n.call, n.result, strings.Join(n.reads, " "), depth})
		watches += len(n.reads)
		if n.dirty {
			dirty++
		}
	}
	if got := lines(p.t); !slices.Equal(got, l) || p.t.Live() != len(l) {
		t.Fatal("nodes", got, l)
	}
	if p.t.Dirty() != dirty {
		t.Fatal("Dirty", p.t.Dirty(), dirty)
	}
	runs, made, dropped := p.t.Counts()
	if runs != p.m.runs || made != p.m.made || dropped != p.m.dropped {
		t.Fatal("Counts", runs, made, dropped, "want", p.m.runs, p.m.made, p.m.dropped)
	}
	if p.s.Watches() != watches {
		t.Fatal("Watches", p.s.Watches(), watches)
	}
	for _, n := range p.m.nodes(true) {
		for _, name := range n.reads {
			if !slices.Equal(p.s.Watched(name), p.m.watchers(name)) {
				t.Fatal("Watched", name, p.s.Watched(name), p.m.watchers(name))
			}
		}
	}
	result, ok := p.t.Result()
	if ok != (p.m.root != nil) || ok && result != p.m.root.result {
		t.Fatal("Result", result, ok)
	}
}

// P12.1 to P12.4: against the model, over programs that change.
func TestModel(t *testing.T) {
	for seed := range uint64(12) {
		r := rand.New(rand.NewPCG(12, seed))
		p := &pair{s: cell.New()}
		p.m = &model{texts: map[string]string{}, code: interpret, owner: int(seed)}
		code := func(x *trace.Run, c node.Call) string { return interpret(x, c) }
		p.t = trace.New(p.s, code, int(seed))
		p.check(t)
		for range 400 {
			switch what := r.IntN(20); {
			case what < 6:
				p.set(t, "code"+args[r.IntN(len(args))], program(r))
			case what < 10:
				p.set(t, strconv.Itoa(r.IntN(3)), []string{"", "1", "2", "x"}[r.IntN(4)])
			case what < 19:
				budget := []int{-1, 0, 1, 2, 3, 1000}[r.IntN(6)]
				before := p.t.Dirty()
				runs, made, _ := p.t.Counts()
				n, ok := p.t.Propagate(budget)
				wantN, want := p.m.propagate(budget)
				if n != wantN || ok != want || ok != (p.t.Dirty() == 0) || n > max(0, budget) || before > 0 && budget > 0 && n == 0 {
					t.Fatal("Propagate", budget, n, ok, wantN, want)
				}
				if runs2, made2, _ := p.t.Counts(); runs2-runs != n+made2-made {
					t.Fatal("a node was run more than once")
				}
			case r.IntN(3) > 0:
				c := call(4, args[r.IntN(len(args))])
				if p.t.Start(c) != p.m.start(c) {
					t.Fatal("Start")
				}
			default:
				p.t.Stop()
				p.m.stop()
			}
			p.check(t)
		}
		if p.m.root == nil {
			continue
		}
		p.t.Propagate(math.MaxInt)
		p.m.propagate(math.MaxInt)
		p.check(t)
		fresh := trace.New(p.s, code, 999)
		fresh.Start(p.m.root.call)
		if !slices.Equal(lines(fresh), lines(p.t)) {
			t.Fatal("not like a new one")
		}
		fresh.Stop()
		p.check(t)
		p.t.Stop()
		if p.s.Watches() != 0 || p.t.Live() != 0 || p.t.Dirty() != 0 {
			t.Fatal("Stop")
		}
	}
}

// logged code: what ran.
func logged(log *[]string, code trace.Code) trace.Code {
	return func(x *trace.Run, c node.Call) string {
		*log = append(*log, strconv.Itoa(c.Kind)+c.Arg)
		return code(x, c)
	}
}

// tree: a root over two calls, each over two leaves, which read a cell of their own.
func tree(x *trace.Run, c node.Call) string {
	if c.Kind == 2 {
		return x.Read(c.Arg)
	}
	return x.Do(call(c.Kind+1, c.Arg+"0")) + x.Do(call(c.Kind+1, c.Arg+"1"))
}

// P12.2: only what read a changed cell is run again, and what is above it as far as results change; what ends first comes first.
func TestMinimal(t *testing.T) {
	s := cell.New()
	for i, name := range []string{"00", "01", "10", "11"} {
		s.Set(name, strconv.Itoa(i))
	}
	var log []string
	tr := trace.New(s, logged(&log, tree), 0)
	if got := tr.Start(call(0, "")); got != "0123" || !slices.Equal(log, []string{"0", "10", "200", "201", "11", "210", "211"}) {
		t.Error(got, log)
	}
	log = nil
	touch(t, tr, s.Set("11", "z"))
	touch(t, tr, s.Set("00", "y"))
	if n, ok := tr.Propagate(2); n != 2 || ok || tr.Dirty() != 2 {
		t.Error("Propagate(2)", n, ok)
	}
	if result, _ := tr.Result(); result != "0123" || !slices.Equal(log, []string{"200", "10"}) {
		t.Error(result, log)
	}
	if n, ok := tr.Propagate(100); n != 3 || !ok {
		t.Error("Propagate(100)", n, ok)
	}
	if result, _ := tr.Result(); result != "y12z" || !slices.Equal(log, []string{"200", "10", "211", "11", "0"}) {
		t.Error(result, log)
	}
	// Touched, though nothing has changed.
	log = nil
	touch(t, tr, s.Watched("01"))
	touch(t, tr, s.Watched("01"))
	if n, ok := tr.Propagate(100); n != 1 || !ok || !slices.Equal(log, []string{"201"}) {
		t.Error(n, ok, log)
	}
	if runs, made, dropped := tr.Counts(); runs != 13 || made != 7 || dropped != 0 {
		t.Error("Counts", runs, made, dropped)
	}
}

// P12.2: what is a node's watcher, and what is not.
func TestTouch(t *testing.T) {
	s := cell.New()
	tr := trace.New(s, tree, 5)
	tr.Start(call(0, ""))
	const first = 5 << 20
	for _, who := range []int{first - 1, first + 7, 0, 4<<20 + 1, 6 << 20, 6<<20 + 1, first + 1<<20, -1, math.MinInt, math.MaxInt} {
		if tr.Touch(who) {
			t.Error("Touch", who)
		}
	}
	if tr.Dirty() != 0 {
		t.Error("Dirty", tr.Dirty())
	}
	for i := range 7 {
		if !tr.Touch(first+i) || tr.Dirty() != i+1 || !tr.Touch(first+i) || tr.Dirty() != i+1 {
			t.Error("Touch", i, tr.Dirty())
		}
	}
	// Nodes that are dropped are not dirty.
	tr.Stop()
	if tr.Dirty() != 0 || tr.Live() != 0 || s.Watches() != 0 || tr.Touch(first) {
		t.Error("after Stop", tr.Dirty(), tr.Live())
	}
	if _, ok := tr.Result(); ok {
		t.Error("a result after Stop")
	}
	if n, ok := tr.Propagate(1); n != 0 || !ok {
		t.Error("Propagate", n, ok)
	}
}

// P12.1: what was done already in a run is not done again; children are reused, moved and dropped.
func TestReuse(t *testing.T) {
	s := cell.New()
	s.Set("order", "a b a c")
	var log []string
	code := func(x *trace.Run, c node.Call) string {
		if c.Kind == 1 {
			return x.Read(c.Arg) + x.Read(c.Arg) + c.Arg
		}
		told := ""
		for _, arg := range strings.Fields(x.Read("order")) {
			told += x.Do(call(1, arg))
		}
		return told
	}
	tr := trace.New(s, logged(&log, code), 1)
	if got := tr.Start(call(0, "")); got != "abac" || !slices.Equal(log, []string{"0", "1a", "1b", "1c"}) {
		t.Error(got, log)
	}
	for _, c := range []struct {
		order, told string
		ran         []string
		kids        string
	}{
		{"c a b", "cab", []string{"0"}, "cab"},
		{"a d c", "adc", []string{"0", "1d"}, "adc"},
		{"", "", []string{"0"}, ""},
		{"b", "b", []string{"0", "1b"}, "b"},
	} {
		log = nil
		touch(t, tr, s.Set("order", c.order))
		if n, ok := tr.Propagate(10); n != 1 || !ok || !slices.Equal(log, c.ran) {
			t.Error(c, n, ok, log)
		}
		if result, _ := tr.Result(); result != c.told {
			t.Error(c, result)
		}
		kids := ""
		for n, depth := range tr.All() {
			if depth == 1 {
				kids += n.Arg
				if !slices.Equal(n.Reads, []string{n.Arg}) || len(s.Watched(n.Arg)) != 1 {
					t.Error("Reads", n)
				}
			}
		}
		if kids != c.kids || s.Watches() != len(kids)+1 || tr.Live() != len(kids)+1 {
			t.Error(c, kids, s.Watches())
		}
	}
	if runs, made, dropped := tr.Counts(); runs != 10 || made != 6 || dropped != 4 {
		t.Error("Counts", runs, made, dropped)
	}
}

// P12.1: cells that are not read any more are not watched.
func TestUnwatch(t *testing.T) {
	s := cell.New()
	s.Set("which", "a")
	tr := trace.New(s, func(x *trace.Run, c node.Call) string { return x.Read(x.Read("which")) }, 0)
	tr.Start(call(0, ""))
	touch(t, tr, s.Set("which", "b"))
	tr.Propagate(1)
	if len(s.Watched("a")) != 0 || len(s.Watched("b")) != 1 || s.Watches() != 2 {
		t.Error(s.Watched("a"), s.Watched("b"))
	}
	for n := range tr.All() {
		if !slices.Equal(n.Reads, []string{"which", "b"}) {
			t.Error(n.Reads)
		}
	}
}

// P12.2: a budget that ends between nodes, and cells that change meanwhile.
func TestBudget(t *testing.T) {
	s := cell.New()
	tr := trace.New(s, tree, 0)
	tr.Start(call(0, ""))
	steps := 0
	for i := range 40 {
		touch(t, tr, s.Set([]string{"00", "01", "10", "11"}[i%4], strconv.Itoa(i)))
		for _, budget := range []int{0, -5, 1} {
			n, ok := tr.Propagate(budget)
			if steps += n; n > max(budget, 0) || ok != (tr.Dirty() == 0) {
				t.Error(budget, n, ok)
			}
		}
	}
	if steps != 40 {
		t.Error(steps)
	}
	tr.Propagate(1000)
	fresh := trace.New(s, tree, 1)
	fresh.Start(call(0, ""))
	if !slices.Equal(lines(fresh), lines(tr)) {
		t.Error(lines(tr))
	}
}

// P12.1: Start performs Stop; two traces watch as two owners.
func TestStart(t *testing.T) {
	s := cell.New()
	a, b := trace.New(s, tree, 0), trace.New(s, tree, 1000)
	a.Start(call(0, ""))
	b.Start(call(0, ""))
	if got := s.Watched("01"); len(got) != 2 || got[0] != 3 || got[1] != 1000<<20+3 {
		t.Error(got)
	}
	touch(t, a, []int{3})
	a.Start(call(1, "z"))
	if a.Live() != 3 || a.Dirty() != 0 || s.Watches() != 6 {
		t.Error(a.Live(), a.Dirty(), s.Watches())
	}
	if runs, made, dropped := a.Counts(); runs != 10 || made != 10 || dropped != 7 {
		t.Error(runs, made, dropped)
	}
	a.Stop()
	a.Stop()
	if b.Live() != 7 || s.Watches() != 4 {
		t.Error(b.Live(), s.Watches())
	}
}

// P12.3: All can be ended early and begins anew each time; what it tells can be changed.
func TestAll(t *testing.T) {
	tr := trace.New(cell.New(), tree, 0)
	tr.Start(call(0, ""))
	nodes := tr.All()
	for _, count := range []int{1, 3, 7} {
		var args []string
		for n := range nodes {
			for i := range n.Reads {
				n.Reads[i] = "changed"
			}
			args = append(args, n.Arg)
			if len(args) == count {
				break
			}
		}
		if !slices.Equal(args, []string{"", "0", "00", "01", "1", "10", "11"}[:count]) {
			t.Error(args)
		}
	}
	for n := range nodes {
		if slices.Contains(n.Reads, "changed") {
			t.Error(n)
		}
	}
}

// P12.3: a nil trace.
func TestNil(t *testing.T) {
	var tr *trace.Trace
	tr.Stop()
	if result, ok := tr.Result(); ok || result != "" || tr.Start(call(0, "")) != "" {
		t.Error("a result")
	}
	if n, ok := tr.Propagate(5); n != 0 || ok {
		t.Error("Propagate", n, ok)
	}
	runs, made, dropped := tr.Counts()
	if tr.Touch(0) || tr.Dirty() != 0 || tr.Live() != 0 || runs+made+dropped != 0 || len(lines(tr)) != 0 {
		t.Error("nodes")
	}
}
