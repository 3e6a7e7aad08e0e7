package audit_test

import (
	"strings"
	"testing"

	"regrater/audit"
	"regrater/cell"
	"regrater/node"
	"regrater/trace"
)

func call(arg string) node.Call { return node.Call{Kind: 1, Arg: arg} }

// code reads and does what its cell says: a word of one letter is a call, another one a cell.
func code(x *trace.Run, c node.Call) string {
	told := c.Arg
	for _, word := range strings.Fields(x.Read("code " + c.Arg)) {
		if len(word) == 1 {
			told += x.Do(call(word))
		} else {
			told += x.Read(word)
		}
	}
	return told
}

func start(s *cell.Store, owner int) *trace.Trace {
	t := trace.New(s, code, owner)
	t.Start(call("a"))
	return t
}

// store in which a does b and c and b again, b does d, and c does d: six reads of codes, and three others.
func store() *cell.Store {
	s := cell.New()
	s.Set("code a", "b c b xx")
	s.Set("code b", "xx d yy")
	s.Set("code c", "d")
	s.Set("xx", "1")
	return s
}

// P13.1: the example of the chapter, and sizes.
func TestMeasure(t *testing.T) {
	if got := audit.Measure(nil); got != (audit.Size{}) {
		t.Error(got)
	}
	s := store()
	tr := trace.New(s, code, 0)
	if got := audit.Measure(tr); got != (audit.Size{}) {
		t.Error(got)
	}
	tr.Start(call("a"))
	if got := audit.Measure(tr); got != (audit.Size{Nodes: 5, Reads: 8, Depth: 3}) {
		t.Error(got)
	}
	tr.Start(call("z"))
	if got := audit.Measure(tr); got != (audit.Size{Nodes: 1, Reads: 1, Depth: 1}) {
		t.Error(got)
	}
}

// P13.1: traces are the same if all of their nodes are.
func TestSame(t *testing.T) {
	s := store()
	a := start(s, 0)
	if !audit.Same(a, start(s, 1)) || !audit.Same(a, a) || !audit.Same(a, start(store(), 0)) {
		t.Error("not the same")
	}
	var none *trace.Trace
	if !audit.Same(none, none) || !audit.Same(none, trace.New(s, code, 0)) || audit.Same(a, none) || audit.Same(none, a) {
		t.Error("of none")
	}
	for _, c := range []struct{ name, text string }{
		{"xx", "2"},              // other results
		{"code a", "b c b"},      // fewer reads
		{"code a", "c b xx"},     // another order of nodes
		{"code a", "b c b e xx"}, // a node more
		{"code b", "yy xx d"},    // another order of reads
		{"code d", "yy"},         // a read more, of an empty cell
		{"code c", "d e"},        // a node more, below
		{"code b", "d xx"},       // a read less, of an empty cell
		{"code a", "b d c xx"},   // a node more, at another depth
	} {
		s := store()
		s.Set(c.name, c.text)
		if b := start(s, 0); audit.Same(a, b) || audit.Same(b, a) {
			t.Error("the same:", c)
		}
	}
	// Other calls, with the same results and reads.
	plain := func(x *trace.Run, c node.Call) string { return x.Read("p") }
	b, c := trace.New(s, plain, 0), trace.New(s, plain, 1)
	b.Start(call("a"))
	c.Start(call("b"))
	if audit.Same(b, c) {
		t.Error("the same calls")
	}
	c.Start(node.Call{Kind: 2, Arg: "a"})
	if audit.Same(b, c) {
		t.Error("the same kinds")
	}
	c.Start(call("a"))
	if !audit.Same(b, c) {
		t.Error("not the same")
	}
	// The same nodes in the same order, at other depths.
	deep := func(of string) trace.Code {
		return func(x *trace.Run, c node.Call) string {
			for _, arg := range strings.Fields(map[string]string{"chain a": "b", "chain b": "c", "flat a": "b c"}[of+" "+c.Arg]) {
				x.Do(call(arg))
			}
			return ""
		}
	}
	b, c = trace.New(s, deep("chain"), 0), trace.New(s, deep("flat"), 1)
	b.Start(call("a"))
	c.Start(call("a"))
	if audit.Same(b, c) {
		t.Error("the same depths")
	}
}

// P13.1: only what All tells matters, not how the trace came to it.
func TestSameAfterPropagation(t *testing.T) {
	s := store()
	a := start(s, 0)
	for _, text := range []string{"c b", "", "b c b xx"} {
		for _, who := range s.Set("code a", text) {
			a.Touch(who)
		}
		if audit.Same(a, start(s, 1)) {
			t.Error("touched only")
		}
		a.Propagate(100)
		b := start(s, 2)
		if !audit.Same(a, b) {
			t.Error(text)
		}
	}
}

// P13.2: watchers are as many as readers.
func TestSound(t *testing.T) {
	s := store()
	if !audit.Sound(s) || !audit.Sound(nil) || !audit.Sound(s, nil, nil) || !audit.Sound(nil, nil) {
		t.Error("without traces")
	}
	a, b := start(s, 0), start(s, 1)
	if !audit.Sound(s, a, b) || !audit.Sound(s, b, nil, a) {
		t.Error("with both")
	}
	if audit.Sound(s, a) || audit.Sound(s, b) || audit.Sound(s) || audit.Sound(s, a, b, b) || audit.Sound(nil, a) || audit.Sound(cell.New(), a, b) {
		t.Error("with others")
	}
	b.Stop()
	if !audit.Sound(s, a) || !audit.Sound(s, a, b) {
		t.Error("one was stopped")
	}
	// A watcher that is nobody, of a cell that is read or not.
	for _, name := range []string{"xx", "else"} {
		s.Watch(name, 5<<20)
		if audit.Sound(s, a) {
			t.Error("watched:", name)
		}
		s.Unwatch(name, 5<<20)
	}
	// As many watches in all, but of another cell.
	s.Unwatch("yy", s.Watched("yy")[0])
	if audit.Sound(s, a) {
		t.Error("a watch is missing")
	}
	s.Watch("else", 7)
	if audit.Sound(s, a) {
		t.Error("a watch of another cell")
	}
	s.Unwatch("else", 7)
	s.Watch("xx", 7)
	if audit.Sound(s, a) {
		t.Error("a watch of another cell that is read")
	}
}

// P13.2: no node does a call twice; the same call at other places does not count.
func TestTwice(t *testing.T) {
	s := store()
	s.Set("code e", "a")
	if n := audit.Twice(start(s, 0)); n != 0 {
		t.Error(n)
	}
	if n := audit.Twice(nil); n != 0 {
		t.Error(n)
	}
	chain := trace.New(s, func(x *trace.Run, c node.Call) string {
		if c.Kind < 4 {
			x.Do(node.Call{Kind: c.Kind + 1})
			x.Do(node.Call{Kind: 4})
			x.Do(node.Call{Kind: 4})
		}
		return ""
	}, 2)
	chain.Start(node.Call{})
	if n := audit.Twice(chain); n != 0 || chain.Live() != 8 {
		t.Error(n, chain.Live())
	}
}
