package trace_test

import (
	"slices"

	"regrater/node"
)

// A node of the model, which does plainly what the chapter says.
type mnode struct {
	number int
	call   node.Call
	result string
	reads  []string
	up     *mnode
	kids   []*mnode
	dirty  bool
}

// A run that both the trace and the model have: what code may do.
type run interface {
	Read(name string) string
	Do(c node.Call) string
}

type model struct {
	texts               map[string]string
	code                func(x run, c node.Call) string
	owner               int
	root                *mnode
	freed               []int
	used                int
	runs, made, dropped int
}

type mrun struct {
	m     *model
	n     *mnode
	reads []string
	old   []*mnode // children that were not done yet
	done  []*mnode
}

func (x *mrun) Read(name string) string {
	if !slices.Contains(x.reads, name) {
		x.reads = append(x.reads, name)
	}
	return x.m.texts[name]
}

func (x *mrun) Do(c node.Call) string {
	is := func(k *mnode) bool { return k.call == c }
	if i := slices.IndexFunc(x.done, is); i >= 0 {
		return x.done[i].result
	}
	if i := slices.IndexFunc(x.old, is); i >= 0 {
		x.done = append(x.done, x.old[i])
		x.old = slices.Delete(x.old, i, i+1)
		return x.done[len(x.done)-1].result
	}
	k := x.m.open(x.n, c)
	x.done = append(x.done, k)
	x.m.run(k)
	return k.result
}

func (m *model) open(up *mnode, c node.Call) *mnode {
	k := &mnode{number: m.used, call: c, up: up}
	if n := len(m.freed); n > 0 {
		k.number = m.freed[n-1]
		m.freed = m.freed[:n-1]
	} else {
		m.used++
	}
	m.made++
	return k
}

func (m *model) run(n *mnode) {
	m.runs++
	x := &mrun{m: m, n: n, old: slices.Clone(n.kids)}
	n.result = m.code(x, n.call)
	n.reads, n.kids, n.dirty = x.reads, x.done, false
	for _, k := range x.old {
		m.drop(k)
	}
}

func (m *model) drop(n *mnode) {
	for _, k := range n.kids {
		m.drop(k)
	}
	m.freed = append(m.freed, n.number)
	m.dropped++
}

func (m *model) start(c node.Call) string {
	m.stop()
	m.root = m.open(nil, c)
	m.run(m.root)
	return m.root.result
}

func (m *model) stop() {
	if m.root != nil {
		m.drop(m.root)
	}
	m.root = nil
}

// nodes in the order of their ends, or of their beginnings.
func (m *model) nodes(ends bool) []*mnode {
	var l []*mnode
	var visit func(n *mnode)
	visit = func(n *mnode) {
		if !ends {
			l = append(l, n)
		}
		for _, k := range n.kids {
			visit(k)
		}
		if ends {
			l = append(l, n)
		}
	}
	if m.root != nil {
		visit(m.root)
	}
	return l
}

func (m *model) propagate(budget int) (int, bool) {
	for steps := 0; ; steps++ {
		l := m.nodes(true)
		i := slices.IndexFunc(l, func(n *mnode) bool { return n.dirty })
		if i < 0 || steps >= budget {
			return steps, i < 0
		}
		was := l[i].result
		m.run(l[i])
		if l[i].result != was && l[i].up != nil {
			l[i].up.dirty = true
		}
	}
}

// watchers of a cell.
func (m *model) watchers(name string) []int {
	var l []int
	for _, n := range m.nodes(true) {
		if slices.Contains(n.reads, name) {
			l = append(l, m.owner<<20+n.number)
		}
	}
	slices.Sort(l)
	return l
}
