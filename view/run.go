package view

import (
	"slices"
	"strconv"

	"regrater/api"
	"regrater/catalog"
	"regrater/cell"
	"regrater/fold"
	"regrater/node"
	"regrater/pack"
	"regrater/plan"
	"regrater/row"
	"regrater/table"
	"regrater/trace"
	"regrater/trie"
	"regrater/value"
)

// The kinds of calls.
const (
	whole  = iota // all cores
	core          // one of them
	keys          // of a node of the trie of its left table
	single        // row of that table
	pair          // of a row of each table
)

// What a view's code reads.
type source struct {
	store *cell.Store
	seed  uint64
	cores []plan.Core
}

func (s source) table(t catalog.Table) table.Table {
	return table.Table{Store: s.store, Seed: s.seed, Table: t}
}

// A run of a call of a view's code.
type run struct {
	*trace.Run
	source
}

// ask for the part that another call tells.
func (r *run) ask(kind int, arg string) fold.Part {
	p, _ := fold.Unpack(r.Do(node.Call{Kind: kind, Arg: arg}))
	return p
}

// part that a call tells; one that is none of this code's comes to nothing.
func (r *run) part(c node.Call) fold.Part {
	if c.Kind == whole {
		return r.whole()
	}
	l := []string{c.Arg}
	if c.Kind != core {
		l, _ = pack.Split(c.Arg)
	}
	i, ok := r.index(l)
	switch {
	case !ok:
		return fold.Part{}
	case c.Kind == core:
		return fold.Close(r.cores[i], r.ask(keys, pack.Pack(c.Arg, "")))
	case c.Kind == keys && len(l) == 2:
		return r.keys(i, l[1])
	case c.Kind == single && len(l) == 2:
		return r.single(i, l[1])
	case c.Kind == pair && len(l) == 3:
		return r.pair(i, l[1], l[2])
	}
	return fold.Part{}
}

// index of the core that a call is about.
func (r *run) index(l []string) (int, bool) {
	if len(l) == 0 {
		return 0, false
	}
	i, err := strconv.Atoi(l[0])
	return i, err == nil && i >= 0 && i < len(r.cores)
}

func (r *run) whole() fold.Part {
	var parts []fold.Part
	for i := range r.cores {
		parts = append(parts, r.ask(core, strconv.Itoa(i)))
	}
	return fold.Merge(parts...)
}

func (r *run) keys(i int, path string) fold.Part {
	t := r.table(r.cores[i].Left).Keys()
	found, below := trie.Read(r.Read(t.Cell(path)))
	var parts []fold.Part
	for _, key := range found {
		parts = append(parts, r.ask(single, pack.Pack(strconv.Itoa(i), key)))
	}
	for _, d := range below {
		parts = append(parts, r.ask(keys, pack.Pack(strconv.Itoa(i), path+strconv.Itoa(d))))
	}
	return fold.Merge(parts...)
}

// row of a table, or none.
func (r *run) row(t catalog.Table, key string) (row.Row, bool) {
	text := r.Read(r.table(t).Row(key))
	if text == "" {
		return nil, false
	}
	x, err := row.Get(text)
	return x, err == api.OK && len(x) == len(t.Columns)
}

func (r *run) single(i int, key string) fold.Part {
	c := r.cores[i]
	x, ok := r.row(c.Left, key)
	if !ok {
		return fold.Part{}
	}
	if !c.Join {
		return fold.One(c, x)
	}
	var parts []fold.Part
	if v := x[c.On[0]]; v.Kind != value.Null {
		for _, other := range pack.All(r.Read(r.table(c.Right).Bucket(c.On[1], v))) {
			parts = append(parts, r.ask(pair, pack.Pack(strconv.Itoa(i), key, other)))
		}
	}
	if len(parts) == 0 && c.Outer {
		return fold.One(c, slices.Concat(x, make(row.Row, len(c.Right.Columns))))
	}
	return fold.Merge(parts...)
}

func (r *run) pair(i int, key, other string) fold.Part {
	c := r.cores[i]
	x, ok := r.row(c.Left, key)
	y, also := r.row(c.Right, other)
	if !ok || !also {
		return fold.Part{}
	}
	return fold.One(c, slices.Concat(x, y))
}
