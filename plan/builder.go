package plan

import (
	"slices"

	"regrater/api"
	"regrater/catalog"
	"regrater/check"
	"regrater/clone"
	"regrater/expr"
	"regrater/stmt"
	"regrater/value"
)

// A builder of a core, from that of a query.
type builder struct {
	Core
	from    stmt.Core
	catalog *catalog.Catalog
	left    int   // how many fields are those of From
	kinds   []int // of the items
}

func (b *builder) build() api.Errno {
	for _, step := range []func() api.Errno{b.tables, b.join, b.where, b.group, b.items, b.having} {
		if err := step(); err != api.OK {
			return err
		}
	}
	return api.OK
}

func (b *builder) uses() []string {
	if b.Join {
		return []string{b.from.From, b.from.Other}
	}
	return []string{b.from.From}
}

func (b *builder) tables() api.Errno {
	var ok bool
	if b.Left, ok = b.catalog.Table(b.from.From); !ok {
		return api.ErrName
	}
	b.Distinct, b.Join = b.from.Distinct, b.from.Join
	b.Fields = check.Fields(b.Left, b.from.Alias)
	b.left = len(b.Fields)
	if !b.Join {
		return api.OK
	}
	if b.Right, ok = b.catalog.Table(b.from.Other); !ok {
		return api.ErrName
	}
	if called(b.Left, b.from.Alias) == called(b.Right, b.from.Named) {
		return api.ErrTwice
	}
	b.Fields = append(b.Fields, check.Fields(b.Right, b.from.Named)...)
	return api.OK
}

// called: a table's name in a query.
func called(t catalog.Table, as string) string {
	if as == "" {
		return t.Name
	}
	return as
}

func (b *builder) join() api.Errno {
	if !b.Join {
		return api.OK
	}
	b.Outer = b.from.Left
	first, err := check.Find(b.Fields, b.from.On[0])
	if err != api.OK {
		return err
	}
	second, err := check.Find(b.Fields, b.from.On[1])
	if err != api.OK {
		return err
	}
	first, second = min(first, second), max(first, second)
	if first >= b.left || second < b.left {
		return api.ErrForm
	}
	if b.Fields[first].Kind != b.Fields[second].Kind {
		return api.ErrType
	}
	b.On = [2]int{first, second - b.left}
	return api.OK
}

// condition: the error of an expression that is to be true or not.
func (b *builder) condition(e expr.Expr, aggregates bool) api.Errno {
	kind, err := check.Type(e, b.Fields, aggregates)
	if err == api.OK && (kind == value.Int || kind == value.Text) {
		return api.ErrType
	}
	return err
}

func (b *builder) where() api.Errno {
	for _, e := range b.from.Where {
		if err := b.condition(e, false); err != api.OK {
			return err
		}
	}
	b.Where = clone.Exprs(b.from.Where)
	return api.OK
}

func (b *builder) group() api.Errno {
	for _, e := range b.from.Group {
		i, err := check.Find(b.Fields, e)
		if err != api.OK {
			return err
		}
		b.Group = append(b.Group, i)
	}
	b.Grouped = len(b.Group) > 0
	for _, item := range b.from.Items {
		b.Grouped = b.Grouped || len(check.Aggregates(item.E)) > 0
	}
	return api.OK
}

func (b *builder) items() api.Errno {
	if len(b.from.Items) == 0 && b.Grouped {
		return api.ErrForm
	}
	for _, e := range b.listed() {
		kind, err := check.Type(e, b.Fields, true)
		if err != api.OK {
			return err
		}
		if !b.settled(e) {
			return api.ErrForm
		}
		b.Items = append(b.Items, clone.Expr(e))
		b.Aggs = append(b.Aggs, check.Aggregates(e)...)
		b.kinds = append(b.kinds, kind)
	}
	return api.OK
}

// listed: the expressions of the items, also of those that a * stands for.
func (b *builder) listed() []expr.Expr {
	var l []expr.Expr
	for _, item := range b.from.Items {
		l = append(l, item.E)
	}
	if len(l) > 0 {
		return l
	}
	for _, f := range b.Fields {
		l = append(l, expr.Expr{Kind: expr.Col, Table: f.Table, Name: f.Name})
	}
	return l
}

// settled tells whether an expression has one value for each group, if there are groups: whether its bare columns are theirs.
func (b *builder) settled(e expr.Expr) bool {
	if !b.Grouped || e.Kind == expr.Agg {
		return true
	}
	if e.Kind == expr.Col {
		i, _ := check.Find(b.Fields, e)
		return slices.Contains(b.Group, i)
	}
	return !slices.ContainsFunc(e.L, func(x expr.Expr) bool { return !b.settled(x) })
}

func (b *builder) having() api.Errno {
	for _, e := range b.from.Having {
		if err := b.condition(e, true); err != api.OK {
			return err
		}
		if !b.settled(e) {
			return api.ErrForm
		}
		b.Aggs = append(b.Aggs, check.Aggregates(e)...)
	}
	b.Having = clone.Exprs(b.from.Having)
	return api.OK
}

// columns: names and kinds of the items.
func (b *builder) columns() []Column {
	var l []Column
	for i, e := range b.Items {
		c := Column{e.Name, b.kinds[i]} // what is no column has no name
		if i < len(b.from.Items) && b.from.Items[i].As != "" {
			c.Name = b.from.Items[i].As
		}
		l = append(l, c)
	}
	return l
}
