package fold

import (
	"slices"
	"strconv"

	"regrater/agg"
	"regrater/api"
	"regrater/check"
	"regrater/expr"
	"regrater/plan"
	"regrater/row"
)

// Expressions over the values of a group: each aggregate is a column behind the core's fields.
type settled struct {
	fields []check.Field
	names  []string // of the aggregates that were not met yet
	items  []expr.Expr
	having []expr.Expr
}

func settle(c plan.Core) *settled {
	s := &settled{names: unused(c.Fields, len(c.Aggs)), fields: slices.Clone(c.Fields)}
	for i, e := range c.Aggs {
		kind, _ := check.Type(e, c.Fields, true)
		s.fields = append(s.fields, check.Field{Name: s.names[i], Kind: kind})
	}
	// Aggs are in this order.
	s.items = s.all(c.Items)
	s.having = s.all(c.Having)
	return s
}

// unused names of fields, so many.
func unused(fields []check.Field, count int) []string {
	names := make([]string, 0, count)
	for i := 0; len(names) < count; i++ {
		name := "a" + strconv.Itoa(i)
		if !slices.ContainsFunc(fields, func(f check.Field) bool { return f.Name == name }) {
			names = append(names, name)
		}
	}
	return names
}

func (s *settled) all(l []expr.Expr) []expr.Expr {
	out := make([]expr.Expr, 0, len(l))
	for _, e := range l {
		out = append(out, s.one(e))
	}
	return out
}

// one expression, in which each aggregate is its column.
func (s *settled) one(e expr.Expr) expr.Expr {
	if e.Kind == expr.Agg && len(s.names) > 0 {
		name := s.names[0]
		s.names = s.names[1:]
		return expr.Expr{Kind: expr.Col, Name: name}
	}
	e.L = s.all(e.L)
	return e
}

// row of a group, if it passes.
func (s *settled) row(c plan.Core, g agg.Group) (row.Row, bool, api.Errno) {
	values := make(row.Row, len(c.Fields))
	for i, at := range c.Group {
		values[at] = g.Row[i]
	}
	err := api.OK
	for i, e := range c.Aggs {
		at := i
		if len(e.L) == 0 {
			at = -1 // a COUNT(*)
		}
		v, wrong := g.Part.Final(e.Op, at)
		err = least(err, wrong)
		values = append(values, v)
	}
	if err != api.OK {
		return nil, false, err
	}
	ok, err := passes(s.having, s.fields, values)
	if err != api.OK || !ok {
		return nil, false, err
	}
	r, err := eval(s.items, s.fields, values)
	return r, err == api.OK, err
}
