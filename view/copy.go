package view

import (
	"slices"

	"regrater/catalog"
	"regrater/clone"
	"regrater/plan"
)

// copied plan, which shares no memory with the other one.
func copied(p plan.Plan) plan.Plan {
	cores := make([]plan.Core, 0, len(p.Cores))
	for _, c := range p.Cores {
		cores = append(cores, copiedCore(c))
	}
	p.Cores = cores
	p.Columns = slices.Clone(p.Columns)
	p.Order = slices.Clone(p.Order)
	p.Uses = slices.Clone(p.Uses)
	return p
}

func copiedCore(c plan.Core) plan.Core {
	c.Left, c.Right = copiedTable(c.Left), copiedTable(c.Right)
	c.Fields = slices.Clone(c.Fields)
	c.Where = clone.Exprs(c.Where)
	c.Group = slices.Clone(c.Group)
	c.Aggs = clone.Exprs(c.Aggs)
	c.Items = clone.Exprs(c.Items)
	c.Having = clone.Exprs(c.Having)
	return c
}

func copiedTable(t catalog.Table) catalog.Table {
	t.Columns = slices.Clone(t.Columns)
	return t
}
