package db

import (
	"regrater/api"
	"regrater/direct"
	"regrater/plan"
	"regrater/stmt"
	"regrater/view"
)

func (d *DB) makeView(s stmt.Stmt) Answer {
	p, err := plan.Of(s.Query, d.Catalog)
	if err != api.OK {
		return Answer{Err: err}
	}
	if err := d.Catalog.View(s.Name, p.Uses...); err != api.OK {
		return Answer{Err: err}
	}
	owner := d.owner()
	d.views[s.Name] = owned{view.New(d.store, d.seed, p, owner), owner}
	return Answer{}
}

func (d *DB) dropView(s stmt.Stmt) Answer {
	if err := d.DropView(s.Name); err != api.OK {
		return Answer{Err: err}
	}
	d.views[s.Name].view.Stop()
	delete(d.views, s.Name)
	return Answer{}
}

func (d *DB) choose(s stmt.Stmt) Answer {
	p, err := plan.Of(s.Query, d.Catalog)
	if err != api.OK {
		return Answer{Err: err}
	}
	rows, err := direct.Rows(d.store, d.seed, p)
	if err != api.OK {
		return Answer{Err: err}
	}
	return Answer{Columns: p.Columns, Rows: rows}
}

func (d *DB) read(s stmt.Stmt) Answer {
	v, ok := d.View(s.Name)
	if !ok {
		return Answer{Err: api.ErrName}
	}
	rows, err := v.Rows()
	if err != api.OK {
		return Answer{Err: err}
	}
	return Answer{Columns: v.Plan().Columns, Rows: rows}
}

func (d *DB) propagate(s stmt.Stmt) Answer {
	a := Answer{Done: true}
	_, names := d.Names()
	for _, name := range names {
		v := d.views[name].view
		steps, _ := v.Propagate(int(s.N) - a.N)
		a.N += steps
		a.Done = a.Done && !v.Stale()
	}
	return a
}
