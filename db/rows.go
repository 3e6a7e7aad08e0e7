package db

import (
	"slices"

	"regrater/api"
	"regrater/check"
	"regrater/expr"
	"regrater/row"
	"regrater/stmt"
	"regrater/table"
	"regrater/value"
)

func (d *DB) create(s stmt.Stmt) Answer {
	return Answer{Err: d.Make(s.Name, s.Columns)}
}

func (d *DB) drop(s stmt.Stmt) Answer {
	t, _ := d.table(s.Name)
	if err := d.Drop(s.Name); err != api.OK {
		return Answer{Err: err}
	}
	d.tell(t.Clear())
	return Answer{}
}

func (d *DB) insert(s stmt.Stmt) Answer {
	t, ok := d.table(s.Name)
	if !ok {
		return Answer{Err: api.ErrName}
	}
	rows, err := constant(s.Rows)
	if err != api.OK {
		return Answer{Err: err}
	}
	present := func(key value.Value) bool {
		_, ok := t.Get(key)
		return ok
	}
	if err := fit(t, rows, present); err != api.OK {
		return Answer{Err: err}
	}
	if len(t.Rows())+len(rows) > api.MaxRows {
		return Answer{Err: api.ErrFull}
	}
	d.put(t, rows)
	return Answer{N: len(rows)}
}

// constant rows: the values of expressions without columns.
func constant(l [][]expr.Expr) ([]row.Row, api.Errno) {
	for _, exprs := range l {
		for _, e := range exprs {
			if _, err := check.Type(e, nil, false); err != api.OK {
				return nil, err
			}
		}
	}
	var rows []row.Row
	for _, exprs := range l {
		var r row.Row
		for _, e := range exprs {
			v, err := check.Eval(e, nil, nil)
			if err != api.OK {
				return nil, err
			}
			r = append(r, v)
		}
		rows = append(rows, r)
	}
	return rows, api.OK
}

// fit: the first error of new rows of a table in which some keys are present.
func fit(t table.Table, rows []row.Row, present func(key value.Value) bool) api.Errno {
	seen := map[value.Value]struct{}{}
	for _, r := range rows {
		if err := t.Check(r); err != api.OK {
			return err
		}
		key := r[t.Key]
		if _, ok := seen[key]; ok || present(key) {
			return api.ErrTwice
		}
		seen[key] = struct{}{}
	}
	return api.OK
}

func (d *DB) put(t table.Table, rows []row.Row) {
	for _, r := range rows {
		told, _ := t.Put(r)
		d.tell(told)
	}
}

func (d *DB) take(t table.Table, rows []row.Row) {
	for _, r := range rows {
		told, _ := t.Take(r[t.Key])
		d.tell(told)
	}
}

// A choice of rows, or an error.
type choice func(r row.Row) (bool, api.Errno)

// selected: the choice of a WHERE, if there is one.
func selected(where []expr.Expr, fields []check.Field) (choice, api.Errno) {
	for _, e := range where {
		kind, err := check.Type(e, fields, false)
		if err != api.OK {
			return nil, err
		}
		if kind == value.Int || kind == value.Text {
			return nil, api.ErrType
		}
	}
	return func(r row.Row) (bool, api.Errno) {
		for _, e := range where {
			v, err := check.Eval(e, fields, r)
			if err != api.OK || !v.True() {
				return false, err
			}
		}
		return true, api.OK
	}, api.OK
}

func (d *DB) remove(s stmt.Stmt) Answer {
	t, ok := d.table(s.Name)
	if !ok {
		return Answer{Err: api.ErrName}
	}
	is, err := selected(s.Where, check.Fields(t.Table, ""))
	if err != api.OK {
		return Answer{Err: err}
	}
	var gone []row.Row
	for _, r := range t.Rows() {
		ok, err := is(r)
		if err != api.OK {
			return Answer{Err: err}
		}
		if ok {
			gone = append(gone, r)
		}
	}
	d.take(t, gone)
	return Answer{N: len(gone)}
}

func (d *DB) update(s stmt.Stmt) Answer {
	t, ok := d.table(s.Name)
	if !ok {
		return Answer{Err: api.ErrName}
	}
	fields := check.Fields(t.Table, "")
	if err := settable(t, s.Sets, fields); err != api.OK {
		return Answer{Err: err}
	}
	is, err := selected(s.Where, fields)
	if err != api.OK {
		return Answer{Err: err}
	}
	var before, after []row.Row
	kept := map[value.Value]struct{}{} // the keys of the other rows
	for _, r := range t.Rows() {
		ok, err := is(r)
		if err != api.OK {
			return Answer{Err: err}
		}
		if !ok {
			kept[r[t.Key]] = struct{}{}
			continue
		}
		changed, err := change(t, s.Sets, fields, r)
		if err != api.OK {
			return Answer{Err: err}
		}
		before, after = append(before, r), append(after, changed)
	}
	present := func(key value.Value) bool {
		_, ok := kept[key]
		return ok
	}
	if err := fit(t, after, present); err != api.OK {
		return Answer{Err: err}
	}
	d.take(t, before)
	d.put(t, after)
	return Answer{N: len(after)}
}

// settable: the first error of sets, whatever the rows are.
func settable(t table.Table, sets []stmt.Set, fields []check.Field) api.Errno {
	for i, set := range sets {
		at, ok := t.Column(set.Name)
		if !ok {
			return api.ErrName
		}
		if slices.ContainsFunc(sets[:i], func(x stmt.Set) bool { return x.Name == set.Name }) {
			return api.ErrTwice
		}
		kind, err := check.Type(set.E, fields, false)
		if err != api.OK {
			return err
		}
		if kind != value.Null && kind != t.Columns[at].Kind {
			return api.ErrType
		}
	}
	return api.OK
}

// change a row by sets.
func change(t table.Table, sets []stmt.Set, fields []check.Field, r row.Row) (row.Row, api.Errno) {
	changed := slices.Clone(r)
	for _, set := range sets {
		v, err := check.Eval(set.E, fields, r)
		if err != api.OK {
			return nil, err
		}
		at, _ := t.Column(set.Name)
		changed[at] = v
	}
	return changed, api.OK
}
