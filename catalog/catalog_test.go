package catalog_test

import (
	"math/rand/v2"
	"slices"
	"strconv"
	"testing"

	"regrater/api"
	"regrater/catalog"
	"regrater/stmt"
	"regrater/value"
)

func column(name string, kind int, key bool) stmt.Column {
	return stmt.Column{Name: name, Kind: kind, Key: key}
}

func columns(l ...stmt.Column) []stmt.Column { return l }

var one = columns(column("a", value.Int, true))

func want(t *testing.T, what string, err, want api.Errno) {
	t.Helper()
	if err != want {
		t.Errorf("%s: %d; want %d", what, err, want)
	}
}

// P19.1, P19.2: the example of the chapter, and what is used can be dropped once it is not.
func TestExample(t *testing.T) {
	c := catalog.New()
	want(t, "Make", c.Make("t", one), api.OK)
	want(t, "View", c.View("v", "t"), api.OK)
	want(t, "Drop", c.Drop("t"), api.ErrUse)
	want(t, "DropView", c.DropView("v"), api.OK)
	want(t, "Drop", c.Drop("t"), api.OK)
	want(t, "Drop", c.Drop("t"), api.ErrName)
	want(t, "Make", c.Make("t", one), api.OK)
}

// P19.1: the errors of Make, each before those that the chapter names later.
func TestMake(t *testing.T) {
	c := catalog.New()
	want(t, "Make", c.Make("t", one), api.OK)
	want(t, "View", c.View("v"), api.OK)
	two := func(key1, key2 bool) []stmt.Column {
		return columns(column("a", value.Int, key1), column("b", value.Text, key2))
	}
	var many []stmt.Column
	for i := range 9 {
		many = append(many, column("c"+strconv.Itoa(i), value.Bool, i == 3))
	}
	for _, x := range []struct {
		name string
		l    []stmt.Column
		want api.Errno
	}{
		{"t", one, api.ErrTwice},
		{"v", one, api.ErrTwice},
		{"t", nil, api.ErrTwice},
		{"u", nil, api.ErrCount},
		{"u", two(false, false), api.ErrCount},
		{"u", two(true, true), api.ErrCount},
		{"u", many, api.ErrCount},
		{"u", columns(column("a", 9, false), column("a", 9, false)), api.ErrCount},
		{"u", columns(column("a", 0, true)), api.ErrType},
		{"u", columns(column("a", 4, true)), api.ErrType},
		{"u", columns(column("a", -1, true)), api.ErrType},
		{"u", columns(column("a", 1, true), column("a", 1, false), column("b", 4, false)), api.ErrType},
		{"u", columns(column("a", 1, true), column("b", 1, false), column("a", 2, false)), api.ErrTwice},
		{"u", columns(column("a", 1, true), column("b", 1, false), column("b", 1, false)), api.ErrTwice},
	} {
		want(t, x.name, c.Make(x.name, x.l), x.want)
		if _, ok := c.Table("u"); ok {
			t.Error("a table was made")
		}
	}
	want(t, "eight columns", c.Make("u", many[:8]), api.OK)
	if u, ok := c.Table("u"); !ok || u.Name != "u" || u.Key != 3 || !slices.Equal(u.Columns, many[:8]) {
		t.Error(u, ok)
	}
	for i := range api.MaxTables - 2 {
		want(t, "more", c.Make("t"+strconv.Itoa(i), two(false, true)), api.OK)
	}
	want(t, "too many", c.Make("w", one), api.ErrFull)
	want(t, "too many, wrong columns", c.Make("w", nil), api.ErrFull)
	want(t, "too many, name", c.Make("v", nil), api.ErrTwice)
	if x, _ := c.Table("t0"); x.Key != 1 {
		t.Error(x)
	}
	want(t, "Drop", c.Drop("t0"), api.OK)
	want(t, "again", c.Make("w", one), api.OK)
}

// P19.2: the errors of View, each before those that the chapter names later.
func TestView(t *testing.T) {
	c := catalog.New()
	c.Make("t", one)
	c.Make("u", one)
	want(t, "View", c.View("v", "t", "t", "u"), api.OK)
	want(t, "a view", c.View("v", "t"), api.ErrTwice)
	want(t, "a table", c.View("t", "x"), api.ErrTwice)
	want(t, "no table", c.View("w", "t", "x"), api.ErrName)
	want(t, "a view is no table", c.View("w", "v"), api.ErrName)
	for i := range api.MaxTables - 1 {
		want(t, "more", c.View("v"+strconv.Itoa(i), "u"), api.OK)
	}
	want(t, "too many", c.View("w", "t"), api.ErrFull)
	want(t, "too many, no table", c.View("w", "x"), api.ErrFull)
	want(t, "too many, name", c.View("v", "x"), api.ErrTwice)
	want(t, "a table of a view's name", c.Make("v", one), api.ErrTwice)
	for _, name := range []string{"x", "t", ""} {
		want(t, "DropView", c.DropView(name), api.ErrName)
	}
	want(t, "Drop of a view", c.Drop("v"), api.ErrName)
	want(t, "DropView", c.DropView("v0"), api.OK)
	want(t, "DropView", c.DropView("v0"), api.ErrName)
	want(t, "again", c.View("w"), api.OK)
	if got := c.Users("u"); !slices.Equal(got, []string{"v", "v1", "v2", "v3", "v4", "v5", "v6"}) {
		t.Error(got)
	}
	if got := c.Users("t"); !slices.Equal(got, []string{"v"}) {
		t.Error(got)
	}
	if len(c.Users("x")) != 0 || len(c.Users("v")) != 0 {
		t.Error("users of none")
	}
}

// P19.2: names come in order.
func TestNames(t *testing.T) {
	c := catalog.New()
	if tables, views := c.Names(); len(tables) != 0 || len(views) != 0 {
		t.Error(tables, views)
	}
	for _, name := range []string{"c", "a_", "a", "b"} {
		c.Make(name, one)
	}
	for _, name := range []string{"z", "x1", "x", "y"} {
		c.View(name, "a")
	}
	c.Drop("b")
	c.DropView("z")
	tables, views := c.Names()
	if !slices.Equal(tables, []string{"a", "a_", "c"}) || !slices.Equal(views, []string{"x", "x1", "y"}) {
		t.Error(tables, views)
	}
}

// P19.1, P19.2: against plain maps.
func TestModel(t *testing.T) {
	r := rand.New(rand.NewPCG(19, 1))
	c := catalog.New()
	tables, views := map[string]bool{}, map[string][]string{}
	names := []string{"a", "b", "c", "d", "e", "f", "g", "h", "i", "j", "k", "l", "m"}
	for range 5000 {
		name, other := names[r.IntN(len(names))], names[r.IntN(len(names))]
		_, isView := views[name]
		users := 0
		for _, uses := range views {
			if slices.Contains(uses, name) {
				users++
			}
		}
		var err, expect api.Errno
		switch r.IntN(5) {
		case 0:
			err = c.Make(name, one)
			if tables[name] || isView {
				expect = api.ErrTwice
			} else if len(tables) == 8 {
				expect = api.ErrFull
			} else {
				tables[name] = true
			}
		case 1:
			err = c.Drop(name)
			if !tables[name] {
				expect = api.ErrName
			} else if users > 0 {
				expect = api.ErrUse
			} else {
				delete(tables, name)
			}
		case 2, 3:
			err = c.View(name, other)
			if tables[name] || isView {
				expect = api.ErrTwice
			} else if len(views) == 8 {
				expect = api.ErrFull
			} else if !tables[other] {
				expect = api.ErrName
			} else {
				views[name] = []string{other}
			}
		case 4:
			err = c.DropView(name)
			if !isView {
				expect = api.ErrName
			}
			delete(views, name)
		}
		if err != expect {
			t.Fatal(name, other, err, expect)
		}
		gotTables, gotViews := c.Names()
		if len(gotTables) != len(tables) || len(gotViews) != len(views) {
			t.Fatal(gotTables, gotViews)
		}
		if _, ok := c.Table(name); ok != tables[name] {
			t.Fatal("Table", name)
		}
	}
}

// P19.3: the places of columns.
func TestColumn(t *testing.T) {
	x := catalog.Table{Columns: columns(column("a", 2, true), column("b", 3, false), column("a", 1, false))}
	for name, place := range map[string]int{"a": 0, "b": 1} {
		if i, ok := x.Column(name); i != place || !ok {
			t.Error(name, i, ok)
		}
	}
	for _, name := range []string{"", "c", "A"} {
		if i, ok := x.Column(name); i != 0 || ok {
			t.Error(name, i, ok)
		}
	}
	if i, ok := (catalog.Table{}).Column("a"); i != 0 || ok {
		t.Error(i, ok)
	}
}

// What is given and told shares no memory with the catalog.
func TestApart(t *testing.T) {
	c := catalog.New()
	given := columns(column("a", value.Int, true))
	c.Make("t", given)
	given[0].Name = "z"
	told, _ := c.Table("t")
	told.Columns[0].Name = "y"
	uses := []string{"t"}
	c.View("v", uses...)
	uses[0] = "x"
	if x, _ := c.Table("t"); x.Columns[0].Name != "a" || len(c.Users("t")) != 1 {
		t.Error(x, c.Users("t"))
	}
}

// P19.1 to P19.3: a nil catalog.
func TestNil(t *testing.T) {
	var c *catalog.Catalog
	want(t, "Make", c.Make("t", one), api.ErrArg)
	want(t, "Drop", c.Drop("t"), api.ErrArg)
	want(t, "View", c.View("t"), api.ErrArg)
	want(t, "DropView", c.DropView("t"), api.ErrArg)
	tables, views := c.Names()
	x, ok := c.Table("t")
	if len(tables)+len(views)+len(c.Users("t")) != 0 || ok || x.Name != "" || len(x.Columns) != 0 || x.Key != 0 {
		t.Error("something there")
	}
}
