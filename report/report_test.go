package report_test

import (
	"math/rand/v2"
	"reflect"
	"slices"
	"strconv"
	"testing"

	"regrater/api"
	"regrater/audit"
	"regrater/db"
	"regrater/report"
	"regrater/trace"
)

func do(t *testing.T, d *db.DB, l ...string) {
	t.Helper()
	for _, s := range l {
		if a := d.Exec(s); a.Err != api.OK {
			t.Fatal(s, a.Err, a.At)
		}
	}
}

// P29.1: a new db, and none.
func TestEmpty(t *testing.T) {
	for _, d := range []*db.DB{db.New(1), nil} {
		if got := report.Tell(d); got != (report.Report{Sound: true}) {
			t.Error(got)
		}
	}
}

// P29.1: numbers that can be counted by hand.
func TestTell(t *testing.T) {
	d := db.New(1)
	do(t, d, "CREATE TABLE t (a INT PRIMARY KEY, b TEXT)", "CREATE TABLE u (c INT PRIMARY KEY)", "INSERT INTO t VALUES (1, 'x'), (2, 'x'), (3, NULL)", "INSERT INTO u VALUES (1)")
	// t: the trie, three rows, three buckets of a, one of b; u: the trie, a row, a bucket.
	want := report.Report{Tables: 2, Rows: 4, Cells: 11, Sound: true}
	if got := report.Tell(d); got != want {
		t.Error(got, want)
	}
	do(t, d, "CREATE VIEW v AS SELECT a FROM t")
	want.Views, want.Nodes, want.Reads, want.Watches, want.Depth = 1, 6, 4, 4, 4
	if got := report.Tell(d); got != want {
		t.Error(got, want)
	}
	// In w, a row of t reads a bucket, too; a call of Kind 4 is one level below.
	do(t, d, "CREATE VIEW w AS SELECT a FROM t JOIN u ON a = c")
	want.Views, want.Nodes, want.Reads, want.Watches, want.Depth = 2, 13, 4+1+3+3+2, 4+1+3+3+2, 5
	if got := report.Tell(d); got != want {
		t.Error(got, want)
	}
	do(t, d, "DELETE FROM u")
	want.Rows, want.Cells, want.Dirty, want.Stale = 3, 8, 2, 1
	if got := report.Tell(d); got != want {
		t.Error(got, want)
	}
	// The trie's cell, and the row's; the two nodes of w that read the latter are dirty already.
	do(t, d, "UPDATE t SET b = 'y' WHERE a = 1")
	want.Cells, want.Dirty, want.Stale = 9, 2+1+2, 2
	if got := report.Tell(d); got != want {
		t.Error(got, want)
	}
	do(t, d, "PROPAGATE 1000", "DROP VIEW w", "DROP TABLE u")
	want = report.Report{Tables: 1, Views: 1, Rows: 3, Cells: 9, Watches: 4, Nodes: 6, Reads: 4, Depth: 4, Sound: true}
	if got := report.Tell(d); got != want {
		t.Error(got, want)
	}
	// Watches that are nobody's.
	d.Store().Watch("else", 5)
	want.Watches, want.Sound = 5, false
	if got := report.Tell(d); got != want {
		t.Error(got, want)
	}
}

// P29.1: after any statements, against what the layers below tell.
func TestModel(t *testing.T) {
	r := rand.New(rand.NewPCG(29, 1))
	d := db.New(5)
	do(t, d, "CREATE TABLE t (a INT PRIMARY KEY, n INT)", "CREATE TABLE u (c INT PRIMARY KEY)", "CREATE VIEW x AS SELECT n, COUNT(*) FROM t GROUP BY n", "CREATE VIEW y AS SELECT a FROM t LEFT JOIN u ON n = c", "CREATE VIEW z AS SELECT c FROM u")
	for range 200 {
		n := strconv.Itoa(r.IntN(30))
		d.Exec([]string{"INSERT INTO t VALUES (" + n + ", " + strconv.Itoa(r.IntN(9)) + ")", "INSERT INTO u VALUES (" + n + ")", "DELETE FROM t WHERE a = " + n, "DELETE FROM u WHERE c = " + n, "PROPAGATE " + n, "DROP VIEW z", "CREATE VIEW z AS SELECT c FROM u"}[r.IntN(7)])
		want := report.Report{Tables: 2, Cells: d.Store().Len(), Watches: d.Store().Watches()}
		for _, name := range []string{"t", "u"} {
			rows, _ := d.Rows(name)
			want.Rows += len(rows)
		}
		var traces []*trace.Trace
		for _, name := range []string{"x", "y", "z"} {
			v, ok := d.View(name)
			if !ok {
				continue
			}
			size := audit.Measure(v.Traced())
			want.Views++
			want.Nodes, want.Reads, want.Depth = want.Nodes+size.Nodes, want.Reads+size.Reads, max(want.Depth, size.Depth)
			want.Dirty += v.Traced().Dirty()
			if v.Stale() {
				want.Stale++
			}
			traces = append(traces, v.Traced())
		}
		want.Sound = audit.Sound(d.Store(), traces...)
		if got := report.Tell(d); got != want || !got.Sound {
			t.Fatal(got, want)
		}
	}
}

// P29.2: a line for each field, in their order.
func TestLines(t *testing.T) {
	got := report.Report{1, 2, 30, 4, 5, 6, 7, 8, 9, 10, true}.Lines()
	want := []string{"tables 1", "views 2", "rows 30", "cells 4", "watches 5", "nodes 6", "reads 7", "depth 8", "dirty 9", "stale 10", "sound yes"}
	if !slices.Equal(got, want) {
		t.Error(got)
	}
	got = report.Report{Views: -1}.Lines()
	want = []string{"tables 0", "views -1", "rows 0", "cells 0", "watches 0", "nodes 0", "reads 0", "depth 0", "dirty 0", "stale 0", "sound no"}
	if !slices.Equal(got, want) {
		t.Error(got)
	}
	if n := reflect.TypeOf(report.Report{}).NumField(); n != 11 {
		t.Error("fields", n)
	}
}
